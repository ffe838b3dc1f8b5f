/-
  Between OF THE REFERENCE: the patch from one text to another.
-/
import Derived.Test.YtpgoikecignldaaDoorBt
import Derived.Deep.CutRange
set_option linter.unusedVariables false
namespace Go.Proofs.YtpgoikecignldaaDoor
open Go Go.RowKit

theorem res_pat1 {fn : Func} {p : Tmp} (h : fn.results = #[.cell p 38]) (tmps : Array Value) (w : World) (g : Nat) (a d : Int) (s : ByteArray) (fr : Nat × Nat) (hp : tmps.getD p undef = .pointer (some ⟨g, 0, none⟩)) (hg : w.heap[g]? = some (.cells #[.int .i64 a, .int .i64 d, .string s] 38 fr)) :
    (results fn tmps).run Tryd.prog w = .ok (patV a d s) w :=
  results_cell_row h tmps _ g _ _ _ _ hp hg Tryd.underlying38 rfl (by kernel_rfl)
theorem cpl_step {s t : List Int} {j : Nat} (h : 0 < Rw.cpl (s.drop j) (t.drop j)) : j < s.length ∧ j < t.length ∧ Rw.cpl (s.drop j) (t.drop j) = 1 + Rw.cpl (s.drop (j + 1)) (t.drop (j + 1)) := by
  have hl := Rw.cpl_le (s.drop j) (t.drop j)
  simp only [List.length_drop] at hl
  have h1 : j < s.length := by omega
  have h2 : j < t.length := by omega
  refine ⟨h1, h2, ?_⟩
  by_cases e : s[j] = t[j]
  · exact Rw.cpl_hit (a := s[j]) (List.getElem?_eq_getElem h1) (by rw [List.getElem?_eq_getElem h2, e])
  · have := Rw.cpl_miss (List.getElem?_eq_getElem h1) (List.getElem?_eq_getElem h2) e
    omega
end Go.Proofs.YtpgoikecignldaaDoor
