/-
  A RANGE OVER A STRING, wherever its iterator lies; a place as a result.
-/
import Derived.Test.YtpgoikecignldaaDoorSp
import Derived.Test.YtpgoikecignldaaDoorNlP
import Derived.Test.YtpgoikecignldaaDoorRunesK
import Derived.Laws.Rows
import Derived.Laws.ResultCell
set_option linter.unusedVariables false
namespace Go.Proofs.YtpgoikecignldaaDoor
open Go Go.RowKit

/-- The iterator set on. -/
def setIter (w : World) (g : Nat) (s : ByteArray) (pos : Nat) : World := { w with heap := w.heap.setIfInBounds g (.stringIter s pos) }
theorem run_next_at (w : World) (g : Nat) (s : ByteArray) (pos : Nat) (ty : TypeId) (hg : w.heap[g]? = some (.stringIter s pos)) (hp : pos < s.size) :
    (Instr.next (.pointer (some ⟨g, 0, none⟩)) true ty).run Tryd.prog w = .ok (.tuple #[.bool true, .int .i64 pos, .int .i32 (Utf8.decode s pos).1]) (setIter w g s (pos + (Utf8.decode s pos).2)) := by
  simp only [Instr.next, getObj, setObj, Sem.run_bind, Sem.run, hg, Result.andThen, hp, if_true]
  simp [goInt, setIter]
theorem run_next_done (w : World) (g : Nat) (s : ByteArray) (pos : Nat) (ty : TypeId) (hg : w.heap[g]? = some (.stringIter s pos)) (hp : ¬ pos < s.size) :
    (Instr.next (.pointer (some ⟨g, 0, none⟩)) true ty).run Tryd.prog w = .ok (.tuple #[.bool false]) w := by
  simp [Instr.next, getObj, Sem.run, hg, hp]
theorem iter_same {w : World} {g : Nat} {o : Obj} {s : ByteArray} {pos : Nat} (h : w.heap[g]? = some o) : (setIter w g s pos).heap[g]? = some (.stringIter s pos) := by
  have := heap_lt h
  simp [setIter, this]
theorem iter_far {w : World} {g b : Nat} {s : ByteArray} {pos : Nat} (h : b ≠ g) : (setIter w g s pos).heap[b]? = w.heap[b]? := by
  simp [setIter, Ne.symm h]
theorem Kept.iter (w : World) (g : Nat) (s : ByteArray) (pos : Nat) : Kept (fun b => b = g) w (setIter w g s pos) :=
  ⟨rfl, rfl, rfl, by simp [setIter], fun k _ hk => iter_far hk⟩
theorem iterPos_at {w : World} {g : Nat} {s : ByteArray} {pos : Nat} (h : w.heap[g]? = some (.stringIter s pos)) : w.iterPos g = pos := by
  unfold World.iterPos
  rw [h]
/-- A place in memory, told with an error. -/
theorem res_pos {fn : Func} {p u : Tmp} (h : fn.results = #[.cell p 24, .tmp u]) (tmps : Array Value) (w : World) (g : Nat) (a b : Int) (fr : Nat × Nat) (hp : tmps.getD p undef = .pointer (some ⟨g, 0, none⟩)) (hg : w.heap[g]? = some (.cells #[.int .i64 a, .int .i64 b] 24 fr)) :
    (results fn tmps).run Tryd.prog w = .ok (.tuple #[.agg #[.int .i64 a, .int .i64 b], tmps.getD u undef]) w := by
  rw [results_cell_tmp h, hp]
  simp [asAddr, Result.andThen, run_loadVar_row w g _ _ _ _ _ hg Tryd.underlying24 rfl (by kernel_rfl)]
abbrev posO (a b : Int) : Obj := .cells #[.int .i64 a, .int .i64 b] 24
/-- The runes from a byte on, by what stands there. -/
theorem rune_step {s : ByteArray} {t : List Int} {pos j : Nat} (h : Utf.runes (s.data.toList.drop pos) = t.drop j) (hp : pos < s.size) : t[j]? = some ((Utf8.decode s pos).1 : Int) ∧ Utf.runes (s.data.toList.drop (pos + (Utf8.decode s pos).2)) = t.drop (j + 1) ∧ pos < pos + (Utf8.decode s pos).2 := by
  have e := rune_at s pos hp
  rw [h] at e
  have hl : j < t.length := by
    by_cases hl : j < t.length
    · exact hl
    · rw [List.drop_eq_nil_of_le (by omega)] at e; cases e
  rw [List.drop_eq_getElem_cons hl] at e
  injection e with e1 e2
  refine ⟨by rw [List.getElem?_eq_getElem hl, e1], e2.symm, ?_⟩
  by_cases ha : (s[pos]'hp).toNat < 128
  · rw [decode_ascii s pos hp ha]; simp
  · have := (decode_high s pos hp (by omega)).2
    omega
theorem rune_stop {s : ByteArray} {t : List Int} {pos j : Nat} (h : Utf.runes (s.data.toList.drop pos) = t.drop j) (hp : ¬ pos < s.size) (hj : j ≤ t.length) : j = t.length := by
  rw [rune_end s pos hp] at h
  have := congrArg List.length h
  simp at this
  omega
end Go.Proofs.YtpgoikecignldaaDoor
