/-
  THE REFERENCE's column and Key (chapter 18).
-/
import Derived.Test.YtkeojjojilfklaaDoorRr
import Derived.Test.YtkeojjojilfklaaDoorCh3
set_option linter.unusedVariables false
namespace Go.Proofs.YtkeojjojilfklaaDoor
open Go Go.RowKit

set_option maxRecDepth 100000 in
theorem column_yes (A : Option Addr) (n c : Nat) (t : List Int) (lo at' : Nat) (w : World) (hA : Rn w A n t) (hlo : lo ≤ n) (hat : at' ≤ n) (hn : n ≤ 100000) :
    Calls Tryd.prog 60 #[.slice A n c, .int .i64 lo, .int .i64 at'] w fun e w' => e = .returned (.int .i64 (Rw.rst t (Rw.spt t lo true at') : Nat)) ∧ w' = w := by
  have hb := Rw.beg_le t at'
  have he := Rw.en_le t lo (by rw [hA.1]; exact hlo)
  rw [hA.1] at he
  have cE := rend_any A n c t lo w hA hlo hn
  have cB := rbegin_any A n c t at' w hA hat hn
  have hS : Rw.spt t lo true at' = min (Rw.en t lo) (lo + (at' - Rw.beg t at')) := by unfold Rw.spt; rw [if_pos rfl]
  have cR := rrest_any A n c t (Rw.spt t lo true at') w hA (by rw [hS]; omega) hn
  generalize Rw.spt t lo true at' = S at *
  generalize Rw.rst t S = V at *
  generalize Rw.beg t at' = x1 at *
  generalize Rw.en t lo = x4 at *
  have e : min (x4 : Int) ((lo : Int) + (at' : Int) - (x1 : Int)) = (S : Nat) := by rw [hS]; omega
  clear hS hA
  go_enter Tryd.func60, Tryd.ntmps60
  go_wp2_with (first | (go_at_call 25; refine cE.mono ?_; rintro e w' ⟨rfl, rfl⟩) | (go_at_call 40; refine cB.mono ?_; rintro e w' ⟨rfl, rfl⟩) | (go_at_call 59; refine cR.mono ?_; rintro e w' ⟨rfl, rfl⟩))
  go_ret
  exact ⟨rfl, rfl⟩
/-- The keys of the chapter. -/
def opKeys : List Int := [100, 99, 121, 62, 60, 16777333, 16777301, 16777342]
set_option maxRecDepth 100000 in
theorem rkey_any (key : Int) (B : Bool) (w : World) (hB : B = true ↔ key ∈ opKeys) :
    Calls Tryd.prog 34 #[.int .i64 key] w fun e w' => e = .returned (.bool B) ∧ Kept (fun _ => False) w w' := by
  have hk : Kept (fun _ => False) w (w.alloc (.cells (opKeys.map (Value.int .i64)).toArray 3)) := (Kept.refl _ w).alloc _
  have cI := zin_any _ _ 8 opKeys key _ (nums_new w opKeys 3) (by decide)
  have HB := Lib.hid hB
  have HK := Lib.hid hk
  clear hB hk
  simp only [opKeys, List.map, List.length] at cI HK
  go_enter Tryd.func34, Tryd.ntmps34
  go_wp2_with (go_at_call 58; refine cI.mono ?_; rintro e w' ⟨⟨r, rfl, h1, h2, h3⟩, rfl⟩; have H3 := Lib.hid h3; clear h3 cI)
  have e : decide (0 ≤ r) = B := by
    by_cases h : 0 ≤ r
    · rw [decide_eq_true h, HB.out.2 (H3.out.1 h)]
    · rw [decide_eq_false h, bool_no HB.out (fun hm => h (H3.out.2 hm))]
  go_ret
  exact ⟨by rw [← e]; rfl, HK.out⟩
end Go.Proofs.YtkeojjojilfklaaDoor
