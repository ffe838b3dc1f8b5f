/-
  ELEMENTS: the greater one is first.
-/
import Derived.Test.YtlminkbaafjloaaDoorOdJ
import Derived.Test.YtlminkbaafjloaaDoorOdK
import Derived.Test.YtlminkbaafjloaaDoorOdL
set_option linter.unusedVariables false
namespace Go.Proofs.YtlminkbaafjloaaDoor
open Go Go.RowKit

theorem do_first (b : OpS) (hb : b.o = wkOp 1 97) (w : World) (hB : OpOk w b) (hT : Tabs w) :
    Calls Tryd.prog 20 #[.slice none 0 0, opV b] w fun e w' => (∃ g, e = .returned (.tuple #[.slice (some ⟨g, 0, none⟩) 1 1, .int .i64 0]) ∧ w'.heap[g]? = some (elemO ⟨1, 1, 97, false⟩)) ∧ Kept (fun _ => False) w w' := by
  refine (do_of [] (fun _ => 0) (.slice none 0 0) b 1 97 hb w (se_nil w) few_nil (by rw [hb]; decide) (by simp) hB hT (fun x W => ∃ g, x = .slice (some ⟨g, 0, none⟩) 1 1 ∧ W.heap[g]? = some (elemO ⟨1, 1, 97, false⟩)) ?_ ?_).mono ?_
  · rintro x W W' hk ⟨g, rfl, hg⟩
    exact ⟨g, rfl, hk.cellsAtE hg id⟩
  · intro W hk
    refine (insert_nil b hb W).mono ?_
    rintro e w' ⟨⟨g, rfl, hg⟩, hk'⟩
    exact ⟨⟨_, rfl, g, rfl, hg⟩, hk'⟩
  · rintro e w' ⟨⟨x, rfl, g, rfl, hg⟩, hk'⟩
    exact ⟨⟨g, rfl, hg⟩, hk'⟩
theorem do_second (lg : Nat) (b : OpS) (hb : b.o = wkOp 2 98) (w : World) (hl : w.heap[lg]? = some (elemO ⟨1, 1, 97, false⟩)) (hB : OpOk w b) (hT : Tabs w) :
    Calls Tryd.prog 20 #[.slice (some ⟨lg, 0, none⟩) 1 1, opV b] w fun e w' => (∃ g, e = .returned (.tuple #[.slice (some ⟨g, 0, none⟩) 2 2, .int .i64 0]) ∧ w'.heap[g]? = some (.cells #[.int .i64 1, .int .i64 2, .int .i64 98, .bool false, .int .i64 1, .int .i64 1, .int .i64 97, .bool false] 56 (0, 0))) ∧ Kept (fun _ => False) w w' := by
  refine (do_of [⟨1, 1, 97, false⟩] (fun k => if k = 0 then 0 else 64) (.slice (some ⟨lg, 0, none⟩) 1 1) b 2 98 hb w (se_one hl) few_one (by rw [hb]; decide) (by simp) hB hT (fun x W => ∃ g, x = .slice (some ⟨g, 0, none⟩) 2 2 ∧ W.heap[g]? = some (.cells #[.int .i64 1, .int .i64 2, .int .i64 98, .bool false, .int .i64 1, .int .i64 1, .int .i64 97, .bool false] 56 (0, 0))) ?_ ?_).mono ?_
  · rintro x W W' hk ⟨g, rfl, hg⟩
    exact ⟨g, rfl, hk.cellsAtE hg id⟩
  · intro W hk
    refine (insert_one lg b hb W (hk.cellsAtE hl id)).mono ?_
    rintro e w' ⟨⟨g, rfl, hg⟩, hk'⟩
    exact ⟨⟨_, rfl, g, rfl, hg⟩, hk'⟩
  · rintro e w' ⟨⟨x, rfl, g, rfl, hg⟩, hk'⟩
    exact ⟨⟨g, rfl, hg⟩, hk'⟩
set_option maxRecDepth 100000 in
set_option maxHeartbeats 16000000 in
theorem wakes24 (w : World) (hT : Tabs w) : Calls Tryd.prog 13 #[] w fun e w' => e = .returned (.bool true) ∧ Kept (fun _ => False) w w' := by
  have cO1 := fun W => op_any 1 97 (.inl rfl) ⟨by decide, by decide⟩ W
  have cO2 := fun W => op_any 2 98 (.inr rfl) ⟨by decide, by decide⟩ W
  have cN := fun W => num24_any 0 W
  have HT := Lib.hid hT
  have HKZ : Hid (Kept (fun _ => False) w w) := Kept.refl _ _
  clear hT
  go_enter Tryd.func13, Tryd.ntmps13
  go_wp2_with (first
    | (go_at_call 26; refine (cO1 _).mono ?_; clear cO1; rintro ee w1 ⟨⟨g1, rfl, hb1⟩, hk1⟩; have HKY := Lib.hid (HKZ.out.trans hk1); clear hk1 HKZ; have HKZ := HKY; clear HKY; have cD1 := do_first _ rfl w1 hb1 (HT.out.kept HKZ.out id id); clear hb1)
    | (go_at_call 20; refine cD1.mono ?_; clear cD1; rintro ee w2 ⟨⟨lg, rfl, hl⟩, hk2⟩; have HL := Lib.hid hl; have HKY := Lib.hid (HKZ.out.trans hk2); clear hk2 hl HKZ; have HKZ := HKY; clear HKY)
    | (go_at_call 26; refine (cO2 _).mono ?_; clear cO2; rintro ee w3 ⟨⟨g3, rfl, hb3⟩, hk3⟩; have HKY := Lib.hid (HKZ.out.trans hk3); have cD2 := do_second lg _ rfl w3 (hk3.cellsAtE HL.out id) hb3 (HT.out.kept HKY.out id id); clear hk3 HKZ HL; have HKZ := HKY; clear HKY; clear hb3)
    | (go_at_call 20; refine cD2.mono ?_; clear cD2; rintro ee w4 ⟨⟨g, rfl, hg⟩, hk4⟩; have HKY := Lib.hid (HKZ.out.trans hk4); clear hk4 HKZ; have HKZ := HKY; clear HKY; have cX := text_two g w4 hg (HT.out.kept HKZ.out id id); clear hg)
    | (go_at_call 27; refine cX.mono ?_; clear cX; rintro ee w5 ⟨rfl, hk5⟩; have HKY := Lib.hid (HKZ.out.trans hk5); clear hk5 HKZ; have HKZ := HKY; clear HKY)
    | (go_at_call 11; refine (cN _).mono ?_; rintro ee w6 ⟨rfl, rfl⟩))
  go_ret
  exact ⟨rfl, HKZ.out⟩
set_option maxHeartbeats 2000000 in
theorem orderFirst_any (p : ScrE) (w : World) (hp : ScrEOk w p) (hT : Tabs w) : Calls Tryd.prog 3 #[.agg p.cells] w fun e w' => e = .returned (.bool true) ∧ Kept (fun _ => False) w w' := orderFirst_of wakes24 p w hp hT
end Go.Proofs.YtlminkbaafjloaaDoor
