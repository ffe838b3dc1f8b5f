/-
  THE REFERENCE's Moves and Shift; a patch's law wakes.
-/
import Derived.Test.YtonenopfdoagcaaDoorPtS
set_option linter.unusedVariables false
namespace Go.Proofs.YtonenopfdoagcaaDoor
open Go Go.RowKit

set_option maxRecDepth 100000 in
theorem rshift_yes (s : ByteArray) (a d x : Int) (w : World) (hx : 0 ≤ x ∧ x ≤ 4000) (ha : 0 ≤ a ∧ a ≤ 4000) (hd : 0 ≤ d ∧ d ≤ 4000) (hsz : s.size ≤ 4000) :
    Calls Tryd.prog 17 #[patV a d s, .int .i64 x] w fun e w' => e = .returned (.int .i64 (shf a d (rs s).length x)) ∧ Kept (fun _ => False) w w' := by
  have hl := rs_len s
  have hka : Kept (fun _ => False) w (w.alloc (patO a d s)) := (Kept.refl _ w).alloc _
  have HG : Hid ((w.alloc (patO a d s)).heap[w.heap.size]? = some (patO a d s)) := heap_alloc_new w _
  have cR := fun W => rlen_any s W (by omega)
  generalize (rs s).length = n at *
  have HKA := Lib.hid hka
  have HR := Lib.hid cR
  obtain ⟨g, hg⟩ : ∃ g, w.heap.size = g := ⟨_, rfl⟩
  have hw0 : IntKind.i64.wrap (a + d) = a + d := IntWalk.i64_in _ ⟨by omega, by omega⟩
  have hw1 : IntKind.i64.wrap (x + (n : Int)) = x + (n : Int) := IntWalk.i64_in _ ⟨by omega, by omega⟩
  have hw2 : IntKind.i64.wrap (x + (n : Int) - d) = x + (n : Int) - d := IntWalk.i64_in _ ⟨by omega, by omega⟩
  clear hka cR
  rcases (show (x ≤ a) ∨ (¬ x ≤ a ∧ x < a + d) ∨ (¬ x ≤ a ∧ ¬ x < a + d) by omega) with h1 | ⟨h1, h2⟩ | ⟨h1, h2⟩
  · have e : shf a d n x = x := by unfold shf; rw [if_pos h1]
    rw [e]
    have b1 : decide (x ≤ a) = true := by simp; omega
    go_enter Tryd.func17, Tryd.ntmps17
    go_wp2
    go_ret
    exact ⟨rfl, HKA.out⟩
  · have e : shf a d n x = a := by unfold shf; rw [if_neg h1, if_pos h2]
    rw [e]
    have b1 : decide (x ≤ a) = false := by simp; omega
    have b2 : decide (x < a + d) = true := by simp; omega
    go_enter Tryd.func17, Tryd.ntmps17
    go_wp2
    go_ret
    exact ⟨rfl, HKA.out⟩
  · have e : shf a d n x = x + n - d := by unfold shf; rw [if_neg h1, if_neg h2]
    rw [e]
    have b1 : decide (x ≤ a) = false := by simp; omega
    have b2 : decide (x < a + d) = false := by simp; omega
    go_enter Tryd.func17, Tryd.ntmps17
    go_upto_region 5 with fail
    simp only [hg] at HG ⊢
    generalize w.alloc (patO a d s) = wa at *
    obtain ⟨q0, q1, q2⟩ := pat_cells HG.out
    have K1 : wa.drew.cell? ⟨g, 1, none⟩ = some (.int .i64 d) ∧ wa.drew.cell? ⟨g, 2, none⟩ = some (.string s) := ⟨q1, q2⟩
    go_region_held3 (fun (w' : World) => w'.cell? ⟨g, 1, none⟩ = some (.int .i64 d) ∧ w'.cell? ⟨g, 2, none⟩ = some (.string s)) (first | with_reducible exact K2 | with_reducible exact K1)
      ((go_at_call 31; refine (HR.out _).mono ?_; rintro e w2 ⟨rfl, hk2⟩; have K2 : w2.cell? ⟨g, 1, none⟩ = some (.int .i64 d) ∧ w2.cell? ⟨g, 2, none⟩ = some (.string s) := ⟨cell_kept hk2 K1.1 id, cell_kept hk2 K1.2 id⟩))
    all_goals
      go_wp2_with fail
      go_ret
      exact ⟨rfl, HKA.out.drew.trans hk2⟩
set_option maxRecDepth 100000 in
set_option maxHeartbeats 1000000 in
theorem rmoves_t (s : ByteArray) (a d : Int) (w : World) (hT : Tabs w) (ha : 0 ≤ a ∧ a ≤ 4000) (hd : 0 ≤ d ∧ d ≤ 4000) (hm : mayB s = true) :
    Calls Tryd.prog 16 #[patV a d s] w fun e w' => e = .returned (.bool true) ∧ Kept (fun _ => False) w w' := by
  have hsz := mayB_size hm
  have hka : Kept (fun _ => False) w (w.alloc (patO a d s)) := (Kept.refl _ w).alloc _
  have cM := rmay_any s (w.alloc (patO a d s)) (by omega) (hT.kept hka id id)
  rw [hm] at cM
  have HKA := Lib.hid hka
  clear hT hka hm
  go_enter Tryd.func16, Tryd.ntmps16
  go_wp2_with (first
    | (go_at_call 15; (first | with_reducible refine (znum_t ha _).mono ?_ | with_reducible refine (znum_t hd _).mono ?_); rintro e w' ⟨rfl, hw⟩; have hwx := hw.symm; subst hwx)
    | (go_at_call 8; refine cM.mono ?_; rintro e w1 ⟨rfl, hk1⟩))
  go_ret
  exact ⟨rfl, HKA.out.trans hk1⟩
set_option maxRecDepth 100000 in
set_option maxHeartbeats 1000000 in
theorem rmoves_f (s : ByteArray) (a d : Int) (w : World) (hT : Tabs w) (hs : s.size ≤ 140737488351232) (hno : ¬ ((0 ≤ a ∧ a ≤ 4000) ∧ (0 ≤ d ∧ d ≤ 4000) ∧ mayB s = true)) :
    Calls Tryd.prog 16 #[patV a d s] w fun e w' => e = .returned (.bool false) ∧ Kept (fun _ => False) w w' := by
  have hka : Kept (fun _ => False) w (w.alloc (patO a d s)) := (Kept.refl _ w).alloc _
  have cM := rmay_any s (w.alloc (patO a d s)) hs (hT.kept hka id id)
  have HKA := Lib.hid hka
  have hway : ¬ (0 ≤ a ∧ a ≤ 4000) ∨ ((0 ≤ a ∧ a ≤ 4000) ∧ ¬ (0 ≤ d ∧ d ≤ 4000)) ∨ ((0 ≤ a ∧ a ≤ 4000) ∧ (0 ≤ d ∧ d ≤ 4000) ∧ mayB s = false) := by
    by_cases h2 : 0 ≤ a ∧ a ≤ 4000
    · by_cases h3 : 0 ≤ d ∧ d ≤ 4000
      · exact .inr (.inr ⟨h2, h3, by cases hm : mayB s with | false => rfl | true => exact absurd ⟨h2, h3, hm⟩ hno⟩)
      · exact .inr (.inl ⟨h2, h3⟩)
    · exact .inl h2
  clear hT hka hno
  rcases hway with ha | ⟨ha, hd⟩ | ⟨ha, hd, hm⟩
  · clear cM
    go_enter Tryd.func16, Tryd.ntmps16
    go_wp2_with (go_at_call 15; refine (znum_f ha _).mono ?_; rintro e w' ⟨rfl, hw⟩; have hwx := hw.symm; subst hwx)
    go_ret
    exact ⟨rfl, HKA.out⟩
  · clear cM
    go_enter Tryd.func16, Tryd.ntmps16
    go_wp2_with (go_at_call 15; (first | with_reducible refine (znum_t ha _).mono ?_ | with_reducible refine (znum_f hd _).mono ?_); rintro e w' ⟨rfl, hw⟩; have hwx := hw.symm; subst hwx)
    go_ret
    exact ⟨rfl, HKA.out⟩
  · rw [hm] at cM
    clear hm
    go_enter Tryd.func16, Tryd.ntmps16
    go_wp2_with (first
      | (go_at_call 15; (first | with_reducible refine (znum_t ha _).mono ?_ | with_reducible refine (znum_t hd _).mono ?_); rintro e w' ⟨rfl, hw⟩; have hwx := hw.symm; subst hwx)
      | (go_at_call 8; refine cM.mono ?_; rintro e w1 ⟨rfl, hk1⟩))
    go_ret
    exact ⟨rfl, HKA.out.trans hk1⟩
theorem pnum_any (x : Int) (w : World) : Calls Tryd.prog 10 #[.int .i64 x] w fun e w' => e = .returned (.int .i64 x) ∧ w' = w := by
  go_enter Tryd.func10, Tryd.ntmps10
  go_wp2
  go_ret
  exact ⟨rfl, rfl⟩
/-- The texts that wake. -/
def abcT : ByteArray := ⟨#[97, 98, 99]⟩
def axcT : ByteArray := ⟨#[97, 120, 99]⟩
theorem abcT_rs : rs abcT = [97, 98, 99] := by decide
theorem axcT_rs : rs axcT = [97, 120, 99] := by decide
theorem abcT_may : mayB abcT = true := by decide
theorem axcT_may : mayB axcT = true := by decide
theorem pwake_vals : btw (rs abcT) (rs axcT) = patV 1 1 ⟨#[120]⟩ := by
  rw [abcT_rs, axcT_rs]
  have e1 : Rw.bat [97, 98, 99] [97, 120, 99] = 1 := by decide
  have e2 : Rw.bdel [97, 98, 99] [97, 120, 99] = 1 := by decide
  have e3 : runesBytes (Rw.bins [97, 98, 99] [97, 120, 99]) = ⟨#[120]⟩ := by decide
  unfold btw
  rw [e1, e2, e3]
  rfl
set_option maxRecDepth 100000 in
theorem pwakes_any (w : World) (hT : Tabs w) : Calls Tryd.prog 12 #[] w fun e w' => e = .returned (.bool true) ∧ Kept (fun _ => False) w w' := by
  have cB := between_yes abcT axcT w hT abcT_may axcT_may
  rw [pwake_vals] at cB
  unfold abcT axcT at cB
  clear hT
  go_enter Tryd.func12, Tryd.ntmps12
  go_wp2_with (first | (go_at_call 7; refine cB.mono ?_; rintro e w1 ⟨rfl, hk1⟩; have HK1 := Lib.hid hk1; clear hk1 cB) | (go_at_call 10; refine (pnum_any _ _).mono ?_; rintro e w2 ⟨rfl, hw⟩; have hw2 := hw.symm; subst hw2))
  go_ret
  exact ⟨rfl, HK1.out.alloc _⟩
end Go.Proofs.YtonenopfdoagcaaDoor
