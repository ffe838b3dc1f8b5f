/-
  HistoryBack: the law's walk.
-/
import Derived.Test.YthbfmdnibijapaaDoorHiH
set_option linter.unusedVariables false
namespace Go.Proofs.YthbfmdnibijapaaDoor
open Go Go.RowKit

/-- What holds of memory while the law works. -/
structure Ux (w : World) (pb B : Nat) (p : ScrU) (W : World) : Prop where
  par : PSu W pb p
  kp : Kept (fun _ => False) w W
  lt : pb < B
  le : w.heap.size ≤ B
  sz : B ≤ W.heap.size
theorem Ux.step {w : World} {pb B : Nat} {p : ScrU} {W W' : World} (h : Ux w pb B p W) (hk : Kept (fun q => B ≤ q) W W') : Ux w pb B p W' :=
  ⟨h.par.kept hk (by have := h.lt; omega), h.kp.fresh hk (fun q hq e => by have := h.le; omega), h.lt, h.le, Nat.le_trans h.sz hk.size⟩
theorem Ux.kept {w : World} {pb B : Nat} {p : ScrU} {W W' : World} (h : Ux w pb B p W) (hk : Kept (fun _ => False) W W') : Ux w pb B p W' := h.step hk.any
set_option maxRecDepth 100000 in
set_option maxHeartbeats 4000000 in
theorem hwakes_any (w : World) (hT : Tabs w) : Calls Tryd.prog 24 #[] w fun e w' => e = .returned (.bool true) ∧ Kept (fun _ => False) w w' := by
  have cN := hcnew_any 5 ⟨#[97]⟩ w hT (by omega) (by decide)
  obtain ⟨B, hB⟩ : ∃ B, w.heap.size = B := ⟨_, rfl⟩
  rw [hB] at cN
  have HB := Lib.hid hB
  clear hT hB
  go_enter Tryd.func24, Tryd.ntmps24
  go_upto_region 2 with (go_at_call 7; refine cN.mono ?_; rintro r w1 ⟨⟨hb, rfl, hc⟩, hk1⟩; have HC1 := Lib.hid hc; have HK1 := Lib.hid hk1; clear hc hk1 cN)
  have cC := hccommit_yes HC1.out rfl (by omega) (by decide) (by decide) (by have := HB.out; have := HK1.out.size; omega) ⟨#[98]⟩ 0 (by decide) (by omega)
  go_upto_region 5 with (first
    | (go_at_call 9; refine (unum_any _ _).mono ?_; rintro e w' ⟨rfl, hw⟩; have hw2 := hw.symm; subst hw2)
    | (go_at_call 25; refine cC.mono ?_; rintro r w2 ⟨rfl, hc, hk2⟩; have HC2 := Lib.hid hc; have HK2 := Lib.hid (HK1.out.fresh hk2 (fun q hq e => by have := HB.out; omega)); clear hc hk2 cC))
  have cBk := hcback_any (c := 0) HC2.out (by omega)
  have e0 : tAt ([⟨#[97]⟩] ++ [⟨#[98]⟩]) 0 = ⟨#[97]⟩ := rfl
  rw [e0] at cBk
  have cHe : ∀ {L : List NodeS} {k : Int} {W : World}, Hc B 5 hb L 0 ([⟨#[97]⟩] ++ [⟨#[98]⟩]) k W → Calls Tryd.prog 20 #[.pointer (some ⟨hb, 0, none⟩)] W fun e w' => e = .returned (.string ⟨#[97]⟩) ∧ w' = W := fun h => hchere_any h
  go_wp2_with (first
    | (go_at_call 9; refine (unum_any _ _).mono ?_; rintro e w' ⟨rfl, hw⟩; have hw2 := hw.symm; subst hw2)
    | (go_at_call 26; refine cBk.mono ?_; rintro r w3 ⟨⟨at', rfl⟩, hc, hk3⟩; have HC3 := Lib.hid hc; have HK3 := Lib.hid (HK2.out.fresh hk3 (fun q hq e => by have := HB.out; omega)); clear hc hk3 cBk)
    | (go_at_call 20; refine (cHe HC3.out).mono ?_; rintro e w' ⟨rfl, hw⟩; have hw2 := hw.symm; subst hw2)
    | (go_at_call 22; refine (hcpat_any HC3.out (by omega)).mono ?_; rintro e w' ⟨rfl, hw⟩; have hw2 := hw.symm; subst hw2))
  go_ret
  exact ⟨rfl, HK3.out⟩
end Go.Proofs.YthbfmdnibijapaaDoor
