/-
  THE LAW RegsExact: whatever is yanked, deleted and asked, each call tells what the reference says.
-/
import Derived.Test.YtackgnkajffhiaaDoorReK
set_option linter.unusedVariables false
namespace Go.Proofs.YtackgnkajffhiaaDoor
open Go Go.RowKit

set_option maxRecDepth 100000 in
set_option maxHeartbeats 16000000 in
theorem regsExact_any (p : ScrR) (w : World) (hp : ScrROk w p) (hT : Tabs w) :
    Calls Tryd.prog 3 #[.agg p.cells] w fun e w' => e = .returned (.bool true) ∧ Kept (fun _ => False) w w' := by
  have hK0 : Hid (Kept (fun _ => False) w (w.alloc (.cells p.cells 25))) := (Kept.refl _ w).alloc _
  have hP0 : Hid (PSr (w.alloc (.cells p.cells 25)) w.heap.size p) := heap_alloc_new w _
  have hA0 : Hid (ScrROk (w.alloc (.cells p.cells 25)) p) := hp.kept hK0.out
  have HT0 := Lib.hid (hT.kept hK0.out id id)
  have cH := heavy9_any p (w.alloc (.cells p.cells 25)) hA0.out
  clear hp hT
  obtain ⟨R, rn, rc, regs, L, ln, lc, acts⟩ := p
  unfold ScrR.cells at *
  simp only at *
  go_enter Tryd.func3, Tryd.ntmps3
  go_wp2_with fail
  refine cH.mono ?_
  clear cH
  rintro e w1 ⟨⟨hv, rfl, hsm⟩, hk1⟩
  have HS := Lib.hid hsm
  have HK1 := Lib.hid (hK0.out.trans hk1)
  have HP1 := Lib.hid (hP0.out.kept hk1 id)
  have HA1 := Lib.hid (hA0.out.kept hk1)
  have HT1 := Lib.hid (HT0.out.kept hk1 id id)
  clear hsm hk1 hP0 hA0 hK0 HT0
  generalize hpb : w.heap.size = pb at HP1 ⊢
  clear hpb
  have p0 : w1.cell? ⟨pb, 0, none⟩ = some (.slice R rn rc) := HP1.out.c 0
  cases hv with
  | true =>
    go_wp2_with fail
    go_ret
    exact ⟨rfl, HK1.out⟩
  | false =>
    have hrn : rn ≤ 20000 := HS.out rfl
    have hl := HA1.out.regs.len
    have hsl : Sl w1 (.slice R rn rc) regs := ⟨R, rn, rc, rfl, HA1.out.regs, HA1.out.cp⟩
    have cC := copyregs_any (.slice R rn rc) regs w1 hsl (by have h : regs.length = rn := hl; omega)
    have HL : Hid (regs.length ≤ 20000) := by show _ ≤ _; have h : regs.length = rn := hl; omega
    clear HS hl hsl
    go_wp2_with fail
    refine cC.mono ?_
    clear cC p0
    rintro e w2 ⟨⟨v2, rfl, ho2⟩, hk2⟩
    have HO2 := Lib.hid ho2
    have HK2 := Lib.hid (HK1.out.trans hk2)
    have HP2 := Lib.hid (HP1.out.kept hk2 id)
    have HA2 := Lib.hid (HA1.out.kept hk2)
    have HT2 := Lib.hid (HT1.out.kept hk2 id id)
    clear hk2 ho2 HK1 HP1 HA1 HT1
    have cK := check_sl_any v2 regs w2 HO2.out.sl (by have := HL.out; omega) HT2.out
    have cR := fun W (hk : Kept (fun _ => False) w2 W) => rregs_any v2 regs W (HO2.out.keep hk).sl (by have := HL.out; omega) (HT2.out.kept hk id id)
    unfold okE at cK
    obtain ⟨B, hB⟩ : ∃ B, Rs.okB regs = B := ⟨_, rfl⟩
    simp only [hB] at cK cR
    clear hB
    have HM2 : Hid (∃ w3 : World, w3 = w2) := ⟨_, rfl⟩
    cases B
    all_goals
      simp only [Bool.false_eq_true, if_false, if_true] at cK
      go_wp2_with fail
      refine cK.mono ?_
      clear cK
      rintro e w3 ⟨rfl, hk3⟩
      have HX3 := Lib.hid hk3
      clear hk3
      go_wp2_with (go_at_call 7; refine (num_any _ _).mono ?_; rintro e w' ⟨rfl, hw⟩; have hw2 := hw.symm; subst hw2)
      refine (cR _ HX3.out).mono ?_
      clear cR
      rintro e w4 ⟨rfl, hk4⟩
      have HK4 := Lib.hid (HK2.out.trans (HX3.out.trans hk4))
      have HO4 := Lib.hid (HO2.out.keep (HX3.out.trans hk4))
      have HP4 := Lib.hid (HP2.out.kept (HX3.out.trans hk4) id)
      have HA4 := Lib.hid (HA2.out.kept (HX3.out.trans hk4))
      have HT4 := Lib.hid (HT2.out.kept (HX3.out.trans hk4) id id)
      clear hk4
      go_wp2_with fail
      go_loopw [3, 4] (fun v u wr => ∃ (i : Nat) (M : List RegS), i ≤ ln ∧ i ≤ 14 ∧ u = .int .i64 i ∧ Sl wr v M ∧ M.length ≤ 20000 + 3 * i ∧ Kept (fun _ => False) w4 wr) (fun _ u _ => ln - (intOf u).toNat)
      case atStart => exact ⟨0, regs, Nat.zero_le _, Nat.zero_le _, rfl, HO4.out.sl, by have := HL.out; omega, Kept.refl _ _⟩
      case round =>
        obtain ⟨i, M, hi, hi4, rfl, hsl, hM, hki⟩ := hrel
        have HSL := Lib.hid hsl
        have HKI := Lib.hid hki
        have HPi := Lib.hid (HP4.out.kept hki id)
        have HTi := Lib.hid (HT4.out.kept hki id id)
        have p1 : wr.cell? ⟨pb, 1, none⟩ = some (.slice L ln lc) := HPi.out.c 1
        clear hsl hki
        by_cases hgo : i < ln ∧ i < 14
        · obtain ⟨g1, g2⟩ := hgo
          obtain ⟨ad, b, rfl, hb, c0, c1, c2, c3, hgood⟩ := (HA4.out.kept HKI.out).acts.at_ g1
          have cS := step_any _ M b wr HSL.out (by omega) hgood HTi.out
          have b1 : decide (i < ln) = true := by simp; omega
          have b2 : decide (i < 14) = true := by simp; omega
          have b3 : decide ((i : Int) < 14) = true := by simp; omega
          have b4 : decide ((i : Int) < (ln : Int)) = true := by simp; omega
          have t1 : (0 : Int) ≤ (i : Int) := by omega
          have t2 : (i : Int) < (ln : Int) := by omega
          clear hb hgood
          go_wp2_with (go_at_call 10; refine cS.mono ?_; clear cS; rintro e w5 ⟨⟨v5, M5, rfl, hs5, hl5⟩, hk5⟩; have HS5 := Lib.hid hs5; have HK5 := Lib.hid (HKI.out.trans hk5); clear hs5 hk5)
          go_roundw
          case rel => exact ⟨i + 1, M5, by omega, by omega, by go_num, HS5.out, by omega, HK5.out⟩
          case measure => simp [intOf] <;> omega
        · have hlast : (i = ln ∧ i < 14) ∨ (i < ln ∧ i = 14) ∨ (i = ln ∧ i = 14) := by omega
          have cW := wakes9_any wr HTi.out
          rcases hlast with ⟨h1, h2⟩ | ⟨h1, h2⟩ | ⟨h1, h2⟩
          case' inl | inr.inr => have b1 : decide (i < ln) = false := by simp; omega
          case' inr.inl =>
            have b1 : decide (i < ln) = true := by simp; omega
            have b2 : decide (i < 14) = false := by simp; omega
            have b3 : decide ((i : Int) < 14) = false := by simp; omega
          all_goals
            clear h1 h2
            go_wp2_with (go_at_call 11; refine cW.mono ?_; clear cW; rintro e w9 ⟨rfl, hk9⟩; have HK9 := Lib.hid (HKI.out.trans hk9); clear hk9)
            go_ret
            exact ⟨rfl, HK4.out.trans HK9.out⟩
end Go.Proofs.YtackgnkajffhiaaDoor
