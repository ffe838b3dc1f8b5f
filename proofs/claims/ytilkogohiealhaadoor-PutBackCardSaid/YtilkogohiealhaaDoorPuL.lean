/-
  PutBack: the law's walk.
-/
import Derived.Test.YtilkogohiealhaaDoorPuC
set_option linter.unusedVariables false
namespace Go.Proofs.YtilkogohiealhaaDoor
open Go Go.RowKit

set_option maxRecDepth 100000 in
set_option maxHeartbeats 4000000 in
theorem putBack_any (p : AskV) (w : World) (hp : AskOk w p) (hT : Tabs w) : Calls Tryd.prog 3 #[.agg p.cells] w fun e w' => e = .returned (.bool true) ∧ Kept (fun _ => False) w w' := by
  have hK0 : Hid (Kept (fun _ => False) w (w.alloc (.cells p.cells 28))) := (Kept.refl _ w).alloc _
  have hP0 : Hid (PB (w.alloc (.cells p.cells 28)) w.heap.size p) := heap_alloc_new w _
  have hA0 : Hid (AskOk (w.alloc (.cells p.cells 28)) p) := hp.kept hK0.out
  have hT0 : Hid (Tabs (w.alloc (.cells p.cells 28))) := hT.kept hK0.out id id
  have cH := heavy10_any p (w.alloc (.cells p.cells 28)) hA0.out
  clear hp hT
  obtain ⟨A, n0, c0, ss, xa, xb, xr, xc, xk, xn, xq⟩ := p
  unfold AskV.cells at *
  simp only at *
  go_enter Tryd.func3, Tryd.ntmps3
  go_wp2_with (go_at_call 4; refine cH.mono ?_; rintro e w1 ⟨⟨hv, rfl, hsm⟩, hk1⟩; have HS := Lib.hid hsm; have HK1 := Lib.hid (hK0.out.trans hk1); have HP := Lib.hid (hP0.out.kept hk1 id); have HA := Lib.hid (hA0.out.kept hk1); have HT := Lib.hid (hT0.out.kept hk1 id id); clear hsm hk1 hP0 hA0 hT0 hK0 cH)
  · exact bodyPost_ret (results_tmp rfl _ _ _) rfl ⟨rfl, HK1.out⟩
  have hv0 : hv = false := by assumption
  subst hv0
  have hss : ∀ s ∈ ss, s.size ≤ 6000 := HS.out rfl
  have HSS := Lib.hid hss
  clear hss HS
  generalize hpb : w.heap.size = pb at HP ⊢
  have HPB := Lib.hid hpb
  clear hpb
  go_loopw [3] (fun v wr => ∃ i : Nat, i ≤ n0 ∧ i ≤ 3 ∧ v = .int .i64 i ∧ Kept (fun _ => False) w1 wr) (fun v _ => n0 - (intOf v).toNat)
  case atStart => exact ⟨0, Nat.zero_le _, Nat.zero_le _, rfl, Kept.refl _ _⟩
  case round =>
    obtain ⟨i, hi, hi4, rfl, hki⟩ := hrel
    obtain ⟨wi, hwi⟩ : ∃ wi, wi = wr := ⟨_, rfl⟩
    subst hwi
    have HKi := Lib.hid (HK1.out.trans hki)
    have HTi := Lib.hid (HT.out.kept hki id id)
    have HAi := Lib.hid (HA.out.kept hki)
    have HKW := Lib.hid hki
    have p0 : wi.cell? ⟨pb, 0, none⟩ = some (.slice A n0 c0) := (HP.out.kept hki id).c 0
    clear hki
    by_cases hgo : i < n0 ∧ i < 3
    · obtain ⟨g1, g2⟩ := hgo
      obtain ⟨ad, s, rfl, hs, hsc, _⟩ := HAi.out.ss.cell g1
      have hsz : s.size ≤ 6000 := HSS.out s (List.mem_of_getElem? hs)
      have hl := rs_len s
      clear hs
      obtain ⟨cap, w2, hcap, hcv, hk2, hlt2, hR⟩ := conv_rs s wi (by omega)
      obtain ⟨tl, htl⟩ : ∃ tl, (rs s).length = tl := ⟨_, rfl⟩
      rw [htl] at hcv hl
      have HTL := Lib.hid htl
      have HK2 := Lib.hid (HKi.out.trans hk2)
      have HKW2 := Lib.hid (HKW.out.trans hk2)
      have HT2 := Lib.hid (HTi.out.kept hk2 id id)
      have cMay := rmay_any s w2 (by omega) HT2.out
      clear hk2 hR hcap hlt2 htl
      have b1 : decide (i < n0) = true := by simp; omega
      have b2 : decide (i < 3) = true := by simp; omega
      have b3 : decide ((i : Int) < 3) = true := by simp; omega
      obtain ⟨BM, hBM⟩ : ∃ BM, mayB s = BM := ⟨_, rfl⟩
      rw [hBM] at cMay
      have HBM := Lib.hid hBM
      clear hBM
      cases BM with
      | false =>
        go_wp2_with (go_at_call 5; refine cMay.mono ?_; rintro e w3 ⟨rfl, hk3⟩; have HK3 := Lib.hid (HKW2.out.trans hk3); clear hk3 cMay)
        go_roundw
        case rel => exact ⟨i + 1, by omega, by omega, by go_num, HK3.out⟩
        case measure => simp [intOf]; omega
      | true =>
        by_cases h1000 : s.size ≤ 1000
        · have b4 : decide (1000 < s.size) = false := by simp; omega
          have b4' : decide ((1000 : Int) < (s.size : Int)) = false := by simp; omega
          go_wp2_with (go_at_call 5; refine cMay.mono ?_; rintro e w3 ⟨rfl, hk3⟩; have HK3 := Lib.hid (HK2.out.trans hk3); have HKW3 := Lib.hid (HKW2.out.trans hk3); have HT3 := Lib.hid (HT2.out.kept hk3 id id); clear hk3 cMay)
          clear b4 b4' hcv p0
          go_loopw [6] (fun v wr => ∃ j : Nat, j ≤ tl ∧ j ≤ 60 ∧ v = .int .i64 j ∧ Kept (fun _ => False) w3 wr) (fun v _ => tl - (intOf v).toNat)
          case atStart => exact ⟨0, Nat.zero_le _, Nat.zero_le _, rfl, Kept.refl _ _⟩
          case round =>
            obtain ⟨j, hj, hj60, rfl, hkj⟩ := hrel
            obtain ⟨wj, hwj⟩ : ∃ wj, wj = wr := ⟨_, rfl⟩
            subst hwj
            have HKV4 := Lib.hid hkj
            have HT4 := Lib.hid (HT3.out.kept hkj id id)
            clear hkj
            by_cases hgo : j < tl ∧ j < 60
            · obtain ⟨g3, g4⟩ := hgo
              have d1 : decide (j < tl) = true := by simp; omega
              have d1' : decide ((j : Int) < (tl : Int)) = true := by simp; omega
              have d2 : decide (j < 60) = true := by simp; omega
              have d2' : decide ((j : Int) < 60) = true := by simp; omega
              obtain ⟨r3, hr3, hr3'⟩ := tmod_small (j : Int) 3 (by omega) (by omega)
              have hr3a : (j : Int).tmod 3 = (r3 : Int) := hr3
              obtain ⟨C, hC⟩ : ∃ C : Nat, 1 + r3 = C := ⟨_, rfl⟩
              have hwc : IntKind.i64.wrap (1 + (r3 : Int)) = (C : Int) := by rw [← hC]; exact (IntWalk.i64_in _ ⟨by omega, by omega⟩).trans (by omega)
              have hC1 : 1 ≤ C ∧ C ≤ 999 := by omega
              have hjl : j < (rs s).length := by have := HTL.out; omega
              have hPB := pb_back s j C HBM.out h1000 hjl hC1.1 hC1.2
              obtain ⟨a2, d2', p2, V2, m2, hPR⟩ := pb_row s j HBM.out h1000 hjl
              have HPR := Lib.hid hPR
              clear hPR hr3 hC
              go_upto_region 12 with fail
              clear d1 d1' d2
              rcases hPB with hN | ⟨a, d, p, x, tk, U, a1, d1, p1, V1, hF⟩
              · have cN := hN wj HT4.out
                clear hN
                unfold chgT at cN
                go_wp2_with (go_at_call 6; refine cN.mono ?_; rintro e w5 ⟨rfl, hk5⟩; have HK5 := Lib.hid (HKV4.out.trans hk5); clear hk5 cN)
                go_roundw
                case rel => exact ⟨j + 1, by omega, by omega, by go_num, HK5.out.alloc _⟩
                case measure => simp [intOf]; omega
              · have HF := Lib.hid hF
                have cS := hF.sm wj HT4.out
                unfold chgT at cS
                clear hF
                go_upto_region 13 with (go_at_call 6; refine cS.mono ?_; rintro e w5 ⟨rfl, hk5⟩; have HK5 := Lib.hid (HKV4.out.trans hk5); have HT5 := Lib.hid (HT4.out.kept hk5 id id); clear hk5 cS)
                have HY := Lib.hid (heap_alloc_new w5 (chgO a d p x tk false))
                have hk6 := HK5.out.alloc (chgO a d p x tk false)
                have HK6 := Lib.hid hk6
                have HT6 := Lib.hid (HT5.out.kept ((Kept.refl (fun _ => False) w5).alloc (chgO a d p x tk false)) id id)
                clear hk6
                generalize w5.alloc (chgO a d p x tk false) = w6 at *
                generalize w5.heap.size = y at *
                obtain ⟨⟨y0, y1, y2, y3, y4, y5⟩, _⟩ := chg_facts HY.out
                have cA := HF.out.ap w6
                go_upto_region 15 with (go_at_call 7; refine cA.mono ?_; rintro e w7 ⟨rfl, hk7⟩; have HK7 := Lib.hid (HK6.out.trans hk7); have HT7 := Lib.hid (HT6.out.kept hk7 id id); have HY7 := Lib.hid ((hk7.block y (heap_lt HY.out) id).trans HY.out); clear hk7 cA y0 y1 y2 y3 y4 y5; obtain ⟨⟨y0, y1, y2, y3, y4, y5⟩, _⟩ := chg_facts HY7.out)
                have cU := HF.out.pu w7 HT7.out
                unfold chgT at cU
                go_upto_region 16 with (go_at_call 8; refine cU.mono ?_; rintro e w8 ⟨⟨z, rfl⟩, hk8⟩; have HK8 := Lib.hid (HK7.out.trans hk8); have HT8 := Lib.hid (HT7.out.kept hk8 id id); have HY8 := Lib.hid ((hk8.block y (heap_lt HY7.out) id).trans HY7.out); clear hk8 cU y0 y1 y2 y3 y4 y5)
                have HZ := Lib.hid (heap_alloc_new w8 (chgO a1 d1 p1 z ⟨#[]⟩ false))
                have hk9 := HK8.out.alloc (chgO a1 d1 p1 z ⟨#[]⟩ false)
                have HK9 := Lib.hid hk9
                have HT9 := Lib.hid (HT8.out.kept ((Kept.refl (fun _ => False) w8).alloc (chgO a1 d1 p1 z ⟨#[]⟩ false)) id id)
                have HY9 := Lib.hid ((((Kept.refl (fun _ => False) w8).alloc (chgO a1 d1 p1 z ⟨#[]⟩ false)).block y (heap_lt HY8.out) id).trans HY8.out)
                clear hk9
                generalize w8.alloc (chgO a1 d1 p1 z ⟨#[]⟩ false) = w9 at *
                generalize w8.heap.size = zb at *
                obtain ⟨⟨z0, z1, z2, z3, z4, z5⟩, _⟩ := chg_facts HZ.out
                have cM := HF.out.ma w9 HT9.out
                go_upto_region 18 with (first | (go_at_call 9; refine (pnum_any _ _).mono ?_; rintro e w' ⟨rfl, hw⟩; have hw2 := hw.symm; subst hw2) | (go_at_call 10; refine cM.mono ?_; rintro e w10 ⟨rfl, hk10⟩; have HK10 := Lib.hid (HK9.out.trans hk10); have HT10 := Lib.hid (HT9.out.kept hk10 id id); have HY10 := Lib.hid ((hk10.block y (heap_lt HY9.out) id).trans HY9.out); have HZ10 := Lib.hid ((hk10.block zb (heap_lt HZ.out) id).trans HZ.out); clear hk10 cM z0 z1 z2 z3 z4 z5))
                obtain ⟨⟨y0, y1, y2, y3, y4, y5⟩, _⟩ := chg_facts HY10.out
                obtain ⟨⟨z0, z1, z2, z3, z4, z5⟩, _⟩ := chg_facts HZ10.out
                have HYZ : Hid (∀ W, Kept (fun _ => False) w10 W → True) := fun _ _ => trivial
                have cR := fun W hW => HPR.out.pu W hW
                have HCR := Lib.hid cR
                have HAP := Lib.hid HPR.out.ap
                have HRV := Lib.hid HPR.out.rv
                have HRS := Lib.hid HPR.out.rs
                have HMA := Lib.hid HPR.out.ma
                have hm5 := HPR.out.le
                have wr1 : IntKind.i64.wrap (((m2 + 1 : Nat) : Int) + 1) = ((m2 + 2 : Nat) : Int) := by
                  rw [show ((m2 + 1 : Nat) : Int) + 1 = ((m2 + 2 : Nat) : Int) by omega]
                  exact IntWalk.i64_in _ ⟨by omega, by omega⟩
                obtain ⟨n1, hn1⟩ : ∃ n1, m2 + 1 = n1 := ⟨_, rfl⟩
                obtain ⟨n2, hn2⟩ : ∃ n2, m2 + 2 = n2 := ⟨_, rfl⟩
                rw [hn1] at wr1 HRS
                rw [hn2] at wr1 HRV
                have wn : ((n2 : Int) != (n2 : Int)) = false := by simp
                clear cR hn1 hn2 hm5 HPR hwc
                by_cases hxj : x = (j : Int)
                case' pos =>
                  have hV := HF.out.eq hxj
                  subst hV
                  have b1 : (x == (j : Int)) = true := by simp [hxj]
                  have cA2 := HF.out.ap2 w10
                  clear HF hxj
                  go_upto_region 20 with (go_at_call 7; refine cA2.mono ?_; rintro e w11 ⟨rfl, hk11⟩; have HK11 := Lib.hid (HK10.out.trans hk11); have HT11 := Lib.hid (HT10.out.kept hk11 id id); clear hk11 cA2)
                case' neg =>
                  have b1 : (x == (j : Int)) = false := by rw [beq_eq_false_iff_ne]; exact hxj
                  clear HF hxj
                  go_upto_region 20 with fail
                  obtain ⟨w11, hw11⟩ : ∃ w11, w11 = w10 := ⟨_, rfl⟩
                  subst hw11
                  have HK11 := HK10
                  have HT11 := HT10
                all_goals
                  clear y0 y1 y2 y3 y4 y5 z0 z1 z2 z3 z4 z5
                  have cU2 := HCR.out _ HT11.out
                  unfold chgT at cU2
                  go_upto_region 21 with (go_at_call 8; refine cU2.mono ?_; rintro e w12 ⟨⟨zz, rfl⟩, hk12⟩; have HK12 := Lib.hid (HK11.out.trans hk12); have HT12 := Lib.hid (HT11.out.kept hk12 id id); clear hk12 cU2)
                  have HX := Lib.hid (heap_alloc_new w12 (chgO a2 d2' p2 zz ⟨#[]⟩ false))
                  have HK13 := Lib.hid (HK12.out.alloc (chgO a2 d2' p2 zz ⟨#[]⟩ false))
                  have HT13 := Lib.hid (HT12.out.kept ((Kept.refl (fun _ => False) w12).alloc (chgO a2 d2' p2 zz ⟨#[]⟩ false)) id id)
                  generalize w12.alloc (chgO a2 d2' p2 zz ⟨#[]⟩ false) = w13 at *
                  generalize w12.heap.size = xb at *
                  obtain ⟨⟨x0, x1, x2, x3, x4, x5⟩, _⟩ := chg_facts HX.out
                  have cM2 := HMA.out w13 HT13.out
                  go_wp2_with (first
                    | (go_at_call 9; refine (pnum_any _ _).mono ?_; rintro e w' ⟨rfl, hw⟩; have hw2 := hw.symm; subst hw2)
                    | (go_at_call 10; refine cM2.mono ?_; rintro e w14 ⟨rfl, hk14⟩; have HK14 := Lib.hid (HK13.out.trans hk14); have HX14 := Lib.hid ((hk14.block xb (heap_lt HX.out) id).trans HX.out); clear hk14 cM2 x0 x1 x2 x3 x4 x5; obtain ⟨⟨x0, x1, x2, x3, x4, x5⟩, _⟩ := chg_facts HX14.out)
                    | (go_at_call 7; refine (HAP.out _).mono ?_; rintro e w15 ⟨rfl, hk15⟩; have HK15 := Lib.hid (HK14.out.trans hk15); clear hk15 x0 x1 x2 x3 x4 x5))
                  refine (HRV.out _).mono ?_
                  rintro e w16 ⟨⟨A1, c1, rfl⟩, hk16⟩
                  have HK16 := Lib.hid (HK15.out.trans hk16)
                  clear hk16
                  go_wp2_with fail
                  refine (HRS.out _).mono ?_
                  rintro e w17 ⟨⟨A2, c2, rfl⟩, hk17⟩
                  have HK17 := Lib.hid (HK16.out.trans hk17)
                  clear hk17
                  go_wp2_with fail
                  go_roundw
                  case rel => exact ⟨j + 1, by omega, by omega, by go_num, HK17.out⟩
                  case measure => simp [intOf]; omega
            · have hlast : (j = tl ∧ j < 60) ∨ (j < tl ∧ j = 60) ∨ (j = tl ∧ j = 60) := by omega
              rcases hlast with ⟨h1, h2⟩ | ⟨h1, h2⟩ | ⟨h1, h2⟩
              case' inl | inr.inr =>
                have d1 : decide (j < tl) = false := by simp; omega
                have d1' : decide ((j : Int) < (tl : Int)) = false := by simp; omega
              case' inr.inl =>
                have d1 : decide (j < tl) = true := by simp; omega
                have d1' : decide ((j : Int) < (tl : Int)) = true := by simp; omega
                have d2 : decide (j < 60) = false := by simp; omega
                have d2' : decide ((j : Int) < 60) = false := by simp; omega
              all_goals
                clear h1 h2
                go_wp2_with fail
                go_roundw
                case rel => exact ⟨i + 1, by omega, by omega, by go_num, HKW3.out.trans HKV4.out⟩
                case measure => simp [intOf]; omega
        · have b4 : decide (1000 < s.size) = true := by simp; omega
          have b4' : decide ((1000 : Int) < (s.size : Int)) = true := by simp; omega
          go_wp2_with (go_at_call 5; refine cMay.mono ?_; rintro e w3 ⟨rfl, hk3⟩; have HK3 := Lib.hid (HKW2.out.trans hk3); clear hk3 cMay)
          go_roundw
          case rel => exact ⟨i + 1, by omega, by omega, by go_num, HK3.out⟩
          case measure => simp [intOf]; omega
    · have hlast : (i = n0 ∧ i < 3) ∨ (i < n0 ∧ i = 3) ∨ (i = n0 ∧ i = 3) := by omega
      have cW := pwakes_any wi HTi.out
      rcases hlast with ⟨h1, h2⟩ | ⟨h1, h2⟩ | ⟨h1, h2⟩
      case' inl | inr.inr => have b1 : decide (i < n0) = false := by simp; omega
      case' inr.inl =>
        have b1 : decide (i < n0) = true := by simp; omega
        have b2 : decide (i < 3) = false := by simp; omega
        have b3 : decide ((i : Int) < 3) = false := by simp; omega
      all_goals
        clear h1 h2
        go_wp2_with (first | (go_at_call 12; refine (within32 _).mono ?_; rintro e w' ⟨rfl, hw⟩; have hw2 := hw.symm; subst hw2) | (go_at_call 13; refine cW.mono ?_; rintro e w9 ⟨rfl, hk9⟩))
        go_ret
        exact ⟨rfl, HKi.out.trans hk9⟩
end Go.Proofs.YtilkogohiealhaaDoor
