/-
  THE LAW PairsBack, walked.
-/
import Derived.Test.YtohmhjeimeilcaaDoorPkV
import Derived.Test.YtohmhjeimeilcaaDoorPkQ
set_option linter.unusedVariables false
namespace Go.Proofs.YtohmhjeimeilcaaDoor
open Go Go.RowKit

set_option maxRecDepth 100000 in
set_option maxHeartbeats 4000000 in
theorem pairsBack_any (p : AskV) (w : World) (hp : AskOk w p) (hT : Tabs w) : Calls Tryd.prog 4 #[.agg p.cells] w fun e w' => e = .returned (.bool true) ∧ Kept (fun _ => False) w w' := by
  have hK0 : Hid (Kept (fun _ => False) w (w.alloc (.cells p.cells 28))) := (Kept.refl _ w).alloc _
  have hH0 : Hid (Held (w.alloc (.cells p.cells 28)) w.heap.size p) := ⟨heap_alloc_new w _, hp.kept hK0.out, hT.kept hK0.out id id⟩
  have cH := heavy10_any p (w.alloc (.cells p.cells 28)) hH0.out.ask
  clear hp hT
  obtain ⟨A, n0, c0, ss, xa, xb, xr, xc, xk, xn, xq⟩ := p
  unfold AskV.cells at *
  simp only at *
  go_enter Tryd.func4, Tryd.ntmps4
  go_wp2_with (go_at_call 14; refine cH.mono ?_; rintro e w1 ⟨⟨hv, rfl, hsm⟩, hk1⟩; have HS := Lib.hid hsm; have HKA := Lib.hid (hK0.out.trans hk1); have HHA := Lib.hid (hH0.out.kept hk1); clear hsm hk1 hH0 hK0 cH)
  · exact bodyPost_ret (results_tmp rfl _ _ _) rfl ⟨rfl, HKA.out⟩
  have hv0 : hv = false := by assumption
  subst hv0
  have hss : ∀ s ∈ ss, s.size ≤ 6000 := HS.out rfl
  have HSS := Lib.hid hss
  clear hss HS
  generalize hpb : w.heap.size = pb at HHA ⊢
  clear hpb
  go_loopw [3] (fun v wr => ∃ i : Nat, i ≤ n0 ∧ i ≤ 5 ∧ v = .int .i64 i ∧ Kept (fun _ => False) w1 wr) (fun v _ => n0 - (intOf v).toNat)
  case atStart => exact ⟨0, Nat.zero_le _, Nat.zero_le _, rfl, Kept.refl _ _⟩
  case round =>
    obtain ⟨i, hi, hi4, rfl, hki⟩ := hrel
    obtain ⟨wi, hwi⟩ : ∃ wi, wi = wr := ⟨_, rfl⟩
    subst hwi
    have HKi := Lib.hid (HKA.out.trans hki)
    have HHi := Lib.hid (HHA.out.kept hki)
    have HKW := Lib.hid hki
    clear hki
    have p0 : wi.cell? ⟨pb, 0, none⟩ = some (.slice A n0 c0) := HHi.out.pb.c 0
    by_cases hgo : i < n0 ∧ i < 5
    · obtain ⟨g1, g2⟩ := hgo
      obtain ⟨ad, s, rfl, hs, hsc, _⟩ := HHi.out.ask.ss.cell g1
      have hsz : s.size ≤ 6000 := HSS.out s (List.mem_of_getElem? hs)
      have hl := rs_len s
      have b1 : decide (i < n0) = true := by simp; omega
      have b2 : decide (i < 5) = true := by simp; omega
      have b3 : decide ((i : Int) < 5) = true := by simp; omega
      obtain ⟨cap, w2, hcap, hcv, hk2, hlt2, hR⟩ := conv_rs s wi (by omega)
      obtain ⟨t, ht⟩ : ∃ t, rs s = t := ⟨_, rfl⟩
      rw [ht] at hcap hcv hR hl
      have HT2 := Lib.hid ht
      have HK2 := Lib.hid (HKW.out.trans hk2)
      have HH2 := Lib.hid (HHi.out.kept hk2)
      have HR := Lib.hid hR
      have HTl : Hid (t.length ≤ 6000) := by show _ ≤ _; omega
      clear hs hk2 hR ht hcap hlt2
      generalize hrb : wi.heap.size = rb at HR hcv
      clear hrb
      have cMay := rmay_any s w2 (by omega) HH2.out.tabs
      cases hmay : mayB s with
      | false =>
        rw [hmay] at cMay
        clear hmay
        go_wp2_with (go_at_call 15; refine cMay.mono ?_; rintro e w3 ⟨rfl, hk3⟩; have HK3 := Lib.hid (HK2.out.trans hk3); clear hk3 cMay)
        go_roundw
        case rel => exact ⟨i + 1, by omega, by omega, by go_num, HK3.out⟩
        case measure => simp [intOf] <;> omega
      | true =>
        rw [hmay] at cMay
        by_cases h300 : 300 < t.length
        · have b4 : decide (300 < t.length) = true := decide_eq_true h300
          have b5 : decide ((300 : Int) < (t.length : Int)) = true := decide_eq_true (by omega)
          clear hmay
          go_wp2_with (go_at_call 15; refine cMay.mono ?_; rintro e w3 ⟨rfl, hk3⟩; have HK3 := Lib.hid (HK2.out.trans hk3); clear hk3 cMay)
          go_roundw
          case rel => exact ⟨i + 1, by omega, by omega, by go_num, HK3.out⟩
          case measure => simp [intOf] <;> omega
        have b4 : decide (300 < t.length) = false := decide_eq_false h300
        have b5 : decide ((300 : Int) < (t.length : Int)) = false := decide_eq_false (by omega)
        have hm := hmay
        have HM := Lib.hid hm
        have HV : Hid (Vald t) := by show Vald t; rw [← HT2.out]; exact vald_rs hm
        clear hmay hm
        go_wp2_with (go_at_call 15; refine cMay.mono ?_; rintro e w3 ⟨rfl, hk3⟩; have HK3 := Lib.hid (HK2.out.trans hk3); have HH3 := Lib.hid (HH2.out.kept hk3); have HR3 := Lib.hid (HR.out.kept hk3 (fun _ _ => id)); clear hk3 cMay)
        clear b1 b2 b3 b4 b5 hcv p0 hsc
        go_loopw [6] (fun v wr => ∃ (j : Nat), j ≤ t.length ∧ v = .int .i64 j ∧ Kept (fun _ => False) w3 wr) (fun v _ => t.length - (intOf v).toNat)
        case atStart => exact ⟨0, Nat.zero_le _, rfl, Kept.refl _ _⟩
        case round =>
          obtain ⟨j, hj, rfl, hkj⟩ := hrel
          obtain ⟨wj, hwj⟩ : ∃ wj, wj = wr := ⟨_, rfl⟩
          subst hwj
          have HKJ := Lib.hid (HK3.out.trans hkj)
          have HKV := Lib.hid hkj
          have HHj := Lib.hid (HH3.out.kept hkj)
          have HRj := Lib.hid (HR3.out.kept hkj (fun _ _ => id))
          clear hkj
          by_cases hlt : j < t.length
          · have b1 : decide (j < t.length) = true := decide_eq_true hlt
            have b2 : decide ((j : Int) < (t.length : Int)) = true := decide_eq_true (by omega)
            have cM := pmate_yes s j wj HHj.out.tabs HM.out (by rw [HT2.out]; omega)
            rw [HT2.out] at cM
            cases hm : Rw.mate t j with
            | none =>
              rw [hm] at cM
              have cM' : Calls Tryd.prog 17 #[.string s, .int .i64 j] wj fun e w' => Kept (fun _ => False) wj w' ∧ e = .returned (.tuple #[.int .i64 0, .int .i64 6]) := cM
              clear cM hm
              go_wp2_with (first | (go_at_call 17; refine cM'.mono ?_; rintro e w4 ⟨hk4, rfl⟩; have HK4 := Lib.hid (HKV.out.trans hk4); clear hk4 cM') | (go_at_call 21; refine (pnum_any _ _).mono ?_; rintro e w5 ⟨rfl, hw⟩; have hw2 := hw.symm; clear hw; subst hw2))
              exact ⟨⟨j + 1, by omega, by go_num, HK4.out⟩, by simp [intOf]; omega⟩
            | some m =>
              rw [hm] at cM
              have cM' : Calls Tryd.prog 17 #[.string s, .int .i64 j] wj fun e w' => Kept (fun _ => False) wj w' ∧ e = .returned (.tuple #[.int .i64 (m : Int), .int .i64 0]) := cM
              obtain ⟨hmm, hne, hml, _⟩ := Rw.mate_mate hm
              obtain ⟨k, a, b, hk3, hlo, har, ha1, ha2, hb1, hb2⟩ := Rw.around_within hm
              go_upto_region 14 with (first | (go_at_call 17; refine cM'.mono ?_; rintro e w4 ⟨hk4, rfl⟩; have HK4 := Lib.hid (HKV.out.trans hk4); have HH4 := Lib.hid (HHj.out.kept hk4); have HR4 := Lib.hid (HRj.out.kept hk4 (fun _ _ => id)); clear hk4 cM') | (go_at_call 21; refine (pnum_any _ _).mono ?_; rintro e w5 ⟨rfl, hw⟩; have hw2 := hw.symm; clear hw; subst hw2))
              have cB := pmate_yes s m w4 HH4.out.tabs HM.out (by rw [HT2.out]; omega)
              rw [HT2.out, hmm] at cB
              have cB' : Calls Tryd.prog 17 #[.string s, .int .i64 m] w4 fun e w' => Kept (fun _ => False) w4 w' ∧ e = .returned (.tuple #[.int .i64 (j : Int), .int .i64 0]) := cB
              have n1 : ((m : Int) == (j : Int)) = false := by rw [beq_eq_false_iff_ne]; omega
              clear cB cM hm hmm
              go_upto_region 17 with (first | (go_at_call 17; refine cB'.mono ?_; rintro e w5 ⟨hk5, rfl⟩; have HK5 := Lib.hid (HK4.out.trans hk5); have HH5 := Lib.hid (HH4.out.kept hk5); have HR5 := Lib.hid (HR4.out.kept hk5 (fun _ _ => id)); clear hk5 cB') | (go_at_call 21; refine (pnum_any _ _).mono ?_; rintro e w6 ⟨rfl, hw⟩; have hw2 := hw.symm; clear hw; subst hw2))
              obtain ⟨lo, hlo'⟩ : ∃ lo, min j m = lo := ⟨_, rfl⟩
              obtain ⟨hi', hhi'⟩ : ∃ hi', max j m = hi' := ⟨_, rfl⟩
              obtain ⟨mid, hmid⟩ : ∃ mid, (j + m) / 2 = mid := ⟨_, rfl⟩
              have l1 : min (j : Int) (m : Int) = (lo : Int) := by omega
              have l2 : max (j : Int) (m : Int) = (hi' : Int) := by omega
              have hlol : lo < t.length := by omega
              rw [hlo'] at hlo ha1
              rw [hhi'] at hb2
              rw [hmid] at har ha2 hb1
              obtain ⟨o, ho⟩ : ∃ o, Rw.opn k = o := ⟨_, rfl⟩
              rw [ho] at har hlo
              have hcl : w5.cell? ⟨rb, lo, none⟩ = some (.int .i32 o) := by
                obtain ⟨ad1, e1, h1⟩ := HR5.out.2 lo o hlo
                injection e1 with e1
                subst e1
                rwa [addr_add, Nat.zero_add] at h1
              have hro := HV.out.runey.at_ hlo
              have e1 : IntKind.i64.wrap o = o := wrapI rfl (by omega) (by omega)
              have e2 : IntKind.i64.wrap ((j : Int) + (m : Int)) = (j : Int) + (m : Int) := wrapI rfl (by omega) (by omega)
              have hkind : o = 40 ∨ o = 91 ∨ o = 123 := by
                rw [← ho]
                match k, hk3 with
                | 0, _ => exact .inl rfl
                | 1, _ => exact .inr (.inl rfl)
                | 2, _ => exact .inr (.inr rfl)
              have cA := paround_yes s mid 1 o w5 HH5.out.tabs HM.out (by rw [HT2.out]; omega) hkind (by decide) (by decide)
              rw [HT2.out, har] at cA
              have cA' : Calls Tryd.prog 22 #[.string s, .int .i64 mid, .int .i64 o, .int .i64 ((1 : Nat) : Int)] w5 fun e w' => Kept (fun _ => False) w5 w' ∧ e = .returned (.tuple #[.int .i64 (a : Int), .int .i64 (b : Int), .int .i64 0]) := cA
              have t1 : (0 : Int) ≤ (lo : Int) := by omega
              have t2 : (lo : Int) < (t.length : Int) := by omega
              have d1 : ((j : Int) + (m : Int)) / 2 = (mid : Int) := by omega
              have d2 : ((j : Int) + (m : Int)).tdiv 2 = (mid : Int) := by rw [Int.tdiv_eq_ediv_of_nonneg (by omega)]; exact d1
              have n2 : decide ((mid : Int) < (a : Int)) = false := decide_eq_false (by omega)
              have n3 : decide ((b : Int) < (mid : Int)) = false := decide_eq_false (by omega)
              have n4 : decide ((a : Int) < (lo : Int)) = false := decide_eq_false (by omega)
              have n5 : decide ((hi' : Int) < (b : Int)) = false := decide_eq_false (by omega)
              clear cA har hlo hlo' hhi' hmid ho hkind hro
              go_wp2_with (first | (go_at_call 22; refine cA'.mono ?_; rintro e w6 ⟨hk6, rfl⟩; have HK6 := Lib.hid (HK5.out.trans hk6); clear hk6 cA') | (go_at_call 21; refine (pnum_any _ _).mono ?_; rintro e w7 ⟨rfl, hw⟩; have hw2 := hw.symm; clear hw; subst hw2))
              exact ⟨⟨j + 1, by omega, by go_num, HK6.out⟩, by simp [intOf]; omega⟩
          · obtain rfl : j = t.length := by omega
            have b1 : decide (t.length < t.length) = false := decide_eq_false (by omega)
            have b2 : decide ((t.length : Int) < (t.length : Int)) = false := decide_eq_false (by omega)
            go_wp2_with fail
            go_roundw
            case rel => exact ⟨i + 1, by omega, by omega, by go_num, HKJ.out⟩
            case measure => simp [intOf] <;> omega
    · have hlast : (i = n0 ∧ i < 5) ∨ (i < n0 ∧ i = 5) ∨ (i = n0 ∧ i = 5) := by omega
      have cW := pwakes_any wi HHi.out.tabs
      rcases hlast with ⟨h1, h2⟩ | ⟨h1, h2⟩ | ⟨h1, h2⟩
      case' inl | inr.inr => have b1 : decide (i < n0) = false := by simp; omega
      case' inr.inl =>
        have b1 : decide (i < n0) = true := by simp; omega
        have b2 : decide (i < 5) = false := by simp; omega
        have b3 : decide ((i : Int) < 5) = false := by simp; omega
      all_goals
        clear h1 h2
        go_wp2_with (go_at_call 24; refine cW.mono ?_; rintro e w9 ⟨rfl, hk9⟩)
        go_ret
        exact ⟨rfl, HKi.out.trans hk9⟩
end Go.Proofs.YtohmhjeimeilcaaDoor
