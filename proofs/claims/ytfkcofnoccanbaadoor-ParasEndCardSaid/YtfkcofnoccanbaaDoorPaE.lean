/-
  THE LAW ParasEnd, walked.
-/
import Derived.Test.YtfkcofnoccanbaaDoorPaE0
set_option linter.unusedVariables false
namespace Go.Proofs.YtfkcofnoccanbaaDoor
open Go Go.RowKit

set_option maxRecDepth 100000 in
set_option maxHeartbeats 1000000 in
theorem parasEnd_any (p : AskV) (w : World) (hp : AskOk w p) (hT : Tabs w) : Calls Tryd.prog 6 #[.agg p.cells] w fun e w' => e = .returned (.bool true) ∧ Kept (fun _ => False) w w' := by
  have hK0 : Hid (Kept (fun _ => False) w (w.alloc (.cells p.cells 28))) := (Kept.refl _ w).alloc _
  have hH0 : Hid (Held (w.alloc (.cells p.cells 28)) w.heap.size p) := ⟨heap_alloc_new w _, hp.kept hK0.out, hT.kept hK0.out id id⟩
  have cH := heavy10_any p (w.alloc (.cells p.cells 28)) hH0.out.ask
  clear hp hT
  obtain ⟨A, n0, c0, ss, xa, xb, xr, xc, xk, xn, xq⟩ := p
  unfold AskV.cells at *
  simp only at *
  go_enter Tryd.func6, Tryd.ntmps6
  go_wp2_with (go_at_call 7; refine cH.mono ?_; rintro e w1 ⟨⟨hv, rfl, hsm⟩, hk1⟩; have HS := Lib.hid hsm; have HK1 := Lib.hid (hK0.out.trans hk1); have HH := Lib.hid (hH0.out.kept hk1); clear hsm hk1 hH0 hK0 cH)
  · exact bodyPost_ret (results_tmp rfl _ _ _) rfl ⟨rfl, HK1.out⟩
  have hv0 : hv = false := by assumption
  subst hv0
  have hss : ∀ s ∈ ss, s.size ≤ 6000 := HS.out rfl
  have HSS := Lib.hid hss
  clear hss HS
  generalize hpb : w.heap.size = pb at HH ⊢
  clear hpb
  go_loopw [3] (fun v wr => ∃ i : Nat, i ≤ n0 ∧ i ≤ 5 ∧ v = .int .i64 i ∧ Kept (fun _ => False) w1 wr) (fun v _ => n0 - (intOf v).toNat)
  case atStart => exact ⟨0, Nat.zero_le _, Nat.zero_le _, rfl, Kept.refl _ _⟩
  case round =>
    obtain ⟨i, hi, hi4, rfl, hki⟩ := hrel
    obtain ⟨wi, hwi⟩ : ∃ wi, wi = wr := ⟨_, rfl⟩
    subst hwi
    have HKi := Lib.hid (HK1.out.trans hki)
    have HHi := Lib.hid (HH.out.kept hki)
    have HKW := Lib.hid hki
    clear hki
    have p0 : wi.cell? ⟨pb, 0, none⟩ = some (.slice A n0 c0) := HHi.out.pb.c 0
    by_cases hgo : i < n0 ∧ i < 5
    · obtain ⟨g1, g2⟩ := hgo
      obtain ⟨ad, s, rfl, hs, hsc, _⟩ := HHi.out.ask.ss.cell g1
      have hsz : s.size ≤ 6000 := HSS.out s (List.mem_of_getElem? hs)
      have HSI := Lib.hid hs
      have hl := rs_len s
      clear hs
      obtain ⟨cap, w2, hcap, hcv, hk2, hlt2, hR⟩ := conv_rs s wi (by omega)
      generalize ht : rs s = t at *
      have HT2 := Lib.hid ht
      have HK2 := Lib.hid (HKi.out.trans hk2)
      have HKW2 := Lib.hid (HKW.out.trans hk2)
      have HH2 := Lib.hid (HHi.out.kept hk2)
      have HR := Lib.hid hR
      clear hk2 hR ht hcap hlt2
      generalize hrb : wi.heap.size = rb at HR hcv
      clear hrb
      have b1 : decide (i < n0) = true := by simp; omega
      have b2 : decide (i < 5) = true := by simp; omega
      have b3 : decide ((i : Int) < 5) = true := by simp; omega
      have p2 : w2.cell? ⟨pb, 0, none⟩ = some (.slice (some ad) n0 c0) := HH2.out.pb.c 0
      have s2 := HH2.out.str rfl HSI.out
      have cMay := rmay_any s w2 (by omega) HH2.out.tabs
      cases hm : mayB s with
      | false =>
        rw [hm] at cMay
        clear hm
        go_wp2_with (go_at_call 10; refine cMay.mono ?_; rintro e w3 ⟨rfl, hk3⟩)
        go_roundw
        case rel => exact ⟨i + 1, by omega, by omega, by go_num, HKW2.out.trans hk3⟩
        case measure => simp [intOf]; omega
      | true =>
        rw [hm] at cMay
        have HM := Lib.hid hm
        have HRY := Lib.hid (rs_runey (mayB_valid hm))
        rw [HT2.out] at HRY
        clear hm
        by_cases h600 : t.length ≤ 600
        · have c1 : decide ((600 : Int) < (t.length : Int)) = false := by simp; omega
          have c2 : decide (600 < t.length) = false := by simp; omega
          go_wp2_with (go_at_call 10; refine cMay.mono ?_; rintro e w3 ⟨rfl, hk3⟩)
          have HK3 := Lib.hid (HK2.out.trans hk3)
          have HKW3 := Lib.hid (HKW2.out.trans hk3)
          have HH3 := Lib.hid (HH2.out.kept hk3)
          have HR3 := Lib.hid (HR.out.kept hk3 (fun _ _ => id))
          clear hk3 cMay p0 hsc hcv HK2 HKW2 HH2 HR c1 c2 p2 s2
          go_loopw [5, 6] (fun u v wr => ∃ k q : Nat, q ≤ k ∧ k ≤ t.length ∧ u = .int .i64 k ∧ v = .int .i64 q ∧ Kept (fun _ => False) w3 wr) (fun _ v _ => t.length + 1 - (intOf v).toNat)
          case atStart => exact ⟨0, 0, Nat.le_refl _, Nat.zero_le _, rfl, rfl, Kept.refl _ _⟩
          case round =>
            obtain ⟨k, q, hqk, hk, rfl, rfl, hkk⟩ := hrel
            obtain ⟨wk, hwk⟩ : ∃ wk, wk = wr := ⟨_, rfl⟩
            subst hwk
            have HKV := Lib.hid hkk
            have HHk := Lib.hid (HH3.out.kept hkk)
            have HRk := Lib.hid (HR3.out.kept hkk (fun _ _ => id))
            clear hkk
            have x3 : wk.cell? ⟨pb, 0, none⟩ = some (.slice (some ad) n0 c0) := HHk.out.pb.c 0
            have x4 := HHk.out.str rfl HSI.out
            have b5 : decide (q ≤ t.length) = true := by simp; omega
            have b6 : decide ((q : Int) ≤ (t.length : Int)) = true := by simp; omega
            have cM := pmove_yes s k 1 125 wk HHk.out.tabs HM.out (by rw [HT2.out]; exact hk) (by decide) (by decide) (.inr rfl)
            rw [HT2.out, show Rw.pmv t (Rw.pst t 125) 1 k = Rw.pdn t (t.length + 1) k from rfl] at cM
            by_cases hend : k = t.length
            · have e1 : ansN (Rw.pdn t (t.length + 1) k) k = .tuple #[.int .i64 0, .int .i64 6] := by rw [hend, Rw.pdn_len]; exact if_pos rfl
              rw [e1] at cM
              clear e1 hqk hk
              subst hend
              go_wp2_with (first | (go_at_call 19; refine cM.mono ?_; rintro e w4 ⟨hk4, rfl⟩; have HK4 := Lib.hid hk4; clear hk4 cM x3 x4) | (go_at_call 22; refine (num_any _ _).mono ?_; rintro e w' ⟨rfl, hw⟩; have hw2 := hw.symm; clear hw; subst hw2))
              clear b5 b6
              have HKV5 := Lib.hid (HKV.out.trans HK4.out)
              have HH5 := Lib.hid (HHk.out.kept HK4.out)
              go_loopw [5, 9] (fun u v wr => ∃ k q : Nat, k + q ≤ t.length ∧ u = .int .i64 k ∧ v = .int .i64 q ∧ Kept (fun _ => False) w4 wr) (fun _ v _ => t.length + 1 - (intOf v).toNat)
              case atStart => exact ⟨t.length, 0, Nat.le_refl _, rfl, rfl, Kept.refl _ _⟩
              case round =>
                obtain ⟨k, q, hqk, rfl, rfl, hkj⟩ := hrel
                obtain ⟨wj, hwj⟩ : ∃ wj, wj = wr := ⟨_, rfl⟩
                subst hwj
                have HKJ := Lib.hid hkj
                have HHj := Lib.hid (HH5.out.kept hkj)
                clear hkj
                have x3 : wj.cell? ⟨pb, 0, none⟩ = some (.slice (some ad) n0 c0) := HHj.out.pb.c 0
                have x4 := HHj.out.str rfl HSI.out
                have b5 : decide (q ≤ t.length) = true := by simp; omega
                have b6 : decide ((q : Int) ≤ (t.length : Int)) = true := by simp; omega
                have cM := pmove_yes s k 1 123 wj HHj.out.tabs HM.out (by rw [HT2.out]; omega) (by decide) (by decide) (.inl rfl)
                rw [HT2.out, show Rw.pmv t (Rw.pst t 123) 1 k = Rw.pup t (t.length + 1) k from rfl] at cM
                by_cases hk0 : k = 0
                · subst hk0
                  have e1 : ansN (Rw.pup t (t.length + 1) 0) 0 = .tuple #[.int .i64 0, .int .i64 6] := by rw [show Rw.pup t (t.length + 1) 0 = 0 from Nat.le_zero.mp (Rw.pup_le t _ 0)]; exact if_pos rfl
                  rw [e1] at cM
                  clear e1
                  go_wp2_with (first | (go_at_call 19; refine cM.mono ?_; rintro e w5 ⟨hk5, rfl⟩; have HK5 := Lib.hid hk5; clear hk5 cM x3 x4) | (go_at_call 22; refine (num_any _ _).mono ?_; rintro e w' ⟨rfl, hw⟩; have hw2 := hw.symm; clear hw; subst hw2))
                  go_roundw
                  case rel => exact ⟨i + 1, by omega, by omega, by go_num, HKW3.out.trans (HKV5.out.trans (HKJ.out.trans HK5.out))⟩
                  case measure => simp [intOf]; omega
                · have hlt := Rw.pup_less t (t.length + 1) k (by omega)
                  have e1 : ansN (Rw.pup t (t.length + 1) k) k = .tuple #[.int .i64 (Rw.pup t (t.length + 1) k : Nat), .int .i64 0] := if_neg (by omega)
                  rw [e1] at cM
                  clear e1
                  generalize Rw.pup t (t.length + 1) k = x at *
                  have b7 : decide ((k : Int) ≤ (x : Int)) = false := by simp; omega
                  have b8 : decide (k ≤ x) = false := by simp; omega
                  go_wp2_with (first | (go_at_call 19; refine cM.mono ?_; rintro e w5 ⟨hk5, rfl⟩; have HK5 := Lib.hid hk5; clear hk5 cM x3 x4) | (go_at_call 22; refine (num_any _ _).mono ?_; rintro e w' ⟨rfl, hw⟩; have hw2 := hw.symm; clear hw; subst hw2))
                  go_roundw
                  case rel => exact ⟨x, q + 1, by omega, rfl, by go_num, HKJ.out.trans HK5.out⟩
                  case measure => simp [intOf]; omega
            · have hlt := Rw.pdn_more t (t.length + 1) k (by omega) (by omega)
              have hle := Rw.pdn_le t (t.length + 1) k hk
              have hba := Rw.pdn_bare t (t.length + 1) k hk
              have e1 : ansN (Rw.pdn t (t.length + 1) k) k = .tuple #[.int .i64 (Rw.pdn t (t.length + 1) k : Nat), .int .i64 0] := if_neg (by omega)
              rw [e1] at cM
              clear e1
              generalize Rw.pdn t (t.length + 1) k = x at *
              have HBA := Lib.hid hba
              clear hba
              have b7 : decide ((x : Int) ≤ (k : Int)) = false := by simp; omega
              have b8 : decide (x ≤ k) = false := by simp; omega
              by_cases hxl : x = t.length
              · subst hxl
                go_wp2_with (first | (go_at_call 19; refine cM.mono ?_; rintro e w5 ⟨hk5, rfl⟩; have HK5 := Lib.hid hk5; clear hk5 cM x3 x4) | (go_at_call 22; refine (num_any _ _).mono ?_; rintro e w' ⟨rfl, hw⟩; have hw2 := hw.symm; clear hw; subst hw2))
                go_roundw
                case rel => exact ⟨t.length, q + 1, by omega, Nat.le_refl _, rfl, by go_num, HKV.out.trans HK5.out⟩
                case measure => simp [intOf]; omega
              · obtain ⟨h0, h1, h2⟩ := HBA.out (by omega)
                obtain ⟨y, rfl⟩ : ∃ y, x = y + 1 := ⟨x - 1, by omega⟩
                rw [Nat.add_sub_cancel] at h2
                have H1 := Lib.hid h1
                have H2 := Lib.hid h2
                have d1 : decide (y + 1 < t.length) = true := by simp; omega
                have d2 : decide ((y : Int) + 1 < (t.length : Int)) = true := by simp; omega
                have d3 : decide (((y + 1 : Nat) : Int) < (t.length : Int)) = true := by simp; omega
                have g1 : (0 : Int) ≤ (y : Int) + 1 := by omega
                have g2 : (y : Int) + 1 < (t.length : Int) := by omega
                have g3 : (0 : Int) ≤ (y : Int) := by omega
                have g4 : (y : Int) < (t.length : Int) := by omega
                have g5 : y + 1 < t.length := by omega
                have g6 : y < t.length := by omega
                clear h0 h1 h2 hxl
                go_wp2_with (first | (go_at_call 19; refine cM.mono ?_; rintro e w5 ⟨hk5, rfl⟩; have HK5 := Lib.hid hk5; have y1 := (HRk.out.kept hk5 (fun _ _ => id)).at_ H1.out; have y2 := (HRk.out.kept hk5 (fun _ _ => id)).at_ H2.out; clear hk5 cM x3 x4) | (go_at_call 22; refine (num_any _ _).mono ?_; rintro e w' ⟨rfl, hw⟩; have hw2 := hw.symm; clear hw; subst hw2))
                go_roundw
                case rel => exact ⟨y + 1, q + 1, by omega, by omega, by go_num, by go_num, HKV.out.trans HK5.out⟩
                case measure => simp [intOf]; omega
        · have c1 : decide ((600 : Int) < (t.length : Int)) = true := by simp; omega
          have c2 : decide (600 < t.length) = true := by simp; omega
          go_wp2_with (go_at_call 10; refine cMay.mono ?_; rintro e w3 ⟨rfl, hk3⟩)
          go_roundw
          case rel => exact ⟨i + 1, by omega, by omega, by go_num, HKW2.out.trans hk3⟩
          case measure => simp [intOf]; omega
    · have hlast : (i = n0 ∧ i < 5) ∨ (i < n0 ∧ i = 5) ∨ (i = n0 ∧ i = 5) := by omega
      have cW := wakes_any wi HHi.out.tabs
      rcases hlast with ⟨h1, h2⟩ | ⟨h1, h2⟩ | ⟨h1, h2⟩
      case' inl | inr.inr => have b1 : decide (i < n0) = false := by simp; omega
      case' inr.inl =>
        have b1 : decide (i < n0) = true := by simp; omega
        have b2 : decide (i < 5) = false := by simp; omega
        have b3 : decide ((i : Int) < 5) = false := by simp; omega
      all_goals
        clear h1 h2
        go_wp2_with (go_at_call 23; refine cW.mono ?_; rintro e w9 ⟨rfl, hk9⟩)
        go_ret
        exact ⟨rfl, HKi.out.trans hk9⟩
end Go.Proofs.YtfkcofnoccanbaaDoor
