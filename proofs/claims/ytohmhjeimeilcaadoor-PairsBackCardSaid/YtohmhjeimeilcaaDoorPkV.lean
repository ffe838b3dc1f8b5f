/-
  THE LAW PairsMates, walked.
-/
import Derived.Test.YtohmhjeimeilcaaDoorPkL
set_option linter.unusedVariables false
namespace Go.Proofs.YtohmhjeimeilcaaDoor
open Go Go.RowKit

theorem pnum_any (x : Int) (w : World) : Calls Tryd.prog 21 #[.int .i64 x] w fun e w' => e = .returned (.int .i64 x) ∧ w' = w := by
  go_enter Tryd.func21, Tryd.ntmps21
  go_wp2
  go_ret
  exact ⟨rfl, rfl⟩
def pa3 : ByteArray := ⟨#[40, 97, 41]⟩
theorem pa3_rs : rs pa3 = [40, 97, 41] := by decide
theorem pa3_may : mayB pa3 = true := by decide
theorem pa3_to : ansO (Rw.mate (rs pa3) 0) = .tuple #[.int .i64 2, .int .i64 0] := by
  rw [pa3_rs]
  rfl
theorem pwakes_any (w : World) (hT : Tabs w) : Calls Tryd.prog 24 #[] w fun e w' => e = .returned (.bool true) ∧ Kept (fun _ => False) w w' := by
  have cM := pmate_yes pa3 0 w hT pa3_may (Nat.zero_le _)
  rw [pa3_to] at cM
  unfold pa3 at cM
  clear hT
  go_enter Tryd.func24, Tryd.ntmps24
  go_wp2_with (first | (go_at_call 17; refine cM.mono ?_; rintro e w1 ⟨hk1, rfl⟩) | (go_at_call 21; refine (pnum_any _ _).mono ?_; rintro e w2 ⟨rfl, rfl⟩))
  go_ret
  exact ⟨rfl, hk1⟩
set_option maxRecDepth 100000 in
set_option maxHeartbeats 4000000 in
theorem pairsMates_any (p : AskV) (w : World) (hp : AskOk w p) (hT : Tabs w) : Calls Tryd.prog 3 #[.agg p.cells] w fun e w' => e = .returned (.bool true) ∧ Kept (fun _ => False) w w' := by
  have hK0 : Hid (Kept (fun _ => False) w (w.alloc (.cells p.cells 28))) := (Kept.refl _ w).alloc _
  have hH0 : Hid (Held (w.alloc (.cells p.cells 28)) w.heap.size p) := ⟨heap_alloc_new w _, hp.kept hK0.out, hT.kept hK0.out id id⟩
  have cH := heavy10_any p (w.alloc (.cells p.cells 28)) hH0.out.ask
  clear hp hT
  obtain ⟨A, n0, c0, ss, xa, xb, xr, xc, xk, xn, xq⟩ := p
  unfold AskV.cells at *
  simp only at *
  go_enter Tryd.func3, Tryd.ntmps3
  go_wp2_with (go_at_call 14; refine cH.mono ?_; rintro e w1 ⟨⟨hv, rfl, hsm⟩, hk1⟩; have HS := Lib.hid hsm; have HKA := Lib.hid (hK0.out.trans hk1); have HHA := Lib.hid (hH0.out.kept hk1); clear hsm hk1 hH0 hK0 cH)
  · exact bodyPost_ret (results_tmp rfl _ _ _) rfl ⟨rfl, HKA.out⟩
  have hv0 : hv = false := by assumption
  subst hv0
  have hss : ∀ s ∈ ss, s.size ≤ 6000 := HS.out rfl
  have HSS := Lib.hid hss
  clear hss HS
  generalize hpb : w.heap.size = pb at HHA ⊢
  clear hpb
  go_loopw [3] (fun v wr => ∃ i : Nat, i ≤ n0 ∧ i ≤ 5 ∧ v = .int .i64 i ∧ Kept (fun _ => False) w1 wr) (fun v _ => n0 - (intOf v).toNat)
  case atStart => exact ⟨0, Nat.zero_le _, Nat.zero_le _, rfl, Kept.refl _ _⟩
  case round =>
    obtain ⟨i, hi, hi4, rfl, hki⟩ := hrel
    obtain ⟨wi, hwi⟩ : ∃ wi, wi = wr := ⟨_, rfl⟩
    subst hwi
    have HKi := Lib.hid (HKA.out.trans hki)
    have HHi := Lib.hid (HHA.out.kept hki)
    have HKW := Lib.hid hki
    clear hki
    have p0 : wi.cell? ⟨pb, 0, none⟩ = some (.slice A n0 c0) := HHi.out.pb.c 0
    by_cases hgo : i < n0 ∧ i < 5
    · obtain ⟨g1, g2⟩ := hgo
      obtain ⟨ad, s, rfl, hs, hsc, _⟩ := HHi.out.ask.ss.cell g1
      have hsz : s.size ≤ 6000 := HSS.out s (List.mem_of_getElem? hs)
      have hl := rs_len s
      have b1 : decide (i < n0) = true := by simp; omega
      have b2 : decide (i < 5) = true := by simp; omega
      have b3 : decide ((i : Int) < 5) = true := by simp; omega
      obtain ⟨cap, w2, hcap, hcv, hk2, hlt2, hR⟩ := conv_rs s wi (by omega)
      obtain ⟨t, ht⟩ : ∃ t, rs s = t := ⟨_, rfl⟩
      rw [ht] at hcap hcv hR hl
      have HT2 := Lib.hid ht
      have HK2 := Lib.hid (HKW.out.trans hk2)
      have HH2 := Lib.hid (HHi.out.kept hk2)
      have HR := Lib.hid hR
      have HTl : Hid (t.length ≤ 6000) := by show _ ≤ _; omega
      clear hs hk2 hR ht hcap hlt2
      generalize hrb : wi.heap.size = rb at HR hcv
      clear hrb
      by_cases h120 : 120 < t.length
      · have b4 : decide (120 < t.length) = true := decide_eq_true h120
        have b5 : decide ((120 : Int) < (t.length : Int)) = true := decide_eq_true (by omega)
        go_wp2_with fail
        go_roundw
        case rel => exact ⟨i + 1, by omega, by omega, by go_num, HK2.out⟩
        case measure => simp [intOf] <;> omega
      have b4 : decide (120 < t.length) = false := decide_eq_false h120
      have b5 : decide ((120 : Int) < (t.length : Int)) = false := decide_eq_false (by omega)
      go_wp2_with fail
      clear b1 b2 b3 b4 b5 hcv p0 hsc
      go_loopw [6] (fun v wr => ∃ (j : Nat) (I : Int), j ≤ t.length + 3 ∧ v = .int .i64 I ∧ I + 1 = (j : Int) ∧ Kept (fun _ => False) w2 wr) (fun v _ => (t.length + 2 - intOf v).toNat)
      case atStart => exact ⟨0, -1, Nat.zero_le _, rfl, by omega, Kept.refl _ _⟩
      case round =>
        obtain ⟨j, I, hj, rfl, hIj, hkj⟩ := hrel
        obtain ⟨wj, hwj⟩ : ∃ wj, wj = wr := ⟨_, rfl⟩
        subst hwj
        have HKJ := Lib.hid (HK2.out.trans hkj)
        have HKV := Lib.hid hkj
        have HHj := Lib.hid (HH2.out.kept hkj)
        have HRj := Lib.hid (HR.out.kept hkj (fun _ _ => id))
        clear hkj
        have bw : IntKind.i64.wrap ((t.length : Int) + 1) = (t.length : Int) + 1 := wrapI rfl (by omega) (by omega)
        by_cases hgo2 : I ≤ (t.length : Int) + 1
        · have b1 : decide (I ≤ (t.length : Int) + 1) = true := decide_eq_true hgo2
          obtain ⟨G, hG⟩ : ∃ G, decide (GoodP s I) = G := ⟨_, rfl⟩
          have HG := Lib.hid hG
          have cMay := rmay_any s wj (by omega) HHj.out.tabs
          clear hG
          go_upto_region 12 with fail
          clear b1
          go_cut [7] from 60 to 67 (fun v wx => v = .bool G ∧ Kept (fun _ => False) wj wx)
          case first =>
            by_cases h1 : mayB s = true
            · rw [h1] at cMay
              by_cases h2 : 0 ≤ I ∧ I ≤ (t.length : Int)
              · have hGt : G = true := by rw [← HG.out]; exact decide_eq_true ⟨h1, h2.1, by rw [HT2.out]; exact h2.2⟩
                have H2 := Lib.hid h2
                subst hGt
                clear h1 h2
                go_wp2_with (first | (go_at_call 15; refine cMay.mono ?_; rintro e w3 ⟨rfl, hk3⟩) | (go_at_call 16; refine (znum_t H2.out _).mono ?_; rintro e w4 ⟨rfl, hw⟩; have hw2 := hw.symm; clear hw; subst hw2))
                go_meet
                exact ⟨rfl, hk3⟩
              · have hGt : G = false := by rw [← HG.out]; exact decide_eq_false (fun h => h2 ⟨h.2.1, by have := h.2.2; rw [HT2.out] at this; exact this⟩)
                have H2 := Lib.hid h2
                subst hGt
                clear h1 h2
                go_wp2_with (first | (go_at_call 15; refine cMay.mono ?_; rintro e w3 ⟨rfl, hk3⟩) | (go_at_call 16; refine (znum_f H2.out _).mono ?_; rintro e w4 ⟨rfl, hw⟩; have hw2 := hw.symm; clear hw; subst hw2))
                go_meet
                exact ⟨rfl, hk3⟩
            · have h1' : mayB s = false := by simpa using h1
              have hGt : G = false := by rw [← HG.out]; exact decide_eq_false (fun h => h1 h.1)
              subst hGt
              rw [h1'] at cMay
              clear h1 h1'
              go_wp2_with (go_at_call 15; refine cMay.mono ?_; rintro e w3 ⟨rfl, hk3⟩)
              go_meet
              exact ⟨rfl, hk3⟩
          case rest =>
            obtain ⟨rfl, hk3⟩ := hcut
            obtain ⟨w3, hw3⟩ : ∃ w3, w3 = wc := ⟨_, rfl⟩
            subst hw3
            have HK3 := Lib.hid (HKV.out.trans hk3)
            have HH3 := Lib.hid (HHj.out.kept hk3)
            have HR3 := Lib.hid (HRj.out.kept hk3 (fun _ _ => id))
            clear hk3 cMay
            have cM := pmate_all s I w3 (by omega) HH3.out.tabs
            go_wp2_with fail
            refine cM.mono ?_
            rintro e w4 ⟨⟨X1, E1, rfl, ht1⟩, hk4⟩
            have HK4 := Lib.hid (HK3.out.trans hk4)
            have HH4 := Lib.hid (HH3.out.kept hk4)
            have HR4 := Lib.hid (HR3.out.kept hk4 (fun _ _ => id))
            have HM1 := Lib.hid ht1
            clear hk4 ht1 cM
            have cV := pmove_all s I w4 (by omega) HH4.out.tabs
            go_wp2_with fail
            refine cV.mono ?_
            rintro e w5 ⟨⟨X2, E2, rfl, ht2⟩, hk5⟩
            have HK5 := Lib.hid (HK4.out.trans hk5)
            have HH5 := Lib.hid (HH4.out.kept hk5)
            have HR5 := Lib.hid (HR4.out.kept hk5 (fun _ _ => id))
            have HM2 := Lib.hid ht2
            clear hk5 ht2 cV
            go_upto_if 80 with fail
            go_cut [12, 13, 14, 15] from 81 to 92 (fun v12 v13 v14 v15 wx => v12 = .int .i64 E1 ∧ v13 = .int .i64 E2 ∧ v14 = .int .i64 X1 ∧ v15 = .int .i64 X2 ∧ Kept (fun _ => False) w5 wx)
            case first =>
              by_cases hg : GoodP s I
              · have hGt : G = true := by rw [← HG.out]; exact decide_eq_true hg
                subst hGt
                have hm1 := HM1.out.1 hg
                have hm2 := HM2.out.1 hg
                obtain ⟨hmay, h0, h1⟩ := hg
                rw [HT2.out] at h1 hm1 hm2
                obtain ⟨k, rfl⟩ := Int.eq_ofNat_of_zero_le h0
                rw [Int.toNat_natCast] at hm1 hm2
                have cRM := rmate_any (some ⟨rb, 0, none⟩) t.length cap k t w5 HR5.out (by have := HTl.out; omega)
                rw [mt_oI] at cRM
                have cRP := fun W (hW : Rn W (some ⟨rb, 0, none⟩) t.length t) => rpair_any (some ⟨rb, 0, none⟩) t.length cap k t W hW (by have := HTl.out; omega) (by omega)
                have HCRP := Lib.hid cRP
                have o1 : (oI (Rw.mate t k) = -1 ∧ X1 = 0 ∧ E1 = 6) ∨ (∃ m : Nat, oI (Rw.mate t k) = (m : Int) ∧ X1 = m ∧ E1 = 0) := by
                  cases ho : Rw.mate t k with
                  | none => rw [ho] at hm1; injection hm1 with e; simp at e; exact .inl ⟨rfl, e.1.symm, e.2.symm⟩
                  | some m => rw [ho] at hm1; injection hm1 with e; simp at e; exact .inr ⟨m, rfl, e.1.symm, e.2.symm⟩
                have o2 : (oI (Rw.pair t k) = -1 ∧ X2 = 0 ∧ E2 = 6) ∨ (∃ m : Nat, oI (Rw.pair t k) = (m : Int) ∧ X2 = m ∧ E2 = 0) := by
                  cases ho : Rw.pair t k with
                  | none => rw [ho] at hm2; injection hm2 with e; simp at e; exact .inl ⟨rfl, e.1.symm, e.2.symm⟩
                  | some m => rw [ho] at hm2; injection hm2 with e; simp at e; exact .inr ⟨m, rfl, e.1.symm, e.2.symm⟩
                generalize oI (Rw.mate t k) = q1 at *
                generalize oI (Rw.pair t k) = q2 at *
                clear hm1 hm2 cRP h0 h1 hmay
                have HO2 := Lib.hid o2
                clear o2
                rcases o1 with ⟨rfl, rfl, rfl⟩ | ⟨m, rfl, rfl, rfl⟩
                case' inr => have bm : decide ((0 : Int) ≤ (m : Int)) = true := decide_eq_true (by omega)
                all_goals
                  go_upto_region 21 with (go_at_call 19; refine cRM.mono ?_; rintro e w6 ⟨rfl, hk6⟩)
                  have HK6 := Lib.hid hk6
                  have cRP2 := HCRP.out w6 (HR5.out.kept hk6 (fun _ _ => id))
                  clear hk6 cRM
                  rcases HO2.out with ⟨rfl, rfl, rfl⟩ | ⟨m2, rfl, rfl, rfl⟩
                  case' inr => have bm2 : decide ((0 : Int) ≤ (m2 : Int)) = true := decide_eq_true (by omega)
                  all_goals
                    go_wp2_with (go_at_call 20; refine cRP2.mono ?_; rintro e w7 ⟨rfl, hk7⟩; have HK7 := Lib.hid (HK6.out.trans hk7); clear hk7 cRP2)
                    go_meet
                    exact ⟨rfl, rfl, rfl, rfl, HK7.out⟩
              · have hGt : G = false := by rw [← HG.out]; exact decide_eq_false hg
                subst hGt
                obtain ⟨rfl, rfl⟩ := HM1.out.2 hg
                obtain ⟨rfl, rfl⟩ := HM2.out.2 hg
                clear hg
                go_wp2_with fail
                go_meet
                exact ⟨rfl, rfl, rfl, rfl, Kept.refl _ _⟩
            case rest =>
              obtain ⟨rfl, rfl, rfl, rfl, hk6⟩ := hcut
              obtain ⟨w6, hw6⟩ : ∃ w6, w6 = wc := ⟨_, rfl⟩
              subst hw6
              have HK6 := Lib.hid (HK5.out.trans hk6)
              have HH6 := Lib.hid (HH5.out.kept hk6)
              have HR6 := Lib.hid (HR5.out.kept hk6 (fun _ _ => id))
              clear hk6 HM1 HM2
              have q5 : w6.cell? ⟨pb, 5, none⟩ = some (.int .i64 xk) := HH6.out.pb.c 5
              go_upto_region 26 with (go_at_call 21; refine (pnum_any _ _).mono ?_; rintro e w7 ⟨rfl, hw⟩; have hw2 := hw.symm; clear hw; subst hw2)
              have hkw : Kept (fun _ => False) w6 (w6.alloc (.cells #[.int .i64 40, .int .i64 91, .int .i64 123, .int .i64 xk] 3)) := (Kept.refl _ w6).alloc _
              have HKEYS : Hid (Nums (w6.alloc (.cells #[.int .i64 40, .int .i64 91, .int .i64 123, .int .i64 xk] 3)) (some ⟨w6.heap.size, 0, none⟩) 4 [40, 91, 123, xk]) := nums_new w6 [40, 91, 123, xk] 3
              have HK8 := Lib.hid (HK6.out.trans hkw)
              have HH8 := Lib.hid (HH6.out.kept hkw)
              have HR8 := Lib.hid (HR6.out.kept hkw (fun _ _ => id))
              clear hkw
              go_wp2_with fail
              clear q5
              generalize w6.alloc (.cells #[.int .i64 40, .int .i64 91, .int .i64 123, .int .i64 xk] 3) = w8 at *
              generalize w6.heap.size = kb at *
              generalize ([40, 91, 123, xk] : List Int) = keys at *
              go_loopw [19] (fun v wr => ∃ k : Nat, k ≤ 4 ∧ v = .int .i64 k ∧ Kept (fun _ => False) w8 wr) (fun v _ => 4 - (intOf v).toNat)
              case atStart => exact ⟨0, Nat.zero_le _, rfl, Kept.refl _ _⟩
              case round =>
                obtain ⟨k, hk, rfl, hkk⟩ := hrel
                obtain ⟨wk, hwk⟩ : ∃ wk, wk = wr := ⟨_, rfl⟩
                subst hwk
                have HKK := Lib.hid (HK8.out.trans hkk)
                have HKY := Lib.hid hkk
                have HHk := Lib.hid (HH8.out.kept hkk)
                have HRk := Lib.hid (HR8.out.kept hkk (fun _ _ => id))
                have HYk := Lib.hid (HKEYS.out.kept hkk (fun _ _ => id))
                clear hkk
                by_cases hk4 : k < 4
                · obtain ⟨kad, key, he, hkey, hkc⟩ := HYk.out.cell hk4
                  injection he with he
                  subst he
                  rw [addr_add, Nat.zero_add] at hkc
                  have b6 : decide (k < 4) = true := decide_eq_true hk4
                  have b7 : decide ((k : Int) < 4) = true := decide_eq_true (by omega)
                  have t1 : (0 : Int) ≤ (k : Int) := by omega
                  have t2 : (k : Int) < 4 := by omega
                  have e1 : IntKind.i64.wrap (I + (k : Int)) = I + (k : Int) := wrapI rfl (by omega) (by omega)
                  have e2 : IntKind.i64.wrap (I + (k : Int) + 2) = I + (k : Int) + 2 := wrapI rfl (by omega) (by omega)
                  clear hkey
                  go_upto_region 31 with fail
                  obtain ⟨cnt, hcnt⟩ : ∃ cnt : Nat, 1 + (I + (k : Int)) % 2 = (cnt : Int) := ⟨(1 + (I + (k : Int)) % 2).toNat, by omega⟩
                  have hn1 : 1 ≤ cnt := by omega
                  have hn2 : cnt ≤ 999 := by omega
                  simp only [hcnt]
                  clear hcnt e1 e2 b6 b7
                  have cA := paround_all s I key cnt wk (by omega) HHk.out.tabs
                  obtain ⟨GA, hGA⟩ : ∃ GA, decide (GoodA s I key cnt) = GA := ⟨_, rfl⟩
                  have HGA := Lib.hid hGA
                  clear hGA
                  go_upto_region 34 with (go_at_call 22; refine cA.mono ?_; rintro e w9 ⟨⟨X, Y, E, rfl, ht9⟩, hk9⟩; have HK9 := Lib.hid (HKY.out.trans hk9); have HA9 := Lib.hid ht9; have hkc9 := cell_kept hk9 hkc id; have HR9 := Lib.hid (HRk.out.kept hk9 (fun _ _ => id)); clear ht9 hk9 hkc cA)
                  go_cut [161] from 140 to 161 (fun v wx => v = .bool GA ∧ wx = w9)
                  case first =>
                    cases G with
                    | false =>
                      have hGt : GA = false := by rw [← HGA.out]; exact decide_eq_false (fun h => by have := of_decide_eq_false HG.out; exact this h.1)
                      subst hGt
                      go_wp2_with fail
                      go_meet
                      exact ⟨rfl, rfl⟩
                    | true =>
                      have hgp : GoodP s I := of_decide_eq_true HG.out
                      have hways : (key = 40 ∧ GA = true) ∨ ((key == 40) = false ∧ key = 91 ∧ GA = true) ∨ ((key == 40) = false ∧ (key == 91) = false ∧ key = 123 ∧ GA = true) ∨ ((key == 40) = false ∧ (key == 91) = false ∧ (key == 123) = false ∧ GA = false) := by
                        rw [← HGA.out]
                        by_cases c1 : key = 40
                        · exact .inl ⟨c1, decide_eq_true ⟨hgp, .inl c1, by omega, by omega⟩⟩
                        · by_cases c2 : key = 91
                          · exact .inr (.inl ⟨beq_eq_false_iff_ne.2 c1, c2, decide_eq_true ⟨hgp, .inr (.inl c2), by omega, by omega⟩⟩)
                          · by_cases c3 : key = 123
                            · exact .inr (.inr (.inl ⟨beq_eq_false_iff_ne.2 c1, beq_eq_false_iff_ne.2 c2, c3, decide_eq_true ⟨hgp, .inr (.inr c3), by omega, by omega⟩⟩))
                            · exact .inr (.inr (.inr ⟨beq_eq_false_iff_ne.2 c1, beq_eq_false_iff_ne.2 c2, beq_eq_false_iff_ne.2 c3, decide_eq_false (fun h => by rcases h.2.1 with h | h | h; exact c1 h; exact c2 h; exact c3 h)⟩))
                      clear hgp
                      rcases hways with ⟨rfl, rfl⟩ | ⟨c1, rfl, rfl⟩ | ⟨c1, c2, rfl, rfl⟩ | ⟨c1, c2, c3, rfl⟩
                      all_goals
                        go_wp2_with fail
                        go_meet
                        exact ⟨rfl, rfl⟩
                  case rest =>
                    obtain ⟨rfl, hw⟩ := hcut
                    have hw2 := hw.symm
                    clear hw
                    subst hw2
                    go_upto_if 161 with fail
                    go_cut [12, 24, 25] from 162 to 176 (fun v12 v24 v25 wx => v12 = .int .i64 E ∧ v24 = .int .i64 X ∧ v25 = .int .i64 Y ∧ Kept (fun _ => False) w9 wx)
                    case first =>
                      cases GA with
                      | false =>
                        obtain ⟨rfl, rfl, rfl⟩ := HA9.out.2 (of_decide_eq_false HGA.out)
                        go_wp2_with fail
                        go_meet
                        exact ⟨rfl, rfl, rfl, Kept.refl _ _⟩
                      | true =>
                        have hga : GoodA s I key cnt := of_decide_eq_true HGA.out
                        have hm1 := HA9.out.1 hga
                        obtain ⟨⟨hmay, h0, h1⟩, h2, _⟩ := hga
                        rw [HT2.out] at h1 hm1
                        obtain ⟨kk, rfl⟩ := Int.eq_ofNat_of_zero_le h0
                        rw [Int.toNat_natCast, Int.toNat_natCast] at hm1
                        have hrn : Runey t := by rw [← HT2.out]; exact rs_runey (mayB_valid hmay)
                        have cRA := raround_any (some ⟨rb, 0, none⟩) t.length cap kk cnt key t w9 HR9.out hrn (by have := HTl.out; omega) (by omega) hn1 hn2
                        have o1 : (ansB (Rw.around t kk key cnt) = .tuple #[.int .i64 (-1), .int .i64 (-1)] ∧ X = 0 ∧ Y = 0 ∧ E = 6) ∨ (∃ m : Nat, ansB (Rw.around t kk key cnt) = .tuple #[.int .i64 (m : Int), .int .i64 Y] ∧ X = m ∧ E = 0) := by
                          cases ho : Rw.around t kk key cnt with
                          | none => rw [ho] at hm1; injection hm1 with e; simp at e; exact .inl ⟨rfl, e.1.symm, e.2.1.symm, e.2.2.symm⟩
                          | some q => obtain ⟨q1, q2⟩ := q; rw [ho] at hm1; injection hm1 with e; simp at e; exact .inr ⟨q1, by rw [← e.2.1]; rfl, e.1.symm, e.2.2.symm⟩
                        generalize ansB (Rw.around t kk key cnt) = q1 at *
                        clear hm1 h0 h1 h2 hmay hrn
                        rcases o1 with ⟨rfl, rfl, rfl, rfl⟩ | ⟨m, rfl, rfl, rfl⟩
                        case' inr => have bm : decide ((0 : Int) ≤ (m : Int)) = true := decide_eq_true (by omega)
                        all_goals
                          go_wp2_with (go_at_call 23; refine cRA.mono ?_; rintro e w10 ⟨hk10, rfl⟩; have HK10 := Lib.hid hk10; clear hk10 cRA)
                          go_meet
                          exact ⟨rfl, rfl, rfl, HK10.out⟩
                    case rest =>
                      obtain ⟨rfl, rfl, rfl, hk10⟩ := hcut
                      have HK10 := Lib.hid (HK9.out.trans hk10)
                      clear hk10 HA9
                      go_wp2_with (go_at_call 21; refine (pnum_any _ _).mono ?_; rintro e w11 ⟨rfl, hw⟩; have hw2 := hw.symm; clear hw; subst hw2)
                      exact ⟨⟨k + 1, by omega, by go_num, HK10.out⟩, by simp [intOf]; omega⟩
                · obtain rfl : k = 4 := by omega
                  have b7 : decide ((4 : Int) < 4) = false := by decide
                  go_wp2_with fail
                  go_roundw
                  case rel => exact ⟨j + 1, I + 1, by omega, by go_num, by omega, HKK.out⟩
                  case measure => simp [intOf]; omega
        · have b1 : decide (I ≤ (t.length : Int) + 1) = false := decide_eq_false hgo2
          go_wp2_with fail
          go_roundw
          case rel => exact ⟨i + 1, by omega, by omega, by go_num, HKJ.out⟩
          case measure => simp [intOf] <;> omega
    · have hlast : (i = n0 ∧ i < 5) ∨ (i < n0 ∧ i = 5) ∨ (i = n0 ∧ i = 5) := by omega
      have cW := pwakes_any wi HHi.out.tabs
      rcases hlast with ⟨h1, h2⟩ | ⟨h1, h2⟩ | ⟨h1, h2⟩
      case' inl | inr.inr => have b1 : decide (i < n0) = false := by simp; omega
      case' inr.inl =>
        have b1 : decide (i < n0) = true := by simp; omega
        have b2 : decide (i < 5) = false := by simp; omega
        have b3 : decide ((i : Int) < 5) = false := by simp; omega
      all_goals
        clear h1 h2
        go_wp2_with (go_at_call 24; refine cW.mono ?_; rintro e w9 ⟨rfl, hk9⟩)
        go_ret
        exact ⟨rfl, HKi.out.trans hk9⟩
end Go.Proofs.YtohmhjeimeilcaaDoor
