/-
  THE LAW WordsWalk, walked.
-/
import Derived.Test.YtclmcieegoobkaaDoorWdG
set_option linter.unusedVariables false
namespace Go.Proofs.YtclmcieegoobkaaDoor
open Go Go.RowKit

theorem Rw.cel_le_lst {t : List Int} {h : Nat} (hc : h ∈ Rw.cel t (t.length + 1)) : h ≤ Rw.lst t := Rw.getLastD_mem (Rw.cel_sorted t _) hc
theorem Rw.nx_mem (t : List Int) (h : Nat) : Rw.nx (Rw.stp t false false) (Rw.lst t) h ∈ Rw.cel t (t.length + 1) := by
  unfold Rw.nx
  cases hx : (Rw.stp t false false).find? (fun a => decide (h < a)) with
  | none =>
    obtain ⟨m, hm⟩ := Rw.cel_pos t t.length
    exact List.mem_of_getElem? (Rw.lst_at t m hm)
  | some y => exact (List.mem_filter.1 (List.mem_of_find?_eq_some hx)).1
theorem Rw.nx_lst (t : List Int) : Rw.nx (Rw.stp t false false) (Rw.lst t) (Rw.lst t) = Rw.lst t := by
  unfold Rw.nx
  cases hx : (Rw.stp t false false).find? (fun a => decide (Rw.lst t < a)) with
  | none => rfl
  | some y =>
    have h1 := Rw.stp_le t false false y (List.mem_of_find?_eq_some hx)
    have h2 := List.find?_some hx
    simp at h2
    omega
theorem Rw.nx_gt (t : List Int) (h : Nat) (hl : h < Rw.lst t) : h < Rw.nx (Rw.stp t false false) (Rw.lst t) h := by
  unfold Rw.nx
  cases hx : (Rw.stp t false false).find? (fun a => decide (h < a)) with
  | none => exact hl
  | some y =>
    have h2 := List.find?_some hx
    simpa using h2
theorem Rw.pv_lt (t : List Int) (x : Nat) (hx0 : 0 < x) : Rw.pv (Rw.stp t false false) x < x := by
  unfold Rw.pv
  cases hx : ((Rw.stp t false false).filter (fun a => decide (a < x))).getLast? with
  | none => exact hx0
  | some y =>
    have h2 := (List.mem_filter.1 (List.mem_of_getLast? hx)).2
    simpa using h2
theorem Rw.w_step (t : List Int) (h : Nat) : Rw.wmv t h 119 1 = if Rw.nx (Rw.stp t false false) (Rw.lst t) h = h then none else some ((Rw.nx (Rw.stp t false false) (Rw.lst t) h : Nat) : Int) := rfl
theorem Rw.b_step (t : List Int) (h : Nat) : Rw.wmv t h 98 1 = if Rw.pv (Rw.stp t false false) h = h then none else some ((Rw.pv (Rw.stp t false false) h : Nat) : Int) := rfl
set_option maxRecDepth 100000 in
set_option maxHeartbeats 2000000 in
theorem wordsWalk_any (p : AskV) (w : World) (hp : AskOk w p) (hT : Tabs w) : Calls Tryd.prog 8 #[.agg p.cells] w fun e w' => e = .returned (.bool true) ∧ Kept (fun _ => False) w w' := by
  have hK0 : Hid (Kept (fun _ => False) w (w.alloc (.cells p.cells 39))) := (Kept.refl _ w).alloc _
  have hH0 : Hid (Held (w.alloc (.cells p.cells 39)) w.heap.size p) := ⟨heap_alloc_new w _, hp.kept hK0.out, hT.kept hK0.out id id⟩
  have cH := heavy10_any p (w.alloc (.cells p.cells 39)) hH0.out.ask
  clear hp hT
  obtain ⟨A, n0, c0, ss, xa, xb, xr, xc, xk, xn, xq⟩ := p
  unfold AskV.cells at *
  simp only at *
  go_enter Tryd.func8, Tryd.ntmps8
  go_wp2_with (go_at_call 26; refine cH.mono ?_; rintro e w1 ⟨⟨hv, rfl, hsm⟩, hk1⟩; have HS := Lib.hid hsm; have HKA := Lib.hid (hK0.out.trans hk1); have HHA := Lib.hid (hH0.out.kept hk1); clear hsm hk1 hH0 hK0 cH)
  · exact bodyPost_ret (results_tmp rfl _ _ _) rfl ⟨rfl, HKA.out⟩
  have hv0 : hv = false := by assumption
  subst hv0
  have hss : ∀ s ∈ ss, s.size ≤ 6000 := HS.out rfl
  have HSS := Lib.hid hss
  clear hss HS
  generalize hpb : w.heap.size = pb at HHA ⊢
  clear hpb
  go_loopw [3] (fun v wr => ∃ i : Nat, i ≤ n0 ∧ i ≤ 4 ∧ v = .int .i64 i ∧ Kept (fun _ => False) w1 wr) (fun v _ => n0 - (intOf v).toNat)
  case atStart => exact ⟨0, Nat.zero_le _, Nat.zero_le _, rfl, Kept.refl _ _⟩
  case round =>
    obtain ⟨i, hi, hi4, rfl, hki⟩ := hrel
    obtain ⟨wi, hwi⟩ : ∃ wi, wi = wr := ⟨_, rfl⟩
    subst hwi
    have HKi := Lib.hid (HKA.out.trans hki)
    have HHi := Lib.hid (HHA.out.kept hki)
    have HKW := Lib.hid hki
    clear hki
    have p0 : wi.cell? ⟨pb, 0, none⟩ = some (.slice A n0 c0) := HHi.out.pb.c 0
    by_cases hgo : i < n0 ∧ i < 4
    · obtain ⟨g1, g2⟩ := hgo
      obtain ⟨ad, s, rfl, hs, hsc, _⟩ := HHi.out.ask.ss.cell g1
      have hsz : s.size ≤ 6000 := HSS.out s (List.mem_of_getElem? hs)
      have HSI := Lib.hid hs
      have b1 : decide (i < n0) = true := by simp; omega
      have b2 : decide (i < 4) = true := by simp; omega
      have b3 : decide ((i : Int) < 4) = true := by simp; omega
      have t1 : (0 : Int) ≤ (i : Int) := by omega
      have t2 : (i : Int) < (n0 : Int) := by omega
      clear hs
      cases hm : mayB s with
      | false =>
        have cC := pcells_no s false wi (by omega) HHi.out.tabs hm
        clear hm
        go_wp2_with (first | (go_at_call 27; refine cC.mono ?_; rintro e w3 ⟨hk3, rfl⟩; have HK3 := Lib.hid (HKW.out.trans hk3); clear hk3 cC p0 hsc) | (go_at_call 29; refine (num_any _ _).mono ?_; rintro e w' ⟨rfl, hw⟩; have hw2 := hw.symm; clear hw; subst hw2))
        go_roundw
        case rel => exact ⟨i + 1, by omega, by omega, by go_num, HK3.out⟩
        case measure => simp [intOf] <;> omega
      | true =>
        have cC := pcells_yes s false wi HHi.out.tabs hm
        have hl := rs_len s
        have hszm := mayB_size hm
        have HMAY := Lib.hid hm
        obtain ⟨t, ht⟩ : ∃ t, rs s = t := ⟨_, rfl⟩
        rw [ht] at cC hl
        have HT := Lib.hid ht
        have hlm := Rw.cel_len t (t.length + 1)
        obtain ⟨m, hmm⟩ := Rw.cel_pos t t.length
        have HM := Lib.hid hmm
        rw [hmm] at cC hlm
        clear hm ht hmm
        go_wp2_with (first | (go_at_call 27; refine cC.mono ?_; rintro e w3 ⟨hk3, v1, v2, B, rfl, hB1, hB2, hO1, hO2, hap⟩; obtain ⟨B1, d1, rfl, hM1, _, _⟩ := owned_nums hO1 (by unfold ats; rw [List.length_map]; exact HM.out); obtain ⟨B2, d2, rfl, hM2, _, _⟩ := owned_nums hO2 (by unfold kls; rw [List.length_map]; exact HM.out); have HK3 := Lib.hid (HKW.out.trans hk3); have HH3 := Lib.hid (HHi.out.kept hk3); have HN := Lib.hid hM1; clear hk3 cC p0 hsc hO1 hO2 hap hM1 hM2))
        refine (num_any _ _).mono ?_
        rintro e w' ⟨rfl, hw⟩
        have hw2 := hw.symm
        clear hw
        subst hw2
        by_cases h300 : 300 < s.size
        · have b4 : decide (300 < s.size) = true := decide_eq_true h300
          have b5 : decide ((300 : Int) < (s.size : Int)) = true := decide_eq_true (by omega)
          go_wp2_with fail
          go_roundw
          case rel => exact ⟨i + 1, by omega, by omega, by go_num, HK3.out⟩
          case measure => simp [intOf] <;> omega
        have b4 : decide (300 < s.size) = false := decide_eq_false h300
        have b5 : decide ((300 : Int) < (s.size : Int)) = false := decide_eq_false (by omega)
        have d0 : ((m : Int) + 1 == 0) = false := by rw [beq_eq_false_iff_ne]; omega
        obtain ⟨ad1, rfl, _, f0⟩ := ats_cell HN.out (Rw.cel_zero t t.length)
        have f0' : w3.cell? ad1 = some (.int .i64 0) := by simpa [Addr.add] using f0
        go_wp2_with fail
        clear b4 b5 f0
        obtain ⟨L, hL⟩ : ∃ L, Rw.lst t = L := ⟨_, rfl⟩
        have HLT := Lib.hid hL
        clear hL
        go_loopw [8, 9] (fun v u wr => ∃ h n idx : Nat, v = .int .i64 h ∧ u = .int .i64 n ∧ (Rw.cel t (t.length + 1))[idx]? = some h ∧ n ≤ idx ∧ Kept (fun _ => False) w3 wr) (fun _ u _ => m + 1 - (intOf u).toNat)
        case atStart => exact ⟨0, 0, 0, rfl, rfl, Rw.cel_zero t t.length, Nat.le_refl _, Kept.refl _ _⟩
        case round =>
          obtain ⟨h, n, idx, rfl, rfl, hidx, hnx, hkh⟩ := hrel
          obtain ⟨wh, hwh⟩ : ∃ wh, wh = wr := ⟨_, rfl⟩
          subst hwh
          have HKH := Lib.hid hkh
          have HHh := Lib.hid (HH3.out.kept hkh)
          have hil : idx < m + 1 := by have := (List.getElem?_eq_some_iff.1 hidx).1; rw [HM.out] at this; exact this
          have hht : h < t.length + 1 := Rw.cel_lt_n hidx
          have hhl : h ≤ L := by rw [← HLT.out]; exact Rw.cel_le_lst (List.mem_of_getElem? hidx)
          have HIDX := Lib.hid hidx
          have hlat : Hid (∃ ml, (Rw.cel t (t.length + 1))[m]? = some ml ∧ ml = L) := ⟨_, Rw.lst_at t m HM.out, HLT.out⟩
          have f0 := cell_kept hkh f0' id
          have b1 : decide (n ≤ m + 1) = true := decide_eq_true (by omega)
          have b2 : decide ((n : Int) ≤ (m : Int) + 1) = true := decide_eq_true (by omega)
          clear hkh hidx
          have cW := wmove_yes s h 1 119 wh HHh.out.tabs HMAY.out (by rw [HT.out]; omega) (by decide) (by decide) (.inl rfl)
          rw [HT.out, Rw.w_step] at cW
          by_cases hhL : h = L
          · subst hhL
            rw [HLT.out.symm, Rw.nx_lst, if_pos rfl, HLT.out] at cW
            have cW2 : Calls Tryd.prog 33 #[.string s, .int .i64 h, .int .i64 119, .int .i64 1] wh fun e w' => Kept (fun _ => False) wh w' ∧ e = .returned (.tuple #[.int .i64 0, .int .i64 6]) := cW
            clear cW
            have fL : wh.cell? (ad1.add m) = some (.int .i64 (h : Int)) := by
              obtain ⟨ml, hml, e⟩ := hlat.out
              rw [e] at hml
              obtain ⟨ad2, e2, _, hc2⟩ := ats_cell HN.out hml
              injection e2 with e2
              subst e2
              exact cell_kept HKH.out hc2 id
            go_wp2_with (first | (go_at_call 33; refine cW2.mono ?_; rintro e w5 ⟨hk5, rfl⟩; have HK5 := Lib.hid (HKH.out.trans hk5); have fL5 := cell_kept hk5 fL id; clear hk5 cW2 f0 fL) | (go_at_call 29; refine (num_any _ _).mono ?_; rintro e w' ⟨rfl, hw⟩; have hw2 := hw.symm; clear hw; subst hw2))
            go_roundw
            case rel => exact ⟨i + 1, by omega, by omega, by go_num, HK3.out.trans HK5.out⟩
            case measure => simp [intOf] <;> omega
          · have hlt : h < L := by omega
            have hgt : h < Rw.nx (Rw.stp t false false) (Rw.lst t) h := Rw.nx_gt t h (by rw [HLT.out]; exact hlt)
            have hmem := Rw.nx_mem t h
            generalize Rw.nx (Rw.stp t false false) (Rw.lst t) h = y at *
            obtain ⟨idy, hidy⟩ := List.mem_iff_getElem?.1 hmem
            have hyt : y < t.length + 1 := Rw.cel_lt_n hidy
            have hid2 : idx < idy := by
              rcases Nat.lt_trichotomy idx idy with h1 | h1 | h1
              · exact h1
              · subst h1; rw [HIDX.out] at hidy; injection hidy with hidy; omega
              · have := Rw.cel_lt hidy HIDX.out h1; omega
            have HIDY := Lib.hid hidy
            rw [if_neg (by omega)] at cW
            have cW2 : Calls Tryd.prog 33 #[.string s, .int .i64 h, .int .i64 119, .int .i64 1] wh fun e w' => Kept (fun _ => False) wh w' ∧ e = .returned (.tuple #[.int .i64 y, .int .i64 0]) := cW
            have cB := fun W (hW : Tabs W) => wmove_yes s y 1 98 W hW HMAY.out (by rw [HT.out]; omega) (by decide) (by decide) (.inr (.inl rfl))
            rw [HT.out, Rw.b_step] at cB
            have hpv := Rw.pv_lt t y (by omega)
            generalize Rw.pv (Rw.stp t false false) y = z at *
            rw [if_neg (by omega)] at cB
            have cB2 : ∀ W, Tabs W → Calls Tryd.prog 33 #[.string s, .int .i64 y, .int .i64 98, .int .i64 1] W fun e w' => Kept (fun _ => False) W w' ∧ e = .returned (.tuple #[.int .i64 z, .int .i64 0]) := cB
            clear cW cB hmem hidy
            have d1 : decide ((y : Int) ≤ (h : Int)) = false := decide_eq_false (by omega)
            have d2 : decide (y ≤ h) = false := decide_eq_false (by omega)
            have d3 : decide ((z : Int) < 0) = false := decide_eq_false (by omega)
            have d4 : decide ((y : Int) ≤ (z : Int)) = false := decide_eq_false (by omega)
            have d5 : decide (y ≤ z) = false := decide_eq_false (by omega)
            go_wp2_with fail
            refine cW2.mono ?_
            rintro e w5 ⟨hk5, rfl⟩
            have HK5 := Lib.hid (HKH.out.trans hk5)
            have HH5 := Lib.hid (HHh.out.kept hk5)
            have f5 := cell_kept hk5 f0 id
            clear hk5 cW2 f0
            go_wp2_with (go_at_call 29; refine (num_any _ _).mono ?_; rintro e w' ⟨rfl, hw⟩; have hw2 := hw.symm; clear hw; subst hw2)
            refine (cB2 w5 HH5.out.tabs).mono ?_
            rintro e w6 ⟨hk6, rfl⟩
            have HK6 := Lib.hid (HK5.out.trans hk6)
            have f6 := cell_kept hk6 f5 id
            clear hk6 cB2 f5
            go_wp2_with (go_at_call 29; refine (num_any _ _).mono ?_; rintro e w' ⟨rfl, hw⟩; have hw2 := hw.symm; clear hw; subst hw2)
            go_roundw
            case rel => exact ⟨y, n + 1, idy, rfl, by go_num, HIDY.out, by omega, HK6.out⟩
            case measure => simp [intOf] <;> omega
    · have hlast : (i = n0 ∧ i < 4) ∨ (i < n0 ∧ i = 4) ∨ (i = n0 ∧ i = 4) := by omega
      have cW := wakes_any wi HHi.out.tabs
      rcases hlast with ⟨h1, h2⟩ | ⟨h1, h2⟩ | ⟨h1, h2⟩
      case' inl | inr.inr => have b1 : decide (i < n0) = false := by simp; omega
      case' inr.inl =>
        have b1 : decide (i < n0) = true := by simp; omega
        have b2 : decide (i < 4) = false := by simp; omega
        have b3 : decide ((i : Int) < 4) = false := by simp; omega
      all_goals
        clear h1 h2
        go_wp2_with (go_at_call 32; refine cW.mono ?_; rintro e w9 ⟨rfl, hk9⟩)
        go_ret
        exact ⟨rfl, HKi.out.trans hk9⟩
end Go.Proofs.YtclmcieegoobkaaDoor
