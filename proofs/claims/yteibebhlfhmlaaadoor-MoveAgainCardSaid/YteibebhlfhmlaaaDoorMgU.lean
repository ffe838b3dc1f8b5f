/-
  THE LAW MoveAgain: ; goes on as the search did, and , goes the other way.
-/
import Derived.Test.YteibebhlfhmlaaaDoorMgUa
set_option linter.unusedVariables false
namespace Go.Proofs.YteibebhlfhmlaaaDoor
open Go Go.RowKit

theorem cmd_kept {W W' : World} {g : Nat} {c0 c1 c2 c3 c4 c5 : Int} (h : W.heap[g]? = some (cmdO c0 c1 c2 c3 c4 c5)) (hk : Kept (fun _ => False) W W') : W'.heap[g]? = some (cmdO c0 c1 c2 c3 c4 c5) :=
  (hk.block _ (heap_lt h) id).trans h
set_option maxRecDepth 100000 in
set_option maxHeartbeats 8000000 in
theorem moveAgain_any (p : AskM) (w : World) (hp : AskMOk w p) (hT : Tabs w) :
    Calls Tryd.prog 4 #[.agg p.cells] w fun e w' => e = .returned (.bool true) ∧ Kept (fun _ => False) w w' := by
  have hK0 : Hid (Kept (fun _ => False) w (w.alloc (.cells p.cells 34))) := (Kept.refl _ w).alloc _
  have hH0 : Hid (HeldM (w.alloc (.cells p.cells 34)) w.heap.size p) := ⟨heap_alloc_new w _, hp.kept hK0.out⟩
  have HT0 := Lib.hid (hT.kept hK0.out id id)
  have cH := heavy16_any p (w.alloc (.cells p.cells 34)) hH0.out.ask
  clear hp hT
  obtain ⟨⟨A, n0, c0, ss, xa, xb, xr, xc, xk, xn, xq⟩, B, bn, bc, cmds, k1, k2, M, mn, mc, marks⟩ := p
  unfold AskM.cells at *
  simp only at *
  go_enter Tryd.func4, Tryd.ntmps4
  go_wp2_with (go_at_call 5; refine cH.mono ?_; rintro e w1 ⟨⟨hv, rfl, hsm⟩, hk1⟩; have HS := Lib.hid hsm; have HK1 := Lib.hid (hK0.out.trans hk1); have HH := Lib.hid (hH0.out.kept hk1); have HT1 := Lib.hid (HT0.out.kept hk1 id id); clear hsm hk1 hH0 hK0 cH HT0)
  · exact bodyPost_ret (results_tmp rfl _ _ _) rfl ⟨rfl, HK1.out⟩
  have hv0 : hv = false := by assumption
  subst hv0
  have hss : (∀ s ∈ ss, s.size ≤ 6000) ∧ bn + mn ≤ 200 := HS.out rfl
  have HSS := Lib.hid hss.1
  clear HS hss
  generalize hpb : w.heap.size = pb at HH ⊢
  clear hpb
  go_loopw [3] (fun v wr => ∃ i : Nat, i ≤ n0 ∧ i ≤ 3 ∧ v = .int .i64 i ∧ Kept (fun _ => False) w1 wr) (fun v _ => n0 - (intOf v).toNat)
  case atStart => exact ⟨0, Nat.zero_le _, Nat.zero_le _, rfl, Kept.refl _ _⟩
  case round =>
    obtain ⟨i, hi, hi4, rfl, hki⟩ := hrel
    obtain ⟨wi, hwi⟩ : ∃ wi, wi = wr := ⟨_, rfl⟩
    subst hwi
    have HKW := Lib.hid hki
    clear hki
    have p0 : wi.cell? ⟨pb, 0, none⟩ = some (.slice A n0 c0) := (HH.out.kept HKW.out).pb.c 0
    by_cases hgo : i < n0 ∧ i < 3
    · obtain ⟨g1, g2⟩ := hgo
      obtain ⟨ad, s, rfl, hs, hsc, _⟩ := (HH.out.kept HKW.out).ask.w.ss.cell g1
      have hsz : s.size ≤ 6000 := HSS.out s (List.mem_of_getElem? hs)
      have hl := rs_len s
      clear hs
      obtain ⟨cap, w2, hcap, hcv, hk2, hlt2, hR⟩ := conv_rs s wi (by omega)
      generalize ht : rs s = t at *
      have HT2 := Lib.hid ht
      have HKW2 := Lib.hid (HKW.out.trans hk2)
      have HR := Lib.hid hR
      have HTB2 := Lib.hid (HT1.out.kept HKW2.out id id)
      clear hk2 hR ht hcap hlt2
      generalize hrb : wi.heap.size = rb at HR hcv
      clear hrb
      have b1 : decide (i < n0) = true := by simp; omega
      have b2 : decide (i < 3) = true := by simp; omega
      have b3 : decide ((i : Int) < 3) = true := by simp; omega
      have cMay := rmay_any s w2 (by omega) HTB2.out
      cases hm : mayB s with
      | false =>
        rw [hm] at cMay
        clear hm
        go_wp2_with (go_at_call 9; refine cMay.mono ?_; rintro e w3 ⟨rfl, hk3⟩)
        go_roundw
        case rel => exact ⟨i + 1, by omega, by omega, by go_num, HKW2.out.trans hk3⟩
        case measure => simp [intOf]; omega
      | true =>
        rw [hm] at cMay
        have HM := Lib.hid hm
        clear hm
        by_cases h300 : t.length ≤ 300
        case neg =>
          have d1 : decide ((300 : Int) < (t.length : Int)) = true := by simp; omega
          have d2 : decide (300 < t.length) = true := by simp; omega
          go_wp2_with (go_at_call 9; refine cMay.mono ?_; rintro e w3 ⟨rfl, hk3⟩)
          go_roundw
          case rel => exact ⟨i + 1, by omega, by omega, by go_num, HKW2.out.trans hk3⟩
          case measure => simp [intOf]; omega
        case pos =>
          have d1 : decide ((300 : Int) < (t.length : Int)) = false := by simp; omega
          have d2 : decide (300 < t.length) = false := by simp; omega
          go_wp2_with (go_at_call 9; refine cMay.mono ?_; rintro e w3 ⟨rfl, hk3⟩; have HKW3 := Lib.hid (HKW2.out.trans hk3); have HR3 := Lib.hid (HR.out.kept hk3 (fun _ _ => id)); have HT3 := Lib.hid (HTB2.out.kept hk3 id id); clear hk3 cMay HKW2 HR HTB2 hcv p0 hsc)
          clear b1 b2 b3 d1 d2
          go_loopw [6] (fun v wr => ∃ k : Nat, k ≤ t.length ∧ v = .int .i64 k ∧ Kept (fun _ => False) w3 wr) (fun v _ => t.length - (intOf v).toNat)
          case atStart => exact ⟨0, Nat.zero_le _, rfl, Kept.refl _ _⟩
          case round =>
            obtain ⟨k, hk, rfl, hkk⟩ := hrel
            obtain ⟨wk, hwk⟩ : ∃ wk, wk = wr := ⟨_, rfl⟩
            subst hwk
            have HKV := Lib.hid hkk
            clear hkk
            by_cases hkl : k < t.length
            case neg =>
              have b1 : decide (k < t.length) = false := by simp; omega
              go_wp2_with fail
              go_roundw
              case rel => exact ⟨i + 1, by omega, by omega, by go_num, HKW3.out.trans HKV.out⟩
              case measure => simp [intOf]; omega
            case pos =>
              have b1 : decide (k < t.length) = true := by simp; omega
              have HTk := Lib.hid (HT3.out.kept HKV.out id id)
              have hHL : Hid (k ≤ (rs s).length) := by show _ ≤ _; rw [HT2.out]; omega
              obtain ⟨u, hu⟩ : ∃ u, (k + 1) % t.length = u := ⟨_, rfl⟩
              have hul : u < t.length := by rw [← hu]; exact Nat.mod_lt _ (by omega)
              have hum : ((k : Int) + 1).tmod (t.length : Int) = (u : Int) := by
                rw [Int.tmod_eq_emod_of_nonneg (by omega), ← hu]
                rfl
              have hne : t ≠ [] := by intro e; rw [e] at hkl; simp at hkl
              obtain ⟨r, hr⟩ : ∃ r, t[u]? = some r := ⟨_, List.getElem?_eq_getElem hul⟩
              have hrr : -2147483648 ≤ r ∧ r ≤ 2147483647 := Sk.rs_i32 (s := s) (by rw [HT2.out]; exact List.mem_of_getElem? hr)
              have hrw : IntKind.i64.wrap r = r := wrapI rfl (by omega) (by omega)
              have hkw : IntKind.i64.wrap ((k : Int) + 1) = (k : Int) + 1 := wrapI rfl (by omega) (by omega)
              have hrc : wk.cell? ⟨rb, u, none⟩ = some (.int .i32 r) := (HR3.out.kept HKV.out (fun _ _ => id)).at_ hr
              have hrc1 : wk.drew.cell? ⟨rb, u, none⟩ = some (.int .i32 r) := hrc
              have hrc2 : (wk.alloc (.cells #[.int .i64 102, .int .i64 70, .int .i64 116, .int .i64 84] 3)).drew.cell? ⟨rb, u, none⟩ = some (.int .i32 r) := cell_kept ((Kept.refl (fun _ => False) wk).alloc _).drew hrc id
              have hrc3 : (wk.alloc (cmdO 0 0 0 0 0 0)).drew.cell? ⟨rb, u, none⟩ = some (.int .i32 r) := cell_kept ((Kept.refl (fun _ => False) wk).alloc _).drew hrc id
              have hrc4 : ((wk.alloc (cmdO 0 0 0 0 0 0)).alloc (.cells #[.int .i64 102, .int .i64 70, .int .i64 116, .int .i64 84] 3)).drew.cell? ⟨rb, u, none⟩ = some (.int .i32 r) := cell_kept (((Kept.refl (fun _ => False) wk).alloc _).alloc _).drew hrc id
              have hrc5 : ((wk.alloc (.cells #[.int .i64 102, .int .i64 70, .int .i64 116, .int .i64 84] 3)).alloc (cmdO 0 0 0 0 0 0)).drew.cell? ⟨rb, u, none⟩ = some (.int .i32 r) := cell_kept (((Kept.refl (fun _ => False) wk).alloc _).alloc _).drew hrc id
              have t1 : (0 : Int) ≤ (u : Int) := by omega
              have t2 : (u : Int) < (t.length : Int) := by omega
              go_upto_region 12 with fail
              clear b1
              go_cut [7] from 61 to 75 (fun v wx => ∃ (g : Nat) (K : Int), v = .pointer (some ⟨g, 0, none⟩) ∧ Rw.Seek K ∧ wk.heap.size ≤ g ∧ wx.heap[g]? = some (cmdO 0 0 0 K 0 r) ∧ Kept (fun _ => False) wk wx)
              case first =>
                have hc4 : k % 4 = 0 ∨ k % 4 = 1 ∨ k % 4 = 2 ∨ k % 4 = 3 := by omega
                clear hu hr hrr
                rcases hc4 with hc4 | hc4 | hc4 | hc4
                · have hq : ((k : Int)).tmod 4 = 0 := by rw [Int.tmod_eq_emod_of_nonneg (by omega)]; omega
                  clear hc4
                  go_region
                  all_goals
                    go_wp2_with fail
                    go_meet
                    first
                      | exact ⟨_, 102, rfl, by decide, by omega, new_second wk (.cells #[.int .i64 102, .int .i64 70, .int .i64 116, .int .i64 84] 3) (cmdO 0 0 0 102 0 r), (((Kept.refl (fun _ => False) wk).alloc _).alloc _).drew⟩
                      | exact ⟨_, 102, rfl, by decide, by omega, (((Kept.refl (fun _ => False) (wk.alloc (cmdO 0 0 0 102 0 r))).alloc _).drew.block _ (heap_lt (heap_alloc_new wk _)) id).trans (heap_alloc_new wk _), (((Kept.refl (fun _ => False) wk).alloc _).alloc _).drew⟩
                · have hq : ((k : Int)).tmod 4 = 1 := by rw [Int.tmod_eq_emod_of_nonneg (by omega)]; omega
                  clear hc4
                  go_region
                  all_goals
                    go_wp2_with fail
                    go_meet
                    first
                      | exact ⟨_, 70, rfl, by decide, by omega, new_second wk (.cells #[.int .i64 102, .int .i64 70, .int .i64 116, .int .i64 84] 3) (cmdO 0 0 0 70 0 r), (((Kept.refl (fun _ => False) wk).alloc _).alloc _).drew⟩
                      | exact ⟨_, 70, rfl, by decide, by omega, (((Kept.refl (fun _ => False) (wk.alloc (cmdO 0 0 0 70 0 r))).alloc _).drew.block _ (heap_lt (heap_alloc_new wk _)) id).trans (heap_alloc_new wk _), (((Kept.refl (fun _ => False) wk).alloc _).alloc _).drew⟩
                · have hq : ((k : Int)).tmod 4 = 2 := by rw [Int.tmod_eq_emod_of_nonneg (by omega)]; omega
                  clear hc4
                  go_region
                  all_goals
                    go_wp2_with fail
                    go_meet
                    first
                      | exact ⟨_, 116, rfl, by decide, by omega, new_second wk (.cells #[.int .i64 102, .int .i64 70, .int .i64 116, .int .i64 84] 3) (cmdO 0 0 0 116 0 r), (((Kept.refl (fun _ => False) wk).alloc _).alloc _).drew⟩
                      | exact ⟨_, 116, rfl, by decide, by omega, (((Kept.refl (fun _ => False) (wk.alloc (cmdO 0 0 0 116 0 r))).alloc _).drew.block _ (heap_lt (heap_alloc_new wk _)) id).trans (heap_alloc_new wk _), (((Kept.refl (fun _ => False) wk).alloc _).alloc _).drew⟩
                · have hq : ((k : Int)).tmod 4 = 3 := by rw [Int.tmod_eq_emod_of_nonneg (by omega)]; omega
                  clear hc4
                  go_region
                  all_goals
                    go_wp2_with fail
                    go_meet
                    first
                      | exact ⟨_, 84, rfl, by decide, by omega, new_second wk (.cells #[.int .i64 102, .int .i64 70, .int .i64 116, .int .i64 84] 3) (cmdO 0 0 0 84 0 r), (((Kept.refl (fun _ => False) wk).alloc _).alloc _).drew⟩
                      | exact ⟨_, 84, rfl, by decide, by omega, (((Kept.refl (fun _ => False) (wk.alloc (cmdO 0 0 0 84 0 r))).alloc _).drew.block _ (heap_lt (heap_alloc_new wk _)) id).trans (heap_alloc_new wk _), (((Kept.refl (fun _ => False) wk).alloc _).alloc _).drew⟩
              case rest =>
                obtain ⟨g, K, rfl, hK, hg, hgb, hk9⟩ := hcut
                clear hrc hrc1 hrc2 hrc3 hrc4 hrc5 t1 t2 hrw hkw hum hne hu hul hr hrr
                have HSK := Lib.hid hK
                have HST := Lib.hid (Rw.turn_seek K)
                have HG := Lib.hid hg
                have HC0 := Lib.hid hgb
                have HQ0 := Lib.hid hk9
                obtain ⟨a0, a1, a2, a3, a4, a5, a6⟩ := cmd_facts hgb
                have cG1 := pgo_bare s k K r 0 0 wc (HTk.out.kept hk9 id id) HM.out hHL.out (.inl rfl) (kin_seek hK)
                rw [HT2.out, goM_seek hK] at cG1
                have cT := fun W => rturned_yes hK W
                clear hK hg hgb hk9
                cases hO : Rw.find t k K r 1 with
                | none =>
                  rw [hO] at cG1
                  unfold goV tgt at cG1
                  simp only [Option.map_none] at cG1
                  clear hO cT
                  go_wp2_with (first | (go_at_call 10; refine cG1.mono ?_; rintro e w5 ⟨rfl, hk5⟩; have HQ5 := Lib.hid (((HQ0.out.trans hk5).alloc (tgtO 0 0)).alloc (sekO 0 0)); clear hk5 cG1 a0 a1 a2 a3 a4 a5 a6) | (go_at_call 11; refine (num16_any _ _).mono ?_; rintro e w' ⟨rfl, hw⟩; have hw2 := hw.symm; subst hw2))
                  go_roundw
                  case rel => exact ⟨k + 1, by omega, by go_num, HKV.out.trans HQ5.out⟩
                  case measure => simp [intOf]; omega
                | some a =>
                  obtain ⟨κ, hκ⟩ : ∃ κ, kon K = κ := ⟨_, rfl⟩
                  rw [hO, hκ] at cG1
                  have cG2 := fun W (h : Kept (fun _ => False) wk W) => pgo_bare s k 59 5 K r W (HTk.out.kept h id id) HM.out hHL.out (.inr HSK.out) (by decide)
                  have cG3 := fun W (h : Kept (fun _ => False) wk W) => pgo_bare s k K r 102 113 W (HTk.out.kept h id id) HM.out hHL.out (.inr (.inl rfl)) (kin_seek HSK.out)
                  have cG4 := fun W (h : Kept (fun _ => False) wk W) => pgo_bare s k 44 0 K r W (HTk.out.kept h id id) HM.out hHL.out (.inr HSK.out) (by decide)
                  have cG5 := fun W (h : Kept (fun _ => False) wk W) => pgo_bare s k (Rw.turn K) r 0 0 W (HTk.out.kept h id id) HM.out hHL.out (.inl rfl) (kin_seek HST.out)
                  obtain ⟨A4, B4, C4, D4, C5, D5, E4, hv4, hv5⟩ := goV_two (Rw.find t k (Rw.turn K) r 1) (kon (Rw.turn K)) K r (Rw.turn K) r
                  simp only [HT2.out, goM_semi HSK.out, hO, hκ] at cG2
                  simp only [HT2.out, goM_seek HSK.out, hO, hκ] at cG3
                  simp only [HT2.out, goM_comma HSK.out, hv4] at cG4
                  simp only [HT2.out, goM_seek HST.out, hv5] at cG5
                  unfold goV tgt at cG1 cG2 cG3
                  unfold tgt at cG4 cG5
                  simp only [Option.map_some] at cG1 cG2 cG3
                  have hE : (E4 != E4) = false := by simp
                  clear hO hκ hv4 hv5
                  go_wp2_with (go_at_call 11; refine (num16_any _ _).mono ?_; rintro e w' ⟨rfl, hw⟩; have hw2 := hw.symm; subst hw2)
                  refine cG1.mono ?_
                  rintro e w1' ⟨rfl, hk1⟩
                  have HQ1 := Lib.hid (((HQ0.out.trans hk1).alloc (tgtO a κ)).alloc (sekO K r))
                  have HC1 := Lib.hid (cmd_kept HC0.out ((hk1.alloc (tgtO a κ)).alloc (sekO K r)))
                  have HX1 := Lib.hid (tx_new w1' a κ K r).2
                  obtain ⟨x0, x1, _, _⟩ := two_facts HX1.out
                  clear hk1 cG1 a0 a1 a2 a3 a4 a5 a6
                  go_wp2_with (go_at_call 11; refine (num16_any _ _).mono ?_; rintro e w' ⟨rfl, hw⟩; have hw2 := hw.symm; subst hw2)
                  refine (cG2 _ HQ1.out).mono ?_
                  rintro e w2' ⟨rfl, hk2⟩
                  have hk2' := (hk2.alloc (tgtO a κ)).alloc (sekO K r)
                  have HQ2 := Lib.hid (HQ1.out.trans hk2')
                  have HC2 := Lib.hid (cmd_kept HC1.out hk2')
                  have HX2 := Lib.hid ((hk2'.block _ (heap_lt HX1.out) id).trans HX1.out)
                  have HT11 := Lib.hid (tx_new w2' a κ K r).1
                  have HX12 := Lib.hid (tx_new w2' a κ K r).2
                  obtain ⟨a0, a1, a2, a3, a4, a5, a6⟩ := cmd_facts HC2.out
                  clear hk2 hk2' cG2 x0 x1
                  go_wp2_with (go_at_call 11; refine (num16_any _ _).mono ?_; rintro e w' ⟨rfl, hw⟩; have hw2 := hw.symm; subst hw2)
                  refine (cG3 _ HQ2.out).mono ?_
                  rintro e w3' ⟨rfl, hk2⟩
                  have hk2' := (hk2.alloc (tgtO a κ)).alloc (sekO K r)
                  have HQ3 := Lib.hid (HQ2.out.trans hk2')
                  have HC3 := Lib.hid (cmd_kept HC2.out hk2')
                  have HX3 := Lib.hid ((hk2'.block _ (heap_lt HX2.out) id).trans HX2.out)
                  have HT11 := Lib.hid ((hk2'.block _ (heap_lt HT11.out) id).trans HT11.out)
                  have HX12 := Lib.hid ((hk2'.block _ (heap_lt HX12.out) id).trans HX12.out)
                  have HT14 := Lib.hid (tx_new w3' a κ K r).1
                  obtain ⟨x0, x1, _, _⟩ := two_facts HX3.out
                  clear hk2 hk2' cG3 a0 a1 a2 a3 a4 a5 a6
                  go_wp2_with (go_at_call 11; refine (num16_any _ _).mono ?_; rintro e w' ⟨rfl, hw⟩; have hw2 := hw.symm; subst hw2)
                  refine (cG4 _ HQ3.out).mono ?_
                  rintro e w4' ⟨rfl, hk2⟩
                  have hk2' := (hk2.alloc (tgtO A4 B4)).alloc (sekO C4 D4)
                  have HQ4 := Lib.hid (HQ3.out.trans hk2')
                  have HC4 := Lib.hid (cmd_kept HC3.out hk2')
                  have HX4 := Lib.hid ((hk2'.block _ (heap_lt HX3.out) id).trans HX3.out)
                  have HT11 := Lib.hid ((hk2'.block _ (heap_lt HT11.out) id).trans HT11.out)
                  have HX12 := Lib.hid ((hk2'.block _ (heap_lt HX12.out) id).trans HX12.out)
                  have HT14 := Lib.hid ((hk2'.block _ (heap_lt HT14.out) id).trans HT14.out)
                  have HT17 := Lib.hid (tx_new w4' A4 B4 C4 D4).1
                  obtain ⟨a0, a1, a2, a3, a4, a5, a6⟩ := cmd_facts HC4.out
                  have HN1 : Hid (¬ (w1'.heap.size + 1) = g) := fun e => by have h1 := HC4.out; rw [← e, HX4.out] at h1; cases h1
                  have HN2 : Hid (¬ w2'.heap.size = g) := fun e => by have h1 := HC4.out; rw [← e, HT11.out] at h1; cases h1
                  have HN3 : Hid (¬ (w2'.heap.size + 1) = g) := fun e => by have h1 := HC4.out; rw [← e, HX12.out] at h1; cases h1
                  have HN4 : Hid (¬ w3'.heap.size = g) := fun e => by have h1 := HC4.out; rw [← e, HT14.out] at h1; cases h1
                  have HN5 : Hid (¬ w4'.heap.size = g) := fun e => by have h1 := HC4.out; rw [← e, HT17.out] at h1; cases h1
                  clear hk2 hk2' cG4 x0 x1
                  go_wp2_with (go_at_call 11; refine (num16_any _ _).mono ?_; rintro e w' ⟨rfl, hw⟩; have hw2 := hw.symm; subst hw2)
                  refine (cT _).mono ?_
                  rintro e w' ⟨rfl, hw⟩
                  have hw2 := hw.symm
                  subst hw2
                  have HC5 := Lib.hid (cmd_set HC4.out (Rw.turn K))
                  have HX5 := Lib.hid ((heap_far HN1.out (.int .i64 (Rw.turn K)) (i := 3)).trans HX4.out)
                  have HT11 := Lib.hid ((heap_far HN2.out (.int .i64 (Rw.turn K)) (i := 3)).trans HT11.out)
                  have HX12 := Lib.hid ((heap_far HN3.out (.int .i64 (Rw.turn K)) (i := 3)).trans HX12.out)
                  have HT14 := Lib.hid ((heap_far HN4.out (.int .i64 (Rw.turn K)) (i := 3)).trans HT14.out)
                  have HT17 := Lib.hid ((heap_far HN5.out (.int .i64 (Rw.turn K)) (i := 3)).trans HT17.out)
                  have HQ5 := Lib.hid (HQ4.out.fresh ((Kept.refl (fun q => q = g) _).setCell (p := ⟨g, 3, none⟩) rfl (.int .i64 (Rw.turn K))) (fun q hq (e : q = g) => by have := HG.out; omega))
                  obtain ⟨s0, s1, s2, s3, s4, s5, s6⟩ := cmd_facts HC5.out
                  clear hw cT
                  go_wp2_with (go_at_call 11; refine (num16_any _ _).mono ?_; rintro e w' ⟨rfl, hw⟩; have hw2 := hw.symm; subst hw2)
                  refine (cG5 _ HQ5.out).mono ?_
                  rintro e w5' ⟨rfl, hk2⟩
                  have hk2' := (hk2.alloc (tgtO A4 B4)).alloc (sekO C5 D5)
                  have HQ6 := Lib.hid (HQ5.out.trans hk2')
                  obtain ⟨y0, y1, _, _⟩ := two_facts ((hk2'.block _ (heap_lt HX5.out) id).trans HX5.out)
                  obtain ⟨y2, y3, _, _⟩ := two_facts ((hk2'.block _ (heap_lt HT11.out) id).trans HT11.out)
                  obtain ⟨y4, y5, _, _⟩ := two_facts ((hk2'.block _ (heap_lt HX12.out) id).trans HX12.out)
                  obtain ⟨y6, y7, _, _⟩ := two_facts ((hk2'.block _ (heap_lt HT14.out) id).trans HT14.out)
                  obtain ⟨y8, y9, _, _⟩ := two_facts ((hk2'.block _ (heap_lt HT17.out) id).trans HT17.out)
                  obtain ⟨z0, z1, _, _⟩ := two_facts (tx_new w5' A4 B4 C5 D5).1
                  clear hk2 hk2' cG5 a0 a1 a2 a3 a4 a5 a6 s0 s1 s2 s3 s4 s5 s6
                  go_wp2_with (go_at_call 11; refine (num16_any _ _).mono ?_; rintro e w' ⟨rfl, hw⟩; have hw2 := hw.symm; subst hw2)
                  go_roundw
                  case rel => exact ⟨k + 1, by omega, by go_num, HKV.out.trans HQ6.out⟩
                  case measure => simp [intOf]; omega
          
    · have hlast : (i = n0 ∧ i < 3) ∨ (i < n0 ∧ i = 3) ∨ (i = n0 ∧ i = 3) := by omega
      have cW := wakes16_any wi (HT1.out.kept HKW.out id id)
      rcases hlast with ⟨h1, h2⟩ | ⟨h1, h2⟩ | ⟨h1, h2⟩
      case' inl | inr.inr => have b1 : decide (i < n0) = false := by simp; omega
      case' inr.inl =>
        have b1 : decide (i < n0) = true := by simp; omega
        have b2 : decide (i < 3) = false := by simp; omega
        have b3 : decide ((i : Int) < 3) = false := by simp; omega
      all_goals
        clear h1 h2
        go_wp2_with (go_at_call 8; refine cW.mono ?_; rintro e w9 ⟨rfl, hk9⟩)
        go_ret
        exact ⟨rfl, (HK1.out.trans HKW.out).trans hk9⟩
end Go.Proofs.YteibebhlfhmlaaaDoor
