/-
  COMMANDS OF SINGLE RUNES, THE PROGRAM's: J, joined and Of.
-/
import Derived.Test.YtkeojjojilfklaaDoorSmJ
set_option linter.unusedVariables false
namespace Go.Proofs.YtkeojjojilfklaaDoor
open Go Go.RowKit

set_option maxRecDepth 100000 in
set_option maxHeartbeats 2000000 in
theorem joined_any (s : ByteArray) (b cap k T : Nat) (w : World) (hT : Tabs w) (hm : mayB s = true) (hA : Rn w (some ⟨b, 0, none⟩) (rs s).length (rs s)) (hcap : (rs s).length ≤ cap) (hk : k ≤ (rs s).length) (hTm : T ≤ 1000) :
    Calls Tryd.prog 57 #[.string s, .slice (some ⟨b, 0, none⟩) (rs s).length cap, .int .i64 k, .int .i64 T] w fun e w' => (∃ (a d : Int) (p : ByteArray) (x : Int) (tk : ByteArray) (E : Int), e = .returned (chgT a d p x tk E) ∧ TakeJ s k T (chgT a d p x tk E)) ∧ Kept (fun _ => False) w w' := by
  have hka : Kept (fun _ => False) w (w.alloc zeroS) := (Kept.refl _ w).alloc _
  have HG0 : Hid ((w.alloc zeroS).heap[w.heap.size]? = some zeroS) := heap_alloc_new w _
  have HT0 := Lib.hid (hT.kept hka id id)
  have hl4 : (rs s).length ≤ 4000 := by have := rs_len s; have := mayB_size hm; omega
  have HR0 : Hid (Rn (w.alloc zeroS) (some ⟨b, 0, none⟩) (rs s).length (rs s)) := hA.kept hka (fun _ _ => id)
  have cR := row_any (some ⟨b, 0, none⟩) (rs s).length cap (rs s) k (w.alloc zeroS) HR0.out hk (by omega)
  have HJ0 : Hid (JnI (rs s) k (rs s)) := JnI.first hm hk
  have HE0 : Hid (jst (rs s) k 0 = some (rs s, Rw.en (rs s) k)) := rfl
  have HEL : Hid (Rw.en (rs s) k ≤ (rs s).length) := Rw.en_le _ _ hk
  have HMAY : Hid (∀ u, JnI (rs s) k u → mayB (runesBytes u) = true) := fun u h => h.may hm
  have HMD : Hid (∀ A n c u at' W, Tabs W → Rn W A n u → Vld u → n ≤ 100000 → Calls Tryd.prog 79 #[.string s, .slice A n c, .int .i64 at'] W fun e w' => (∃ (a d : Int) (p : ByteArray) (x : Int) (tk : ByteArray) (E : Int), e = .returned (chgT a d p x tk E) ∧ MadeV s u at' (chgT a d p x tk E)) ∧ Kept (fun _ => False) W w') := fun A n c u at' W h1 h2 h3 h4 => smade_any s A n c u at' W h1 hm h2 h3 h4
  have HPN : Hid (jst (rs s) k T = none → TakeJ s k T (chgT 0 0 ⟨#[]⟩ 0 ⟨#[]⟩ 6)) := fun h => ⟨fun _ => rfl, fun u e h' => (by rw [h] at h'; cases h')⟩
  have HPY : Hid (∀ u e v, jst (rs s) k T = some (u, e) → MadeV s u (Rw.rst u e : Nat) v → TakeJ s k T v) := fun u e v h hv => ⟨fun h' => (by rw [h] at h'; cases h'), fun u' e' h' => (by rw [h] at h'; injection h' with h'; injection h' with h1 h2; rw [← h1, ← h2]; exact hv)⟩
  generalize TakeJ s k T = P at *
  generalize MadeV s = Q at *
  generalize rs s = t at *
  have HKA := Lib.hid hka
  obtain ⟨g, hg⟩ : ∃ g, w.heap.size = g := ⟨_, rfl⟩
  have HGS := Lib.hid hg
  rw [hg] at HG0
  have HBL : Hid (Rw.beg t k ≤ k) := Rw.beg_le t k
  generalize hB : Rw.beg t k = B at *
  have HB := Lib.hid hB
  generalize Rw.en t k = E0 at *
  clear hg hka hT hm hA hB
  go_enter Tryd.func57, Tryd.ntmps57
  go_upto_region 1 with fail
  simp only [HGS.out]
  generalize w.alloc zeroS = wa at *
  go_wp2_with (go_at_call 53; refine cR.mono ?_; rintro e w2 ⟨rfl, hw⟩; have hw3 := hw.symm; subst hw3; clear cR)
  go_loopw [1, 11, 19] (fun l ev v wr => ∃ (i : Nat) (A : Option Addr) (c : Nat) (u : List Int) (e : Nat), i ≤ T ∧ v = .int .i64 i ∧ l = .slice A u.length c ∧ u.length ≤ c ∧ Rn wr A u.length u ∧ ev = .int .i64 e ∧ jst t k i = some (u, e) ∧ JnI t k u ∧ e ≤ u.length ∧ Kept (fun _ => False) wa wr) (fun _ _ v _ => T - (intOf v).toNat)
  case atStart => exact ⟨0, _, cap, t, E0, Nat.zero_le _, rfl, rfl, hcap, HR0.out, rfl, HE0.out, HJ0.out, HEL.out, Kept.refl _ _⟩
  case round =>
    obtain ⟨i, A, c, u, e, hi, rfl, rfl, huc, hR, rfl, hj, hJ, heu, hkw⟩ := hrel
    have HJ := Lib.hid hj
    have HI := Lib.hid hJ
    have HKW := Lib.hid hkw
    have HR := Lib.hid hR
    have HTR : Hid (Tabs wr) := HT0.out.kept hkw id id
    have HGR := Lib.hid ((hkw.block g (heap_lt HG0.out) id).trans HG0.out)
    have hul : u.length ≤ 4000 := by have := hJ.len; omega
    have hku : k ≤ u.length := hJ.le
    have hbu : Rw.beg u k = B := hJ.beg.trans HB.out
    have HBU := Lib.hid hbu
    clear hj hkw hJ
    by_cases hlt : i < T
    · have b1 : decide (i < T) = true := by simp; omega
      have cR2 := row_any A u.length c u B wr hR (by have := HBL.out; omega) (by omega)
      have hen : Rw.en u B = Rw.en u k := by rw [← hbu]; exact Rw.en_beg u k hku
      rw [hen] at cR2
      have hele := Rw.en_le u k hku
      clear hR hen hbu
      by_cases hl : Rw.en u k = u.length
      · have HN := Lib.hid (HPN.out (jst_none (jst_stop HJ.out hl) T (by omega)))
        rw [hl] at cR2
        clear hl hele
        obtain ⟨⟨e0, e1, e2, e3, e4, e5⟩, k0, k1, k2, k3, k4, k5⟩ := chg_facts HGR.out
        generalize Rw.beg u B = B2 at *
        go_wp2_with (go_at_call 53; refine cR2.mono ?_; rintro e w2 ⟨rfl, hw⟩; have hw3 := hw.symm; subst hw3; clear cR2)
        refine bodyPost_ret (res_chg rfl _ _ g _ _ _ _ _ _ (0, 0) rfl (chg_six HGR.out _ _ _ _ _ _)) rfl ⟨⟨0, 0, ⟨#[]⟩, 0, ⟨#[]⟩, 6, rfl, HN.out⟩, ?_⟩
        exact (HKA.out.trans HKW.out).fresh (Kept.six (Kept.refl (fun q => q = g) _) rfl _ _ _ _ _ _) (fun b hb e => by have := HGS.out; omega)
      · have hel : Rw.en u k < u.length := by omega
        obtain ⟨ad, _, rfl, _, _⟩ := HR.out.cell (j := 0) (by omega)
        obtain ⟨G, hG⟩ : ∃ G : Bool, G = true ↔ Rw.glu u k := by
          by_cases h : Rw.glu u k
          · exact ⟨true, fun _ => h, fun _ => rfl⟩
          · exact ⟨false, fun h' => Bool.noConfusion h', fun h' => absurd h' h⟩
        have cJ := join_any ad u.length c u k G wr HR.out (runey_vld HI.out.vld) hul huc hku hel hG
        rw [HBU.out] at cJ
        have HJ1 := Lib.hid (jst_step HJ.out hel hG)
        have HI1 := Lib.hid (HI.out.next G hel)
        have HE1 : Hid (Rw.en u k ≤ (Rw.jn u k G).length) := by show _ ≤ _; rw [Rw.jn_len u k G hel]; omega
        have d1 : ((Rw.en u k : Int) == (u.length : Int)) = false := by rw [beq_eq_false_iff_ne]; omega
        have d1' : ((Rw.en u k : Nat) == u.length) = false := by rw [beq_eq_false_iff_ne]; omega
        clear hG hl hel hele
        generalize Rw.jn u k G = J at *
        generalize Rw.en u k = E1 at *
        generalize Rw.beg u B = B2 at *
        generalize hJN : J.length = N at *
        have HJN := Lib.hid hJN
        clear hJN
        go_wp2_with (first
          | (go_at_call 53; refine cR2.mono ?_; rintro e w2 ⟨rfl, hw⟩; have hw3 := hw.symm; subst hw3; clear cR2)
          | (go_at_call 81; refine cJ.mono ?_; rintro e w3 ⟨hk3, A', c', rfl, hc', hR3⟩; have HK3 := Lib.hid hk3; have HR3 := Lib.hid hR3; have HC3 := Lib.hid hc'; clear hk3 hR3 hc' cJ))
        go_roundw
        case rel =>
          have h1 := HJN.out
          subst h1
          exact ⟨i + 1, A', c', J, E1, by omega, by go_num, rfl, HC3.out, HR3.out, rfl, HJ1.out, HI1.out, HE1.out, HKW.out.trans HK3.out⟩
        case measure => simp [intOf]; omega
    · obtain rfl : i = T := by omega
      have b1 : decide (i < i) = false := by simp
      have hv := HI.out.vld
      have cE := srest_yes A u.length c u e wr HTR.out hR hv (HMAY.out u HI.out) heu
      have HV := Lib.hid hv
      have hRL := Rw.rst_le u e
      have HPY2 : Hid (∀ v, Q u (Rw.rst u e : Nat) v → P v) := fun v hv => HPY.out u e v HJ.out hv
      generalize Rw.rst u e = V at *
      clear hR hv hbu
      go_wp2_with (first
        | (go_at_call 78; refine cE.mono ?_; rintro e w2 ⟨rfl, hk2⟩; have cM := HMD.out A u.length c u (V : Nat) w2 (HTR.out.kept hk2 id id) (HR.out.kept hk2 (fun _ _ => id)) HV.out (by omega); have HK2 := Lib.hid hk2; clear hk2 cE)
        | (go_at_call 79; refine cM.mono ?_; rintro e w3 ⟨⟨a, d, p, x', tk, E, rfl, hp⟩, hk3⟩; have HP := Lib.hid hp; have HK3 := Lib.hid (HK2.out.trans hk3); have HG3 := Lib.hid (((HK2.out.trans hk3).block g (heap_lt HGR.out) id).trans HGR.out); obtain ⟨⟨e0, e1, e2, e3, e4, e5⟩, k0, k1, k2, k3, k4, k5⟩ := chg_facts HG3.out; clear hp hk3 cM; unfold chgT))
      refine bodyPost_ret (res_chg rfl _ _ g _ _ _ _ _ _ (0, 0) rfl (chg_six HG3.out _ _ _ _ _ _)) rfl ⟨⟨a, d, p, x', tk, E, rfl, HPY2.out _ HP.out⟩, ?_⟩
      exact (HKA.out.trans (HKW.out.trans HK3.out)).fresh (Kept.six (Kept.refl (fun q => q = g) _) rfl _ _ _ _ _ _) (fun b hb e => by have := HGS.out; omega)
set_option maxRecDepth 100000 in
set_option maxHeartbeats 1000000 in
theorem sof_j (s : ByteArray) (r : Int) (k c : Nat) (w : World) (hT : Tabs w) (hm : mayB s = true) (hk : k ≤ (rs s).length) (hc1 : 1 ≤ c) (hc2 : c ≤ 999) :
    Calls Tryd.prog 28 (smArgs s k 74 r c) w fun e w' => (∃ v, e = .returned v ∧ TakeJ s k (max (c - 1) 1) v) ∧ Kept (fun _ => False) w w' := by
  have hka : Kept (fun _ => False) w (w.alloc zeroS) := (Kept.refl _ w).alloc _
  have HG0 : Hid ((w.alloc zeroS).heap[w.heap.size]? = some zeroS) := heap_alloc_new w _
  have hTa := hT.kept hka id id
  have cR := runes_cap s k _ hTa hm hk
  have hl4 : (rs s).length ≤ 4000 := by have := rs_len s; have := mayB_size hm; omega
  have cC := fun b cap W hT hA hcap => joined_any s b cap k (max (c - 1) 1) W hT hm hA hcap hk (by omega)
  have HTA := Lib.hid hTa
  have HKA := Lib.hid hka
  obtain ⟨P, hP⟩ : ∃ P : Value → Prop, TakeJ s k (max (c - 1) 1) = P := ⟨_, rfl⟩
  rw [hP] at cC ⊢
  generalize hH : max (c - 1) 1 = H at *
  generalize rs s = t at *
  have HCC := Lib.hid cC
  obtain ⟨g, hg⟩ : ∃ g, w.heap.size = g := ⟨_, rfl⟩
  have HGS := Lib.hid hg
  rw [hg] at HG0
  have cRow := fun b cap W hW => row_any (some ⟨b, 0, none⟩) t.length cap t k W hW hk (by omega)
  generalize Rw.beg t k = B at *
  generalize Rw.en t k = En at *
  have hm1 : max ((c : Int) - 1) 1 = (H : Int) := by omega
  have hw1 : IntKind.i64.wrap ((c : Int) - 1) = (c : Int) - 1 := IntWalk.i64_in _ ⟨by omega, by omega⟩
  clear hg hka hT hTa hm cC hP hH
  go_enter Tryd.func28, Tryd.ntmps28
  go_upto_region 1 with fail
  simp only [HGS.out]
  generalize w.alloc zeroS = wa at *
  go_upto_region 2 with (go_at_call 41; refine cR.mono ?_; rintro e w1 ⟨hk1, b, cap, rfl, hb, hcap, hR⟩; have HK1 := Lib.hid (HKA.out.trans hk1); have HG1 := Lib.hid ((hk1.block g (heap_lt HG0.out) id).trans HG0.out); have HT1 := Lib.hid (HTA.out.kept hk1 id id); have HR1 := Lib.hid hR; clear hk1 hR)
  have d1 : decide (c < 1) = false := by simp; omega
  have d2 : decide (999 < c) = false := by simp; omega
  have d3 : decide ((c : Int) < 1) = false := by simp; omega
  have d4 : decide ((999 : Int) < (c : Int)) = false := by simp; omega
  have cO := cRow b cap w1 HR1.out
  clear cRow
  go_upto_region 6 with (go_at_call 53; refine cO.mono ?_; rintro e w' ⟨rfl, hw⟩; have hw2 := hw.symm; subst hw2)
  clear d1 d2 d3 d4 cO
  have cC := HCC.out b cap w1 HT1.out HR1.out hcap
  go_wp2_with (go_at_call 57; refine cC.mono ?_; rintro e w2 ⟨⟨a, d, p, x, tk, E, rfl, hp⟩, hk2⟩; have HP := Lib.hid hp; have HK2 := Lib.hid (HK1.out.trans hk2); have HG2 := Lib.hid ((hk2.block g (heap_lt HG1.out) id).trans HG1.out); obtain ⟨⟨e0, e1, e2, e3, e4, e5⟩, k0, k1, k2, k3, k4, k5⟩ := chg_facts HG2.out; clear hp hk2 cC; unfold chgT)
  refine bodyPost_ret (res_chg rfl _ _ g _ _ _ _ _ _ (0, 0) rfl (chg_six HG2.out _ _ _ _ _ _)) rfl ⟨⟨chgT a d p x tk E, rfl, HP.out⟩, ?_⟩
  exact HK2.out.fresh (Kept.six (Kept.refl (fun q => q = g) w2) rfl _ _ _ _ _ _) (fun b hb e => by have := HGS.out; omega)
end Go.Proofs.YtkeojjojilfklaaDoor
