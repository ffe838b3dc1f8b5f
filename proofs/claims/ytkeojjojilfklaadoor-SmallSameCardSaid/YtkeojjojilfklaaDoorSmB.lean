/-
  COMMANDS OF SINGLE RUNES: the error of form; x and X, of the program and of the reference.
-/
import Derived.Test.YtkeojjojilfklaaDoorSmA
import Derived.Test.YtkeojjojilfklaaDoorRc
set_option linter.unusedVariables false
namespace Go.Proofs.YtkeojjojilfklaaDoor
open Go Go.RowKit

set_option maxRecDepth 100000 in
theorem scut_none (s : ByteArray) (A : Option Addr) (n c : Nat) (key L : Int) (w : World) :
    Calls Tryd.prog 54 #[.string s, .slice A n c, .int .i64 key, .int .i64 L, .int .i64 L] w fun e w' => e = .returned (.tuple #[chgV 0 0 ⟨#[]⟩ 0 ⟨#[]⟩ false, .int .i64 6]) ∧ Kept (fun _ => False) w w' := by
  have hka : Kept (fun _ => False) w (w.alloc zeroS) := (Kept.refl _ w).alloc _
  have HG0 : Hid ((w.alloc zeroS).heap[w.heap.size]? = some zeroS) := heap_alloc_new w _
  have HKA := Lib.hid hka
  obtain ⟨g, hg⟩ : ∃ g, w.heap.size = g := ⟨_, rfl⟩
  have HGS := Lib.hid hg
  clear hka
  go_enter Tryd.func54, Tryd.ntmps54
  go_upto_region 1 with fail
  simp only [hg] at HG0 ⊢
  clear hg
  generalize w.alloc zeroS = wa at *
  obtain ⟨⟨d0, d1, d2, d3, d4, d5⟩, k0, k1, k2, k3, k4, k5⟩ := chg_facts HG0.out
  go_wp2
  refine bodyPost_ret (res_chg rfl _ _ g _ _ _ _ _ _ (0, 0) rfl (chg_six HG0.out _ _ _ _ _ _)) rfl ⟨rfl, ?_⟩
  exact HKA.out.fresh (Kept.six (Kept.refl (fun q => q = g) wa) rfl _ _ _ _ _ _) (fun b hb e => by have := HGS.out; omega)
set_option maxRecDepth 100000 in
set_option maxHeartbeats 1000000 in
theorem scut_yes (s : ByteArray) (b cap : Nat) (key : Int) (L H AT : Nat) (w : World) (hT : Tabs w) (hm : mayB s = true) (hA : Rn w (some ⟨b, 0, none⟩) (rs s).length (rs s)) (hcap : (rs s).length ≤ cap) (h1 : L < H) (h2 : H ≤ (rs s).length)
    (hkey : (key = 120 ∧ AT = Rw.rst (Rw.lft (rs s) L H) L) ∨ (key = 88 ∧ AT = L)) :
    Calls Tryd.prog 54 #[.string s, .slice (some ⟨b, 0, none⟩) (rs s).length cap, .int .i64 key, .int .i64 L, .int .i64 H] w fun e w' => e = .returned (.tuple #[chgV (Rw.bat (rs s) (Rw.lft (rs s) L H) : Nat) (Rw.bdel (rs s) (Rw.lft (rs s) L H) : Nat) (runesBytes (Rw.bins (rs s) (Rw.lft (rs s) L H))) AT (runesBytes (Rw.tkn (rs s) L H)) false, .int .i64 0]) ∧ Kept (fun _ => False) w w' := by
  have hka : Kept (fun _ => False) w (w.alloc zeroS) := (Kept.refl _ w).alloc _
  have HG0 : Hid ((w.alloc zeroS).heap[w.heap.size]? = some zeroS) := heap_alloc_new w _
  have hT0 := hT.kept hka id id
  have hA0 := hA.kept hka (fun _ _ => id)
  have hll := Rw.lft_len (rs s) L H (by omega) h2
  have hsub := Rw.lft_sub (rs s) L H (by omega)
  have hmx := may_sub hm hsub
  have hvx : Vld (Rw.lft (rs s) L H) := (rs_vld hm).sub fun r hr => hsub.subset hr
  have hl4 : (rs s).length ≤ 4000 := by have := rs_len s; have := mayB_size hm; omega
  have cM := fun A c W hW hR => smade_yes s A (Rw.lft (rs s) L H).length c (Rw.lft (rs s) L H) AT W hW hm hR hvx hmx
  have cE := fun A c W hW hR => srest_yes A (Rw.lft (rs s) L H).length c (Rw.lft (rs s) L H) L W hW hR hvx hmx (by omega)
  have hlx : Rw.lft (rs s) L H = (rs s).take L ++ (rs s).drop H := rfl
  have HLX := Lib.hid hlx
  clear hmx hvx hsub hka hlx
  generalize rs s = t at *
  generalize ((Rw.bat t (Rw.lft t L H) : Nat) : Int) = PA at *
  generalize ((Rw.bdel t (Rw.lft t L H) : Nat) : Int) = PD at *
  generalize runesBytes (Rw.bins t (Rw.lft t L H)) = PI at *
  generalize hTK : runesBytes (Rw.tkn t L H) = TK at *
  generalize Rw.lft t L H = nx at *
  generalize hN : nx.length = N at *
  have HLL := Lib.hid hll
  clear hN hll
  have HTK := Lib.hid hTK
  have HCM := Lib.hid cM
  have HCE := Lib.hid cE
  have HI0 : Hid (Tabs (w.alloc zeroS) ∧ Rn (w.alloc zeroS) (some ⟨b, 0, none⟩) t.length t) := ⟨hT0, hA0⟩
  have HK0 : Hid (Kept (fun _ => False) w (w.alloc zeroS)) := (Kept.refl _ w).alloc _
  clear hTK cM cE hT hA hT0 hA0 hm
  obtain ⟨g, hg⟩ : ∃ g, w.heap.size = g := ⟨_, rfl⟩
  have HGS := Lib.hid hg
  rw [hg] at HG0
  clear hg
  go_enter Tryd.func54, Tryd.ntmps54
  go_upto_region 1 with fail
  simp only [HGS.out]
  generalize w.alloc zeroS = W0 at *
  have hne : ((L : Int) == (H : Int)) = false := by rw [beq_eq_false_iff_ne]; omega
  have hne' : ((L : Nat) == (H : Nat)) = false := by rw [beq_eq_false_iff_ne]; omega
  go_upto_region 3 with fail
  clear hne hne'
  have hcA := fun u => run_cut_h u (some ⟨b, 0, none⟩) t.length cap L (L : Int) rfl (by omega)
  have hcC := fun u => run_cut_l u (some ⟨b, 0, none⟩) t.length cap H (H : Int) rfl h2 hcap
  have HRA : Hid (∀ W, Kept (fun _ => False) W0 W → Rn W (some ⟨b, 0, none⟩) L (t.take L)) := fun W h => (HI0.out.2.kept h (fun _ _ => id)).take (by omega)
  have HRC0 : Hid (∀ W, Kept (fun _ => False) W0 W → Rn W (cutB (some ⟨b, 0, none⟩) cap H) (t.length - H) (t.drop H)) := fun W h => (HI0.out.2.kept h (fun _ _ => id)).drop h2 hcap
  obtain ⟨ad, had⟩ := cutB_some ⟨b, 0, none⟩ cap H
  rw [cutB_zero] at hcA
  rw [had] at hcC HRC0
  clear had
  have HCC : Hid (∀ W, Kept (fun _ => False) W0 W → ∀ pb fr, W.heap[pb]? = some (.cells #[.slice (some ⟨b, 0, none⟩) L cap, .slice (some ad) (t.length - H) (cap - H)] 31 fr) → Calls Tryd.prog 77 #[.slice (some ⟨pb, 0, none⟩) 2 2] W fun e w' => Kept (fun _ => False) W w' ∧ ∃ A cap, e = .returned (.slice A N cap) ∧ N ≤ cap ∧ Rn w' A N nx) := fun W h pb fr hb => by
    have := concat_two pb ⟨b, 0, none⟩ ad L cap (t.length - H) (cap - H) _ _ fr W hb (HRA.out W h) (HRC0.out W h) (by omega)
    rw [← HLX.out, ← HLL.out] at this
    exact this
  have k1 : Kept (fun _ => False) W0 (W0.alloc (.cells #[.slice (some ⟨b, 0, none⟩) L cap, .slice (some ad) (t.length - H) (cap - H)] 31)).drew := ((Kept.refl _ W0).alloc _).drew
  have c1 := HCC.out _ k1 W0.heap.size (0, 0) (heap_drew' (heap_alloc_new W0 _))
  go_cut [12] from 20 to 27 (fun v wx => ∃ A cap, v = .slice A N cap ∧ Rn wx A N nx ∧ Kept (fun _ => False) W0 wx)
  case first =>
    go_region_held3 (fun (w' : World) => True) (exact trivial) ((go_at_call 77; refine c1.mono ?_; rintro e w2 ⟨hk2, A, cp, rfl, hcp, hR2⟩))
    all_goals
      go_wp2_with fail
      go_meet
      exact ⟨A, cp, rfl, hR2, k1.trans hk2⟩
  case rest =>
    obtain ⟨A, cp, rfl, hR, hk2⟩ := hcut
    have HR := Lib.hid hR
    have HK2 := Lib.hid hk2
    have HT2 := Lib.hid (HI0.out.1.kept hk2 id id)
    clear hR hk2 c1 k1 hcA hcC
    rcases hkey with ⟨rfl, hat⟩ | ⟨rfl, hat⟩
    · have HAT := Lib.hid hat.symm
      go_upto_region 7 with (go_at_call 78; refine (HCE.out A cp wc HT2.out HR.out).mono ?_; rintro e w3 ⟨rfl, hk3⟩; have HK3 := Lib.hid (HK2.out.trans hk3); have HT3 := Lib.hid (HT2.out.kept hk3 id id); have HR3 := Lib.hid (HR.out.kept hk3 (fun _ _ => id)); clear hk3)
      simp only [HAT.out]
      clear hat
      go_upto_region 8 with (go_at_call 79; refine (HCM.out A cp w3 HT3.out HR3.out).mono ?_; rintro e w4 ⟨rfl, hk4⟩; have HK4 := Lib.hid (HK3.out.trans hk4); clear hk4)
      have hG4 := (HK4.out.block g (heap_lt HG0.out) id).trans HG0.out
      have HGY : Hid (g < w4.heap.size) := heap_lt hG4
      have HY5 := Lib.hid (heap_alloc_new w4 (chgO PA PD PI AT ⟨#[]⟩ false))
      have HG5 := Lib.hid ((heap_alloc_old w4 (chgO PA PD PI AT ⟨#[]⟩ false) (heap_lt hG4)).trans hG4)
      have HK5 := Lib.hid (HK4.out.alloc (chgO PA PD PI AT ⟨#[]⟩ false))
      clear hG4
      generalize hw5 : w4.alloc (chgO PA PD PI AT ⟨#[]⟩ false) = w5 at *
      clear hw5
      generalize w4.heap.size = y at *
      have hRB : Rn w5 (cutB (some ⟨b, 0, none⟩) cap L) (H - L) (Rw.tkn t L H) := (HI0.out.2.kept HK5.out (fun _ _ => id)).cut (by omega) h2 hcap
      have hcB := fun u => run_cut_lh u (some ⟨b, 0, none⟩) t.length cap L H (L : Int) (H : Int) rfl rfl (by omega) (by omega)
      have htB := run_txt (c := cap - L) hRB
      rw [HTK.out] at htB
      have h1i : (L : Int) ≤ H := by omega
      obtain ⟨⟨c0, c1, c2, c3, c4, c5⟩, k0, k1, k2, k3, k4, k5⟩ := chg_facts HY5.out
      obtain ⟨⟨d0, d1, d2, d3, d4, d5⟩, e0, e1, e2, e3, e4, e5⟩ := chg_facts HG5.out
      have hne1 : ¬ g = y := by have := HGY.out; omega
      have hne2 : ¬ y = g := by have := HGY.out; omega
      have HNE := Lib.hid hne1
      clear hRB
      go_wp2
      refine bodyPost_ret (res_chg rfl _ _ g _ _ _ _ _ _ (0, 0) rfl (chg_six ((heap_far HNE.out _).trans HG5.out) _ _ _ _ _ _)) rfl ⟨rfl, ?_⟩
      exact (HK0.out.trans HK5.out).fresh (Kept.six ((Kept.refl (fun q => q = y ∨ q = g) w5).setCell (p := ⟨y, 4, none⟩) (.inl rfl) _) (.inr rfl) _ _ _ _ _ _) (fun b hb e => by have := HGS.out; have := HGY.out; omega)
    · have hat' := hat.symm
      subst hat'
      go_upto_region 7 with fail
      obtain ⟨w3, hw3⟩ : ∃ w3, w3 = wc := ⟨_, rfl⟩
      subst hw3
      have HK3 := HK2
      have HT3 := HT2
      have HR3 := HR
      clear hat
      go_upto_region 8 with (go_at_call 79; refine (HCM.out A cp w3 HT3.out HR3.out).mono ?_; rintro e w4 ⟨rfl, hk4⟩; have HK4 := Lib.hid (HK3.out.trans hk4); clear hk4)
      have hG4 := (HK4.out.block g (heap_lt HG0.out) id).trans HG0.out
      have HGY : Hid (g < w4.heap.size) := heap_lt hG4
      have HY5 := Lib.hid (heap_alloc_new w4 (chgO PA PD PI L ⟨#[]⟩ false))
      have HG5 := Lib.hid ((heap_alloc_old w4 (chgO PA PD PI L ⟨#[]⟩ false) (heap_lt hG4)).trans hG4)
      have HK5 := Lib.hid (HK4.out.alloc (chgO PA PD PI L ⟨#[]⟩ false))
      clear hG4
      generalize hw5 : w4.alloc (chgO PA PD PI L ⟨#[]⟩ false) = w5 at *
      clear hw5
      generalize w4.heap.size = y at *
      have hRB : Rn w5 (cutB (some ⟨b, 0, none⟩) cap L) (H - L) (Rw.tkn t L H) := (HI0.out.2.kept HK5.out (fun _ _ => id)).cut (by omega) h2 hcap
      have hcB := fun u => run_cut_lh u (some ⟨b, 0, none⟩) t.length cap L H (L : Int) (H : Int) rfl rfl (by omega) (by omega)
      have htB := run_txt (c := cap - L) hRB
      rw [HTK.out] at htB
      have h1i : (L : Int) ≤ H := by omega
      obtain ⟨⟨c0, c1, c2, c3, c4, c5⟩, k0, k1, k2, k3, k4, k5⟩ := chg_facts HY5.out
      obtain ⟨⟨d0, d1, d2, d3, d4, d5⟩, e0, e1, e2, e3, e4, e5⟩ := chg_facts HG5.out
      have hne1 : ¬ g = y := by have := HGY.out; omega
      have hne2 : ¬ y = g := by have := HGY.out; omega
      have HNE := Lib.hid hne1
      clear hRB
      go_wp2
      refine bodyPost_ret (res_chg rfl _ _ g _ _ _ _ _ _ (0, 0) rfl (chg_six ((heap_far HNE.out _).trans HG5.out) _ _ _ _ _ _)) rfl ⟨rfl, ?_⟩
      exact (HK0.out.trans HK5.out).fresh (Kept.six ((Kept.refl (fun q => q = y ∨ q = g) w5).setCell (p := ⟨y, 4, none⟩) (.inl rfl) _) (.inr rfl) _ _ _ _ _ _) (fun b hb e => by have := HGS.out; have := HGY.out; omega)
set_option maxRecDepth 100000 in
set_option maxHeartbeats 1000000 in
theorem sof_no (s : ByteArray) (k key r c : Int) (w : World) (hs : s.size ≤ 140737488351232) (hT : Tabs w) (hno : ¬ GoodS s k key r c) :
    Calls Tryd.prog 28 (smArgs s k key r c) w fun e w' => e = .returned (.tuple #[chgV 0 0 ⟨#[]⟩ 0 ⟨#[]⟩ false, .int .i64 1]) ∧ Kept (fun _ => False) w w' := by
  have hka : Kept (fun _ => False) w (w.alloc zeroS) := (Kept.refl _ w).alloc _
  have HG0 : Hid ((w.alloc zeroS).heap[w.heap.size]? = some zeroS) := heap_alloc_new w _
  have hTa := hT.kept hka id id
  have HKA := Lib.hid hka
  obtain ⟨g, hg⟩ : ∃ g, w.heap.size = g := ⟨_, rfl⟩
  have HGS := Lib.hid hg
  rw [hg] at HG0
  clear hg hka hT
  unfold GoodS SmOk at hno
  by_cases h1 : mayB s = true ∧ 0 ≤ k ∧ k ≤ (rs s).length
  · obtain ⟨hm, hk0, hk1⟩ := h1
    obtain ⟨kk, rfl⟩ := Int.eq_ofNat_of_zero_le hk0
    have cR := runes_yes s kk _ hTa hm (by omega)
    have hl4 : (rs s).length ≤ 4000 := by have := rs_len s; have := mayB_size hm; omega
    have hkn : kk ≤ (rs s).length := by omega
    generalize rs s = t at *
    clear hTa
    by_cases h2 : 1 ≤ c ∧ c ≤ 999
    · have d1 : decide (c < 1) = false := by simp; omega
      have d2 : decide (999 < c) = false := by simp; omega
      by_cases h3 : key = 114
      · subst h3
        have cT := fun w => typed_any r false w ⟨fun h => Bool.noConfusion h, fun h => absurd ⟨hm, ⟨hk0, hk1⟩, by decide, h2, fun _ => h⟩ hno⟩
        clear hno h2 hm hk0 hk1
        go_enter Tryd.func28, Tryd.ntmps28
        go_upto_region 1 with fail
        simp only [HGS.out]
        generalize w.alloc zeroS = wa at *
        go_upto_region 2 with (go_at_call 41; refine cR.mono ?_; rintro e w1 ⟨hk1, b, cap, rfl, hb, hR⟩; have HK1 := Lib.hid (HKA.out.trans hk1); have HG1 := Lib.hid ((hk1.block g (heap_lt HG0.out) id).trans HG0.out); clear hk1)
        obtain ⟨⟨e0, e1, e2, e3, e4, e5⟩, k0, k1, k2, k3, k4, k5⟩ := chg_facts HG1.out
        go_wp2_with (go_at_call 52; refine (cT _).mono ?_; rintro e w' ⟨rfl, hw⟩; have hw2 := hw.symm; subst hw2)
        refine bodyPost_ret (res_chg rfl _ _ g _ _ _ _ _ _ (0, 0) rfl (chg_six HG1.out _ _ _ _ _ _)) rfl ⟨rfl, ?_⟩
        exact HK1.out.fresh (Kept.six (Kept.refl (fun q => q = g) w1) rfl _ _ _ _ _ _) (fun b hb e => by have := HGS.out; omega)
      · have h4 : key ∉ smKeys := fun h => hno ⟨hm, ⟨hk0, hk1⟩, h, h2, fun e => absurd e h3⟩
        have q1 : (key == 120) = false := by rw [beq_eq_false_iff_ne]; rintro rfl; exact h4 (by decide)
        have q2 : (key == 88) = false := by rw [beq_eq_false_iff_ne]; rintro rfl; exact h4 (by decide)
        have q3 : (key == 114) = false := by rw [beq_eq_false_iff_ne]; exact h3
        have q4 : (key == 126) = false := by rw [beq_eq_false_iff_ne]; rintro rfl; exact h4 (by decide)
        have q5 : (key == 74) = false := by rw [beq_eq_false_iff_ne]; rintro rfl; exact h4 (by decide)
        clear hno h2 hm hk0 hk1 h3 h4
        go_enter Tryd.func28, Tryd.ntmps28
        go_upto_region 1 with fail
        simp only [HGS.out]
        generalize w.alloc zeroS = wa at *
        go_upto_region 2 with (go_at_call 41; refine cR.mono ?_; rintro e w1 ⟨hk1, b, cap, rfl, hb, hR⟩; have HK1 := Lib.hid (HKA.out.trans hk1); have HG1 := Lib.hid ((hk1.block g (heap_lt HG0.out) id).trans HG0.out); clear hk1)
        obtain ⟨⟨e0, e1, e2, e3, e4, e5⟩, k0, k1, k2, k3, k4, k5⟩ := chg_facts HG1.out
        have cO := row_any (some ⟨b, 0, none⟩) t.length cap t kk w1 hR hkn (by omega)
        clear hR
        go_wp2_with (go_at_call 53; refine cO.mono ?_; rintro e w' ⟨rfl, hw⟩; have hw2 := hw.symm; subst hw2)
        refine bodyPost_ret (res_chg rfl _ _ g _ _ _ _ _ _ (0, 0) rfl (chg_six HG1.out _ _ _ _ _ _)) rfl ⟨rfl, ?_⟩
        exact HK1.out.fresh (Kept.six (Kept.refl (fun q => q = g) w1) rfl _ _ _ _ _ _) (fun b hb e => by have := HGS.out; omega)
    · have hc : decide (c < 1) = true ∨ (decide (c < 1) = false ∧ decide (999 < c) = true) := by
        by_cases h : c < 1
        · exact .inl (decide_eq_true h)
        · exact .inr ⟨decide_eq_false h, decide_eq_true (by omega)⟩
      clear hno h2 hm hk0 hk1
      rcases hc with d1 | ⟨d1, d2⟩
      all_goals
        go_enter Tryd.func28, Tryd.ntmps28
        go_upto_region 1 with fail
        simp only [HGS.out]
        generalize w.alloc zeroS = wa at *
        go_upto_region 2 with (go_at_call 41; refine cR.mono ?_; rintro e w1 ⟨hk1, b, cap, rfl, hb, hR⟩; have HK1 := Lib.hid (HKA.out.trans hk1); have HG1 := Lib.hid ((hk1.block g (heap_lt HG0.out) id).trans HG0.out); clear hk1)
        obtain ⟨⟨e0, e1, e2, e3, e4, e5⟩, k0, k1, k2, k3, k4, k5⟩ := chg_facts HG1.out
        clear hR
        go_wp2
        refine bodyPost_ret (res_chg rfl _ _ g _ _ _ _ _ _ (0, 0) rfl (chg_six HG1.out _ _ _ _ _ _)) rfl ⟨rfl, ?_⟩
        exact HK1.out.fresh (Kept.six (Kept.refl (fun q => q = g) w1) rfl _ _ _ _ _ _) (fun b hb e => by have := HGS.out; omega)
  · have cR := runes_no s k _ hs hTa h1
    clear hno h1 hTa
    go_enter Tryd.func28, Tryd.ntmps28
    go_upto_region 1 with fail
    simp only [HGS.out]
    generalize w.alloc zeroS = wa at *
    go_upto_region 2 with (go_at_call 41; refine cR.mono ?_; rintro e w1 ⟨hk1, rfl⟩; have HK1 := Lib.hid (HKA.out.trans hk1); have HG1 := Lib.hid ((hk1.block g (heap_lt HG0.out) id).trans HG0.out); clear hk1)
    obtain ⟨⟨e0, e1, e2, e3, e4, e5⟩, k0, k1, k2, k3, k4, k5⟩ := chg_facts HG1.out
    go_wp2
    refine bodyPost_ret (res_chg rfl _ _ g _ _ _ _ _ _ (0, 0) rfl (chg_six HG1.out _ _ _ _ _ _)) rfl ⟨rfl, ?_⟩
    exact HK1.out.fresh (Kept.six (Kept.refl (fun q => q = g) w1) rfl _ _ _ _ _ _) (fun b hb e => by have := HGS.out; omega)
/-- What x and X take: from where, up to where. -/
def cutS (t : List Int) (key : Int) (k c : Nat) : Nat × Nat := if key = 120 then (k, min (k + c) (Rw.en t k)) else (max (k - c) (Rw.beg t k), k)
theorem cutS_le {t : List Int} {key : Int} {k c : Nat} (hk : k ≤ t.length) : (cutS t key k c).1 ≤ (cutS t key k c).2 ∧ (cutS t key k c).2 ≤ t.length := by
  unfold cutS
  have h1 := Rw.en_ge t k
  have h2 := Rw.en_le t k hk
  have h3 := Rw.beg_le t k
  split
  · exact ⟨by show k ≤ min _ _; omega, by show min _ _ ≤ _; omega⟩
  · exact ⟨by show max _ _ ≤ k; omega, hk⟩
/-- The change that x and X make, if it takes anything. -/
def CutV (s : ByteArray) (key : Int) (L H : Nat) (v : Value) : Prop :=
  (L = H → v = .tuple #[chgV 0 0 ⟨#[]⟩ 0 ⟨#[]⟩ false, .int .i64 6]) ∧
  (L < H → v = .tuple #[chgV (Rw.bat (rs s) (Rw.lft (rs s) L H) : Nat) (Rw.bdel (rs s) (Rw.lft (rs s) L H) : Nat) (runesBytes (Rw.bins (rs s) (Rw.lft (rs s) L H))) ((if key = 120 then Rw.rst (Rw.lft (rs s) L H) L else L : Nat) : Int) (runesBytes (Rw.tkn (rs s) L H)) false, .int .i64 0])
/-- The change that is told, as it lies in a tuple. -/
def chgT (a d : Int) (p : ByteArray) (x : Int) (tk : ByteArray) (E : Int) : Value := .tuple #[chgV a d p x tk false, .int .i64 E]
theorem scut_any (s : ByteArray) (b cap : Nat) (key : Int) (L H : Nat) (w : World) (hT : Tabs w) (hm : mayB s = true) (hA : Rn w (some ⟨b, 0, none⟩) (rs s).length (rs s)) (hcap : (rs s).length ≤ cap) (h1 : L ≤ H) (h2 : H ≤ (rs s).length) (hkey : key = 120 ∨ key = 88) :
    Calls Tryd.prog 54 #[.string s, .slice (some ⟨b, 0, none⟩) (rs s).length cap, .int .i64 key, .int .i64 L, .int .i64 H] w fun e w' => (∃ (a d : Int) (p : ByteArray) (x : Int) (tk : ByteArray) (E : Int), e = .returned (chgT a d p x tk E) ∧ CutV s key L H (chgT a d p x tk E)) ∧ Kept (fun _ => False) w w' := by
  by_cases h : L = H
  · subst h
    exact (scut_none s _ _ cap key L w).mono fun e w' he => ⟨⟨_, _, _, _, _, _, he.1, fun _ => rfl, fun h => by omega⟩, he.2⟩
  · rcases hkey with rfl | rfl
    · exact (scut_yes s b cap 120 L H _ w hT hm hA hcap (by omega) h2 (.inl ⟨rfl, rfl⟩)).mono fun e w' he => ⟨⟨_, _, _, _, _, _, he.1, fun e => absurd e h, fun _ => rfl⟩, he.2⟩
    · exact (scut_yes s b cap 88 L H L w hT hm hA hcap (by omega) h2 (.inr ⟨rfl, rfl⟩)).mono fun e w' he => ⟨⟨_, _, _, _, _, _, he.1, fun e => absurd e h, fun _ => rfl⟩, he.2⟩
set_option maxRecDepth 100000 in
set_option maxHeartbeats 1000000 in
theorem sof_cut (s : ByteArray) (key r : Int) (k c : Nat) (w : World) (hT : Tabs w) (hm : mayB s = true) (hk : k ≤ (rs s).length) (hc1 : 1 ≤ c) (hc2 : c ≤ 999) (hkey : key = 120 ∨ key = 88) :
    Calls Tryd.prog 28 (smArgs s k key r c) w fun e w' => (∃ v, e = .returned v ∧ CutV s key (cutS (rs s) key k c).1 (cutS (rs s) key k c).2 v) ∧ Kept (fun _ => False) w w' := by
  have hka : Kept (fun _ => False) w (w.alloc zeroS) := (Kept.refl _ w).alloc _
  have HG0 : Hid ((w.alloc zeroS).heap[w.heap.size]? = some zeroS) := heap_alloc_new w _
  have hTa := hT.kept hka id id
  have cR := runes_cap s k _ hTa hm hk
  have hl4 : (rs s).length ≤ 4000 := by have := rs_len s; have := mayB_size hm; omega
  obtain ⟨hle1, hle2⟩ := cutS_le (key := key) (c := c) hk
  have cC := fun b cap W hT hA hcap => scut_any s b cap key (cutS (rs s) key k c).1 (cutS (rs s) key k c).2 W hT hm hA hcap hle1 hle2 hkey
  have hcs : (key = 120 ∧ (cutS (rs s) key k c).1 = k ∧ (cutS (rs s) key k c).2 = min (k + c) (Rw.en (rs s) k)) ∨ (key = 88 ∧ (cutS (rs s) key k c).1 = max (k - c) (Rw.beg (rs s) k) ∧ (cutS (rs s) key k c).2 = k) := by
    rcases hkey with rfl | rfl
    · exact .inl ⟨rfl, rfl, rfl⟩
    · exact .inr ⟨rfl, rfl, rfl⟩
  have hbl := Rw.beg_le (rs s) k
  have hel := Rw.en_le (rs s) k hk
  have HTA := Lib.hid hTa
  have HKA := Lib.hid hka
  generalize (cutS (rs s) key k c).1 = L at *
  generalize (cutS (rs s) key k c).2 = H at *
  obtain ⟨P, hP⟩ : ∃ P : Value → Prop, CutV s key L H = P := ⟨_, rfl⟩
  rw [hP] at cC ⊢
  generalize rs s = t at *
  have HCC := Lib.hid cC
  obtain ⟨g, hg⟩ : ∃ g, w.heap.size = g := ⟨_, rfl⟩
  have HGS := Lib.hid hg
  rw [hg] at HG0
  have cRow := fun b cap W hW => row_any (some ⟨b, 0, none⟩) t.length cap t k W hW hk (by omega)
  generalize Rw.beg t k = B at *
  generalize Rw.en t k = En at *
  clear hg hka hT hTa hm cC hP hkey hle1 hle2
  go_enter Tryd.func28, Tryd.ntmps28
  go_upto_region 1 with fail
  simp only [HGS.out]
  generalize w.alloc zeroS = wa at *
  go_upto_region 2 with (go_at_call 41; refine cR.mono ?_; rintro e w1 ⟨hk1, b, cap, rfl, hb, hcap, hR⟩; have HK1 := Lib.hid (HKA.out.trans hk1); have HG1 := Lib.hid ((hk1.block g (heap_lt HG0.out) id).trans HG0.out); have HT1 := Lib.hid (HTA.out.kept hk1 id id); have HR1 := Lib.hid hR; clear hk1 hR)
  have d1 : decide (c < 1) = false := by simp; omega
  have d2 : decide (999 < c) = false := by simp; omega
  have d3 : decide ((c : Int) < 1) = false := by simp; omega
  have d4 : decide ((999 : Int) < (c : Int)) = false := by simp; omega
  have cO := cRow b cap w1 HR1.out
  clear cRow
  rcases hcs with ⟨rfl, hL, hH⟩ | ⟨rfl, hL, hH⟩
  all_goals
    go_upto_region 6 with (go_at_call 53; refine cO.mono ?_; rintro e w' ⟨rfl, hw⟩; have hw2 := hw.symm; subst hw2)
    clear d1 d2 d3 d4 cO
  · have hm1 : min ((k : Int) + (c : Int)) (En : Int) = (H : Int) := by omega
    have hm2 : min (k + c) En = H := hH.symm
    have hw1 : IntKind.i64.wrap ((k : Int) + (c : Int)) = (k : Int) + (c : Int) := IntWalk.i64_in _ ⟨by omega, by omega⟩
    subst hL
    have cC := HCC.out b cap w1 HT1.out HR1.out hcap
    clear hH
    go_wp2_with (go_at_call 54; refine cC.mono ?_; rintro e w2 ⟨⟨a, d, p, x, tk, E, rfl, hp⟩, hk2⟩; have HP := Lib.hid hp; have HK2 := Lib.hid (HK1.out.trans hk2); have HG2 := Lib.hid ((hk2.block g (heap_lt HG1.out) id).trans HG1.out); obtain ⟨⟨e0, e1, e2, e3, e4, e5⟩, k0, k1, k2, k3, k4, k5⟩ := chg_facts HG2.out; clear hp hk2 cC; unfold chgT)
    refine bodyPost_ret (res_chg rfl _ _ g _ _ _ _ _ _ (0, 0) rfl (chg_six HG2.out _ _ _ _ _ _)) rfl ⟨⟨chgT a d p x tk E, rfl, HP.out⟩, ?_⟩
    exact HK2.out.fresh (Kept.six (Kept.refl (fun q => q = g) w2) rfl _ _ _ _ _ _) (fun b hb e => by have := HGS.out; omega)
  · have hm1 : max ((k : Int) - (c : Int)) (B : Int) = (L : Int) := by omega
    have hw1 : IntKind.i64.wrap ((k : Int) - (c : Int)) = (k : Int) - (c : Int) := IntWalk.i64_in _ ⟨by omega, by omega⟩
    subst hH
    have cC := HCC.out b cap w1 HT1.out HR1.out hcap
    clear hL
    go_wp2_with (go_at_call 54; refine cC.mono ?_; rintro e w2 ⟨⟨a, d, p, x, tk, E, rfl, hp⟩, hk2⟩; have HP := Lib.hid hp; have HK2 := Lib.hid (HK1.out.trans hk2); have HG2 := Lib.hid ((hk2.block g (heap_lt HG1.out) id).trans HG1.out); obtain ⟨⟨e0, e1, e2, e3, e4, e5⟩, k0, k1, k2, k3, k4, k5⟩ := chg_facts HG2.out; clear hp hk2 cC; unfold chgT)
    refine bodyPost_ret (res_chg rfl _ _ g _ _ _ _ _ _ (0, 0) rfl (chg_six HG2.out _ _ _ _ _ _)) rfl ⟨⟨chgT a d p x tk E, rfl, HP.out⟩, ?_⟩
    exact HK2.out.fresh (Kept.six (Kept.refl (fun q => q = g) w2) rfl _ _ _ _ _ _) (fun b hb e => by have := HGS.out; omega)
/-- What holds of memory while the reference works. -/
structure RsI (b g : Nat) (t : List Int) (W : World) : Prop where
  tabs : Tabs W
  rn : Rn W (some ⟨b, 0, none⟩) t.length t
  chg : W.heap[g]? = some zeroS
theorem RsI.kept {b g : Nat} {t : List Int} {W W' : World} (h : RsI b g t W) (hk : Kept (fun _ => False) W W') : RsI b g t W' :=
  ⟨h.tabs.kept hk id id, h.rn.kept hk (fun _ _ => id), (hk.block _ (heap_lt h.chg) id).trans h.chg⟩
theorem RsI.drewN {b g : Nat} {t : List Int} {W : World} (h : RsI b g t W) (q : Nat) : RsI b g t (W.drewN q) := ⟨h.tabs, h.rn, h.chg⟩
theorem cutS_way {t : List Int} {key : Int} {k c : Nat} (hkey : key = 120 ∨ key = 88) : (key = 120 ∧ (cutS t key k c).1 = k ∧ (cutS t key k c).2 = min (k + c) (Rw.en t k)) ∨ (key = 88 ∧ (cutS t key k c).1 = max (k - c) (Rw.beg t k) ∧ (cutS t key k c).2 = k) := by
  rcases hkey with rfl | rfl
  · exact .inl ⟨rfl, rfl, rfl⟩
  · exact .inr ⟨rfl, rfl, rfl⟩
set_option maxRecDepth 100000 in
set_option maxHeartbeats 2000000 in
theorem rsmall_cut (s : ByteArray) (key r : Int) (k c : Nat) (w : World) (hT : Tabs w) (hm : mayB s = true) (hk : k ≤ (rs s).length) (hc1 : 1 ≤ c) (hc2 : c ≤ 999) (hkey : key = 120 ∨ key = 88) :
    Calls Tryd.prog 51 (smArgs s k key r c) w fun e w' => (∃ v, e = .returned v ∧ CutV s key (cutS (rs s) key k c).1 (cutS (rs s) key k c).2 v) ∧ Kept (fun _ => False) w w' := by
  have HG0 : Hid ((w.alloc zeroS).heap[w.heap.size]? = some zeroS) := heap_alloc_new w _
  have HKA : Hid (Kept (fun _ => False) w (w.alloc zeroS)) := (Kept.refl _ w).alloc _
  have HTA : Hid (Tabs (w.alloc zeroS)) := hT.kept HKA.out id id
  have hsm := mayB_size hm
  have hl4 : (rs s).length ≤ 4000 := by have := rs_len s; omega
  obtain ⟨hle1, hle2⟩ := cutS_le (key := key) (c := c) hk
  have hcs := cutS_way (t := rs s) (k := k) (c := c) hkey
  have hbl := Rw.beg_le (rs s) k
  have hel := Rw.en_le (rs s) k hk
  have cV := fun W => conv_rs s W (by omega)
  generalize (cutS (rs s) key k c).1 = L at *
  generalize (cutS (rs s) key k c).2 = H at *
  have hll := Rw.lft_len (rs s) L H hle1 hle2
  have hmx := may_sub hm (Rw.lft_sub (rs s) L H hle1)
  have hxr : rs (runesBytes (Rw.lft (rs s) L H)) = Rw.lft (rs s) L H := rs_txt ((rs_vld hm).sub fun r hr => (Rw.lft_sub (rs s) L H hle1).subset hr)
  have cM := fun W hW at' => rmade_yes s (runesBytes (Rw.lft (rs s) L H)) at' W hsm hW hmx
  have cU := fun W => conv_rs (runesBytes (Rw.lft (rs s) L H)) W (by have := mayB_size hmx; omega)
  have cR := fun b cap W (hW : Rn W (some ⟨b, 0, none⟩) (Rw.lft (rs s) L H).length (Rw.lft (rs s) L H)) => rrest_any (some ⟨b, 0, none⟩) _ cap _ L W hW (by omega) (by omega)
  rw [hxr] at cM cU
  have hb0 := rs_bytes hm
  have hsA : (runesBytes ((rs s).take L)).size ≤ 4000 := txt_le (List.take_sublist _ _) (by omega)
  have hsC : (runesBytes ((rs s).drop H)).size ≤ 4000 := txt_le (List.drop_sublist _ _) (by omega)
  have HTX : Hid (runesBytes ((rs s).take L) ++ runesBytes ((rs s).drop H) = runesBytes (Rw.lft (rs s) L H)) := txt_append _ _
  have HCV : Hid ((L = H → CutV s key L H (.tuple #[chgV 0 0 ⟨#[]⟩ 0 ⟨#[]⟩ false, .int .i64 6])) ∧ (L < H → CutV s key L H (.tuple #[chgV (Rw.bat (rs s) (Rw.lft (rs s) L H) : Nat) (Rw.bdel (rs s) (Rw.lft (rs s) L H) : Nat) (runesBytes (Rw.bins (rs s) (Rw.lft (rs s) L H))) ((if key = 120 then Rw.rst (Rw.lft (rs s) L H) L else L : Nat) : Int) (runesBytes (Rw.tkn (rs s) L H)) false, .int .i64 0]))) :=
    ⟨fun h => ⟨fun _ => rfl, fun h' => by omega⟩, fun h => ⟨fun h' => by omega, fun _ => rfl⟩⟩
  generalize CutV s key L H = P at *
  clear hb0 hT hm hmx hsm hxr hkey
  have cBe := fun b cap W hW => rbegin_any (some ⟨b, 0, none⟩) (rs s).length cap (rs s) k W hW hk (by omega)
  have cEn := fun b cap W hW => rend_any (some ⟨b, 0, none⟩) (rs s).length cap (rs s) k W hW hk (by omega)
  generalize Rw.beg (rs s) k = B at *
  generalize Rw.en (rs s) k = En at *
  generalize rs s = t at *
  generalize ((Rw.bat t (Rw.lft t L H) : Nat) : Int) = PA at *
  generalize ((Rw.bdel t (Rw.lft t L H) : Nat) : Int) = PD at *
  generalize runesBytes (Rw.bins t (Rw.lft t L H)) = PI at *
  generalize runesBytes (Rw.lft t L H) = NX at *
  generalize hTK : runesBytes (Rw.tkn t L H) = TK at *
  generalize hNL : Rw.lft t L H = nx at *
  have HTK := Lib.hid hTK
  have HCM := Lib.hid cM
  have HCR := Lib.hid cR
  have HCU := Lib.hid cU
  clear hTK cM cR cU hNL hll
  obtain ⟨g, hg⟩ : ∃ g, w.heap.size = g := ⟨_, rfl⟩
  have HGS := Lib.hid hg
  rw [hg] at HG0
  clear hg
  obtain ⟨M, hM⟩ : ∃ M : Nat, M = min (k + c) En := ⟨_, rfl⟩
  have hm1 : min (En : Int) ((k : Int) + (c : Int)) = (M : Int) := by omega
  have hm2 : min En (k + c) = M := by omega
  have HM := Lib.hid hM
  clear hM
  have hw1 : IntKind.i64.wrap ((k : Int) + (c : Int)) = (k : Int) + (c : Int) := IntWalk.i64_in _ ⟨by omega, by omega⟩
  have hw2 : IntKind.i64.wrap ((k : Int) - (c : Int)) = (k : Int) - (c : Int) := IntWalk.i64_in _ ⟨by omega, by omega⟩
  go_enter Tryd.func51, Tryd.ntmps51
  go_upto_region 1 with fail
  simp only [HGS.out]
  generalize w.alloc zeroS = W0 at *
  obtain ⟨cap, w1, hcap, hcv, hk1, hlt1, hR1⟩ := cV W0
  have hI1 : RsI W0.heap.size g t w1 := ⟨HTA.out.kept hk1 id id, hR1, (hk1.block _ (heap_lt HG0.out) id).trans HG0.out⟩
  obtain ⟨b, hb⟩ : ∃ b, W0.heap.size = b := ⟨_, rfl⟩
  rw [hb] at hcv hI1
  have HI1 := Lib.hid hI1
  have HK1 := Lib.hid (HKA.out.trans hk1)
  have cB1 := cBe b cap w1 hI1.rn
  have cE1 := cEn b cap w1 hI1.rn
  clear hR1 hI1 hk1 cV cBe cEn hb
  go_upto_region 4 with (first
    | (go_at_call 40; refine cB1.mono ?_; rintro e w2 ⟨rfl, hw⟩; have hw3 := hw.symm; subst hw3)
    | (go_at_call 25; refine cE1.mono ?_; rintro e w2 ⟨rfl, hw⟩; have hw3 := hw.symm; subst hw3))
  clear hcv cB1 cE1 hm1 hm2 hw1
  obtain ⟨⟨z0, z1, z2, z3, z4, z5⟩, y0, y1, y2, y3, y4, y5⟩ := chg_facts HI1.out.chg
  rcases hcs with ⟨rfl, hL, hH⟩ | ⟨rfl, hL, hH⟩
  · obtain rfl : H = M := hH.trans HM.out.symm
    subst hL
    clear hH hw2
    go_upto_region 10 with fail
    by_cases heq : L = H
    · subst heq
      go_wp2
      refine bodyPost_ret (res_chg rfl _ _ g _ _ _ _ _ _ (0, 0) rfl (chg_six HI1.out.chg _ _ _ _ _ _)) rfl ⟨⟨.tuple #[chgV 0 0 ⟨#[]⟩ 0 ⟨#[]⟩ false, .int .i64 6], rfl, HCV.out.1 (by trivial)⟩, ?_⟩
      exact HK1.out.fresh (Kept.six (Kept.refl (fun q => q = g) w1) rfl _ _ _ _ _ _) (fun b hb e => by have := HGS.out; omega)
    · have hlt : L < H := by omega
      have hne : ((L : Int) == (H : Int)) = false := by rw [beq_eq_false_iff_ne]; omega
      have hne' : ((L : Nat) == (H : Nat)) = false := by rw [beq_eq_false_iff_ne]; omega
      clear heq z0 z1 z2 z3 z4 z5 y0 y1 y2 y3 y4 y5
      go_upto_region 12 with fail
      clear hne hne'
      have hcA := fun u => run_cut_h u (some ⟨b, 0, none⟩) t.length cap L (L : Int) rfl (by omega)
      have hcC := fun u => run_cut_l u (some ⟨b, 0, none⟩) t.length cap H (H : Int) rfl hle2 hcap
      have hRA : Rn w1 (cutB (some ⟨b, 0, none⟩) cap 0) L (t.take L) := by rw [cutB_zero]; exact HI1.out.rn.take (by omega)
      have hRC : Rn w1 (cutB (some ⟨b, 0, none⟩) cap H) (t.length - H) (t.drop H) := HI1.out.rn.drop hle2 hcap
      generalize cutB (some ⟨b, 0, none⟩) cap 0 = CA at *
      generalize cutB (some ⟨b, 0, none⟩) cap H = CC at *
      have htA : ∀ r, (convert 31 9 (.slice CA L cap)).run Tryd.prog (w1.drewN r) = .ok (.string (runesBytes (t.take L))) (w1.drewN r) := fun r => run_txt (w := w1.drewN r) hRA
      have htC : ∀ r, (convert 31 9 (.slice CC (t.length - H) (cap - H))).run Tryd.prog (w1.drewN r) = .ok (.string (runesBytes (t.drop H))) (w1.drewN r) := fun r => run_txt (w := w1.drewN r) hRC
      generalize runesBytes (t.take L) = SA at *
      generalize runesBytes (t.drop H) = SC at *
      have ad : ∀ u, (Op.stringOp .add SA SC).run Tryd.prog u = .ok (.string NX) u := fun u => by rw [← HTX.out]; exact run_string_add_sum u SA SC (by omega)
      clear hRA hRC
      go_cut [17] from 60 to 68 (fun v wx => v = .string NX ∧ ∃ q, wx = w1.drewN q)
      case first =>
        go_quiet (fail)
        go_wp2_with fail
        go_meet
        exact ⟨rfl, _, by first | rfl | rw [drewN2]⟩
      case rest =>
        obtain ⟨rfl, q2, rfl⟩ := hcut
        clear htA htC hcA hcC ad
        have hIq := HI1.out.drewN q2
        have hKq : Kept (fun _ => False) w (w1.drewN q2) := HK1.out.drewN q2
        generalize w1.drewN q2 = wq at *
        obtain ⟨cp2, w3, hcp2, hcu, hk3, _, hR3⟩ := HCU.out wq
        obtain ⟨yy, hyy⟩ : ∃ yy, wq.heap.size = yy := ⟨_, rfl⟩
        rw [hyy] at hcu hR3
        have HI3 := Lib.hid (hIq.kept hk3)
        have HK3 := Lib.hid (hKq.trans hk3)
        have hcR := HCR.out yy cp2 w3 hR3
        clear hyy hk3 hR3 hKq hIq
        go_upto_region 17 with (go_at_call 59; refine hcR.mono ?_; rintro e w4 ⟨rfl, hw⟩; have hw3 := hw.symm; subst hw3)
        clear hcu hcR
        go_upto_region 18 with (go_at_call 62; refine (HCM.out w3 HI3.out.tabs _).mono ?_; rintro e w4 ⟨rfl, hk4⟩; have HI4 := Lib.hid (HI3.out.kept hk4); have HK4 := Lib.hid (HK3.out.trans hk4); clear hk4)
        have HGY : Hid (g < w4.heap.size) := heap_lt HI4.out.chg
        have HY5 := Lib.hid (heap_alloc_new w4 (chgO PA PD PI (Rw.rst nx L : Nat) ⟨#[]⟩ false))
        have HI5 := Lib.hid (HI4.out.kept ((Kept.refl (fun _ => False) w4).alloc (chgO PA PD PI (Rw.rst nx L : Nat) ⟨#[]⟩ false)))
        have HK5 := Lib.hid (HK4.out.alloc (chgO PA PD PI (Rw.rst nx L : Nat) ⟨#[]⟩ false))
        generalize w4.alloc (chgO PA PD PI (Rw.rst nx L : Nat) ⟨#[]⟩ false) = w5 at *
        generalize w4.heap.size = y at *
        have hRB : Rn w5 (cutB (some ⟨b, 0, none⟩) cap L) (H - L) (Rw.tkn t L H) := HI5.out.rn.cut hle1 hle2 hcap
        have hcB := fun u => run_cut_lh u (some ⟨b, 0, none⟩) t.length cap L H (L : Int) (H : Int) rfl rfl hle1 (by omega)
        have htB := run_txt (c := cap - L) hRB
        rw [HTK.out] at htB
        have h1i : (L : Int) ≤ H := by omega
        obtain ⟨⟨c0, c1, c2, c3, c4, c5⟩, k0, k1, k2, k3, k4, k5⟩ := chg_facts HY5.out
        obtain ⟨⟨d0, d1, d2, d3, d4, d5⟩, e0, e1, e2, e3, e4, e5⟩ := chg_facts HI5.out.chg
        have hne1 : ¬ g = y := by have := HGY.out; omega
        have hne2 : ¬ y = g := by have := HGY.out; omega
        have HNE := Lib.hid hne1
        clear hRB
        go_wp2
        refine bodyPost_ret (res_chg rfl _ _ g _ _ _ _ _ _ (0, 0) rfl (chg_six ((heap_far HNE.out _).trans HI5.out.chg) _ _ _ _ _ _)) rfl ⟨⟨.tuple #[chgV PA PD PI (Rw.rst nx L : Nat) TK false, .int .i64 0], rfl, HCV.out.2 (by first | exact hlt | trivial)⟩, ?_⟩
        exact HK5.out.fresh (Kept.six ((Kept.refl (fun q => q = y ∨ q = g) w5).setCell (p := ⟨y, 4, none⟩) (.inl rfl) _) (.inr rfl) _ _ _ _ _ _) (fun b hb e => by have := HGS.out; have := HGY.out; omega)
  · have hx1 : max (B : Int) ((k : Int) - (c : Int)) = (L : Int) := by omega
    subst hH
    clear hL
    go_upto_region 10 with fail
    clear hx1 hw2
    by_cases heq : L = H
    · subst heq
      go_wp2
      refine bodyPost_ret (res_chg rfl _ _ g _ _ _ _ _ _ (0, 0) rfl (chg_six HI1.out.chg _ _ _ _ _ _)) rfl ⟨⟨.tuple #[chgV 0 0 ⟨#[]⟩ 0 ⟨#[]⟩ false, .int .i64 6], rfl, HCV.out.1 (by trivial)⟩, ?_⟩
      exact HK1.out.fresh (Kept.six (Kept.refl (fun q => q = g) w1) rfl _ _ _ _ _ _) (fun b hb e => by have := HGS.out; omega)
    · have hlt : L < H := by omega
      have hne : ((L : Int) == (H : Int)) = false := by rw [beq_eq_false_iff_ne]; omega
      have hne' : ((L : Nat) == (H : Nat)) = false := by rw [beq_eq_false_iff_ne]; omega
      clear heq z0 z1 z2 z3 z4 z5 y0 y1 y2 y3 y4 y5
      go_upto_region 12 with fail
      clear hne hne'
      have hcA := fun u => run_cut_h u (some ⟨b, 0, none⟩) t.length cap L (L : Int) rfl (by omega)
      have hcC := fun u => run_cut_l u (some ⟨b, 0, none⟩) t.length cap H (H : Int) rfl hle2 hcap
      have hRA : Rn w1 (cutB (some ⟨b, 0, none⟩) cap 0) L (t.take L) := by rw [cutB_zero]; exact HI1.out.rn.take (by omega)
      have hRC : Rn w1 (cutB (some ⟨b, 0, none⟩) cap H) (t.length - H) (t.drop H) := HI1.out.rn.drop hle2 hcap
      generalize cutB (some ⟨b, 0, none⟩) cap 0 = CA at *
      generalize cutB (some ⟨b, 0, none⟩) cap H = CC at *
      have htA : ∀ r, (convert 31 9 (.slice CA L cap)).run Tryd.prog (w1.drewN r) = .ok (.string (runesBytes (t.take L))) (w1.drewN r) := fun r => run_txt (w := w1.drewN r) hRA
      have htC : ∀ r, (convert 31 9 (.slice CC (t.length - H) (cap - H))).run Tryd.prog (w1.drewN r) = .ok (.string (runesBytes (t.drop H))) (w1.drewN r) := fun r => run_txt (w := w1.drewN r) hRC
      generalize runesBytes (t.take L) = SA at *
      generalize runesBytes (t.drop H) = SC at *
      have ad : ∀ u, (Op.stringOp .add SA SC).run Tryd.prog u = .ok (.string NX) u := fun u => by rw [← HTX.out]; exact run_string_add_sum u SA SC (by omega)
      clear hRA hRC
      go_cut [17] from 60 to 68 (fun v wx => v = .string NX ∧ ∃ q, wx = w1.drewN q)
      case first =>
        go_quiet (fail)
        go_wp2_with fail
        go_meet
        exact ⟨rfl, _, by first | rfl | rw [drewN2]⟩
      case rest =>
        obtain ⟨rfl, q2, rfl⟩ := hcut
        clear htA htC hcA hcC ad
        have hIq := HI1.out.drewN q2
        have hKq : Kept (fun _ => False) w (w1.drewN q2) := HK1.out.drewN q2
        generalize w1.drewN q2 = wq at *
        have HI3 := Lib.hid hIq
        have HK3 := Lib.hid hKq
        clear hKq hIq
        obtain ⟨w3, hw3⟩ : ∃ w3, w3 = wq := ⟨_, rfl⟩
        subst hw3
        go_upto_region 17 with fail
        go_upto_region 18 with (go_at_call 62; refine (HCM.out w3 HI3.out.tabs _).mono ?_; rintro e w4 ⟨rfl, hk4⟩; have HI4 := Lib.hid (HI3.out.kept hk4); have HK4 := Lib.hid (HK3.out.trans hk4); clear hk4)
        have HGY : Hid (g < w4.heap.size) := heap_lt HI4.out.chg
        have HY5 := Lib.hid (heap_alloc_new w4 (chgO PA PD PI (L : Nat) ⟨#[]⟩ false))
        have HI5 := Lib.hid (HI4.out.kept ((Kept.refl (fun _ => False) w4).alloc (chgO PA PD PI (L : Nat) ⟨#[]⟩ false)))
        have HK5 := Lib.hid (HK4.out.alloc (chgO PA PD PI (L : Nat) ⟨#[]⟩ false))
        generalize w4.alloc (chgO PA PD PI (L : Nat) ⟨#[]⟩ false) = w5 at *
        generalize w4.heap.size = y at *
        have hRB : Rn w5 (cutB (some ⟨b, 0, none⟩) cap L) (H - L) (Rw.tkn t L H) := HI5.out.rn.cut hle1 hle2 hcap
        have hcB := fun u => run_cut_lh u (some ⟨b, 0, none⟩) t.length cap L H (L : Int) (H : Int) rfl rfl hle1 (by omega)
        have htB := run_txt (c := cap - L) hRB
        rw [HTK.out] at htB
        have h1i : (L : Int) ≤ H := by omega
        obtain ⟨⟨c0, c1, c2, c3, c4, c5⟩, k0, k1, k2, k3, k4, k5⟩ := chg_facts HY5.out
        obtain ⟨⟨d0, d1, d2, d3, d4, d5⟩, e0, e1, e2, e3, e4, e5⟩ := chg_facts HI5.out.chg
        have hne1 : ¬ g = y := by have := HGY.out; omega
        have hne2 : ¬ y = g := by have := HGY.out; omega
        have HNE := Lib.hid hne1
        clear hRB
        go_wp2
        refine bodyPost_ret (res_chg rfl _ _ g _ _ _ _ _ _ (0, 0) rfl (chg_six ((heap_far HNE.out _).trans HI5.out.chg) _ _ _ _ _ _)) rfl ⟨⟨.tuple #[chgV PA PD PI (L : Nat) TK false, .int .i64 0], rfl, HCV.out.2 (by first | exact hlt | trivial)⟩, ?_⟩
        exact HK5.out.fresh (Kept.six ((Kept.refl (fun q => q = y ∨ q = g) w5).setCell (p := ⟨y, 4, none⟩) (.inl rfl) _) (.inr rfl) _ _ _ _ _ _) (fun b hb e => by have := HGS.out; have := HGY.out; omega)
end Go.Proofs.YtkeojjojilfklaaDoor
