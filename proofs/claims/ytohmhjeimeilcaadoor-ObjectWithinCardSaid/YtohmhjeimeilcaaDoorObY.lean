/-
  WHAT a TELLS HAS ALL THAT i TELLS: the law, walked.
-/
import Derived.Test.YtohmhjeimeilcaaDoorObL
import Derived.Test.YtohmhjeimeilcaaDoorObX
set_option linter.unusedVariables false
namespace Go.Proofs.YtohmhjeimeilcaaDoor
open Go Go.RowKit

set_option maxRecDepth 100000 in
set_option maxHeartbeats 8000000 in
theorem objectWithin_any (p : AskV) (w : World) (hp : AskOk w p) (hT : Tabs w) : Calls Tryd.prog 9 #[.agg p.cells] w fun e w' => e = .returned (.bool true) ∧ Kept (fun _ => False) w w' := by
  have hK0 : Hid (Kept (fun _ => False) w (w.alloc (.cells p.cells 28))) := (Kept.refl _ w).alloc _
  have hH0 : Hid (Held (w.alloc (.cells p.cells 28)) w.heap.size p) := ⟨heap_alloc_new w _, hp.kept hK0.out, hT.kept hK0.out id id⟩
  have cH := heavy10_any p (w.alloc (.cells p.cells 28)) hH0.out.ask
  clear hp hT
  obtain ⟨A, n0, c0, ss, xa, xb, xr, xc, xk, xn, xq⟩ := p
  unfold AskV.cells at *
  simp only at *
  go_enter Tryd.func9, Tryd.ntmps9
  go_wp2_with (go_at_call 14; refine cH.mono ?_; rintro e w1 ⟨⟨hv, rfl, hsm⟩, hk1⟩; have HS := Lib.hid hsm; have HKA0 := Lib.hid (hK0.out.trans hk1); have HHA0 := Lib.hid (hH0.out.kept hk1); clear hsm hk1 hH0 hK0 cH)
  · exact bodyPost_ret (results_tmp rfl _ _ _) rfl ⟨rfl, HKA0.out⟩
  have hv0 : hv = false := by assumption
  subst hv0
  have hss : ∀ s ∈ ss, s.size ≤ 6000 := HS.out rfl
  have HSS := Lib.hid hss
  clear hss HS
  generalize hpb : w.heap.size = pb at HHA0 ⊢
  clear hpb
  have hN0 : Nums (w1.alloc (.cells #[.int .i64 119, .int .i64 87, .int .i64 34, .int .i64 40, .int .i64 91, .int .i64 123, .int .i64 112] 3)) (some ⟨w1.heap.size, 0, none⟩) 7 [119, 87, 34, 40, 91, 123, 112] := nums_new w1 [119, 87, 34, 40, 91, 123, 112] 3
  have hkk : Kept (fun _ => False) w1 (w1.alloc (.cells #[.int .i64 119, .int .i64 87, .int .i64 34, .int .i64 40, .int .i64 91, .int .i64 123, .int .i64 112] 3)) := (Kept.refl _ w1).alloc _
  have HKA := Lib.hid (HKA0.out.trans hkk)
  have HHA := Lib.hid (HHA0.out.kept hkk)
  have HNA := Lib.hid hN0
  clear hN0 hkk HKA0 HHA0
  generalize w1.alloc (.cells #[.int .i64 119, .int .i64 87, .int .i64 34, .int .i64 40, .int .i64 91, .int .i64 123, .int .i64 112] 3) = w0 at *
  generalize w1.heap.size = kb at *
  go_loopw [4] (fun v wr => ∃ i : Nat, i ≤ n0 ∧ i ≤ 4 ∧ v = .int .i64 i ∧ Kept (fun _ => False) w0 wr) (fun v _ => n0 - (intOf v).toNat)
  case atStart => exact ⟨0, Nat.zero_le _, Nat.zero_le _, rfl, Kept.refl _ _⟩
  case round =>
    obtain ⟨i, hi, hi4, rfl, hki⟩ := hrel
    obtain ⟨wi, hwi⟩ : ∃ wi, wi = wr := ⟨_, rfl⟩
    subst hwi
    have HKi := Lib.hid (HKA.out.trans hki)
    have HHi := Lib.hid (HHA.out.kept hki)
    have HYi := Lib.hid (HNA.out.kept hki (fun _ _ => id))
    have HKW := Lib.hid hki
    clear hki
    have p0 : wi.cell? ⟨pb, 0, none⟩ = some (.slice A n0 c0) := HHi.out.pb.c 0
    by_cases hgo : i < n0 ∧ i < 4
    · obtain ⟨g1, g2⟩ := hgo
      obtain ⟨ad, s, rfl, hs, hsc, _⟩ := HHi.out.ask.ss.cell g1
      have hsz : s.size ≤ 6000 := HSS.out s (List.mem_of_getElem? hs)
      have HSI := Lib.hid hs
      have b1 : decide (i < n0) = true := by simp; omega
      have b2 : decide (i < 4) = true := by simp; omega
      have b3 : decide ((i : Int) < 4) = true := by simp; omega
      clear hs
      have hl := rs_len s
      obtain ⟨cap, w2, hcap, hcv, hk2, hlt2, hR⟩ := conv_rs s wi (by omega)
      generalize ht : rs s = t at *
      have HT2 := Lib.hid ht
      have HK2 := Lib.hid (HKi.out.trans hk2)
      have HKW2 := Lib.hid (HKW.out.trans hk2)
      have HH2 := Lib.hid (HHi.out.kept hk2)
      have HY2 := Lib.hid (HYi.out.kept hk2 (fun _ _ => id))
      have HR := Lib.hid hR
      have q0 : w2.cell? ⟨pb, 0, none⟩ = some (.slice (some ad) n0 c0) := HH2.out.pb.c 0
      have q1 : w2.cell? ⟨pb, 1, none⟩ = some (.int .i64 xa) := HH2.out.pb.c 1
      have q2 : w2.cell? ⟨pb, 2, none⟩ = some (.int .i64 xb) := HH2.out.pb.c 2
      have q3 : w2.cell? ⟨pb, 3, none⟩ = some (.int .i64 xr) := HH2.out.pb.c 3
      have q4 : w2.cell? ⟨pb, 4, none⟩ = some (.int .i64 xc) := HH2.out.pb.c 4
      have q5 : w2.cell? ⟨pb, 5, none⟩ = some (.int .i64 xk) := HH2.out.pb.c 5
      have q6 : w2.cell? ⟨pb, 6, none⟩ = some (.int .i64 xn) := HH2.out.pb.c 6
      have q7 : w2.cell? ⟨pb, 7, none⟩ = some (.int .i64 xq) := HH2.out.pb.c 7
      clear hk2 hR ht hcap hlt2
      generalize hrb : wi.heap.size = rb at HR hcv
      clear hrb
      have cO := offsets_any ⟨some ad, n0, c0, ss, xa, xb, xr, xc, xk, xn, xq⟩ (some ⟨rb, 0, none⟩) t.length cap w2 HH2.out.ask.xa (by omega)
      unfold AskV.cells at cO
      simp only at cO
      go_wp2_with (go_at_call 26; refine cO.mono ?_; rintro e w3 ⟨hk3, B, m, c', xs, rfl, hxs, hm15, hx64⟩; have HK3 := Lib.hid (HK2.out.trans hk3); have HKW3 := Lib.hid (HKW2.out.trans hk3); have HH3 := Lib.hid (HH2.out.kept hk3); have HY3 := Lib.hid (HY2.out.kept hk3 (fun _ _ => id)); have HR3 := Lib.hid (HR.out.kept hk3 (fun _ _ => id)); have HX3 := Lib.hid hxs; clear hk3 hxs hx64 q0 q1 q2 q3 q4 q5 q6 q7 cO hcv HK2 HH2 HR HKW2 HY2 p0 hsc)
      have HTl : Hid (t.length ≤ 6000) := by show _ ≤ _; omega
      clear b1 b2 b3
      have HI0 := Lib.hid g1
      go_loopw [7] (fun v wr => ∃ j : Nat, j ≤ m ∧ v = .int .i64 j ∧ Kept (fun _ => False) w3 wr) (fun v _ => m - (intOf v).toNat)
      case atStart => exact ⟨0, Nat.zero_le _, rfl, Kept.refl _ _⟩
      case round =>
        obtain ⟨j, hj, rfl, hkj⟩ := hrel
        obtain ⟨wj, hwj⟩ : ∃ wj, wj = wr := ⟨_, rfl⟩
        subst hwj
        have HKJ := Lib.hid hkj
        have HHj := Lib.hid (HH3.out.kept hkj)
        have HYj := Lib.hid (HY3.out.kept hkj (fun _ _ => id))
        have HXj := Lib.hid (HX3.out.kept hkj (fun _ _ => id))
        clear hkj
        by_cases hjm : j < m
        · obtain ⟨xad, x, rfl, hx, _⟩ := HXj.out.cell hjm
          have HXJ := Lib.hid hx
          clear hx
          have b5 : decide (j < m) = true := by simp; omega
          have b6 : decide ((j : Int) < (m : Int)) = true := decide_eq_true (by omega)
          go_wp2_with fail
          clear b5 b6
          go_loopw [8] (fun v wr => ∃ k : Nat, k ≤ 7 ∧ v = .int .i64 k ∧ Kept (fun _ => False) wj wr) (fun v _ => 7 - (intOf v).toNat)
          case atStart => exact ⟨0, Nat.zero_le _, rfl, Kept.refl _ _⟩
          case round =>
            obtain ⟨k, hk, rfl, hkk⟩ := hrel
            obtain ⟨wk, hwk⟩ : ∃ wk, wk = wr := ⟨_, rfl⟩
            subst hwk
            have HKK := Lib.hid hkk
            have HHk := Lib.hid (HHj.out.kept hkk)
            have HYk := Lib.hid (HYj.out.kept hkk (fun _ _ => id))
            have HXk := Lib.hid (HXj.out.kept hkk (fun _ _ => id))
            clear hkk
            by_cases hk7 : k < 7
            · obtain ⟨kad, key, he, hkey, hkc⟩ := HYk.out.cell hk7
              injection he with he
              subst he
              rw [addr_add, Nat.zero_add] at hkc
              have HKM : Hid (key ∈ ([119, 87, 34, 40, 91, 123, 112] : List Int)) := List.mem_of_getElem? hkey
              clear hkey
              have f0 : wk.cell? ⟨pb, 0, none⟩ = some (.slice (some ad) n0 c0) := HHk.out.pb.c 0
              have f1 : wk.cell? (ad.add i) = some (.string s) := by
                obtain ⟨ad1, s1, e1, e2, e3, _⟩ := HHk.out.ask.ss.cell HI0.out
                injection e1 with e1
                subst e1
                have := HSI.out
                rw [e2] at this
                injection this with this
                subst this
                exact e3
              have f2 : wk.cell? (xad.add j) = some (.int .i64 x) := by
                obtain ⟨ad1, e1, h1⟩ := HXk.out.2 j x HXJ.out
                injection e1 with e1
                subst e1
                exact h1
              have hff := And.intro f0 (And.intro f1 (And.intro f2 hkc))
              have b7 : decide (k < 7) = true := by simp; omega
              have b8 : decide ((k : Int) < 7) = true := by simp; omega
              have hs9 : s.size ≤ 140737488351232 := by omega
              have t1 : (0 : Int) ≤ (k : Int) := by omega
              have t2 : (k : Int) < 7 := by omega
              have t3 : (0 : Int) ≤ (j : Int) := by omega
              have t4 : (j : Int) < (m : Int) := by omega
              have t5 : (0 : Int) ≤ (i : Int) := by omega
              have t6 : (i : Int) < (n0 : Int) := by have := HI0.out; omega
              have HKS : Hid (∀ W, Kept (fun _ => False) wk W → W.cell? ⟨pb, 0, none⟩ = some (.slice (some ad) n0 c0) ∧ W.cell? (ad.add i) = some (.string s) ∧ W.cell? (xad.add j) = some (.int .i64 x) ∧ W.cell? ⟨kb, k, none⟩ = some (.int .i64 key)) := fun W h => ⟨cell_kept h hff.1 id, cell_kept h hff.2.1 id, cell_kept h hff.2.2.1 id, cell_kept h hff.2.2.2 id⟩
              have hTd : Tabs wk.drew := HHk.out.tabs
              have hTa : Tabs (wk.alloc (rngO 0 0 false)).drew := HHk.out.tabs.kept ((Kept.refl (fun _ => False) wk).alloc (rngO 0 0 false)).drew id id
              have KA := HKS.out _ (Kept.refl (fun _ => False) wk).drew
              have KB := HKS.out _ ((Kept.refl (fun _ => False) wk).alloc (rngO 0 0 false)).drew
              clear f0 f1 f2 hkc hff
              go_upto_region 15 with fail
              clear b7 b8
              go_cut [9, 10] from 50 to 67 (fun v1 v2 wx => ∃ (g : Nat) (a d : Int) (l : Bool) (E : Int), v1 = .pointer (some ⟨g, 0, none⟩) ∧ v2 = .int .i64 E ∧ ToldO s x 105 key 1 a d l E ∧ wk.heap.size ≤ g ∧ wx.heap[g]? = some (rngO a d l) ∧ Kept (fun _ => False) wk wx)
              case first =>
                go_region_held3 (fun (w' : World) => w'.cell? ⟨pb, 0, none⟩ = some (.slice (some ad) n0 c0) ∧ w'.cell? (ad.add i) = some (.string s) ∧ w'.cell? (xad.add j) = some (.int .i64 x) ∧ w'.cell? ⟨kb, k, none⟩ = some (.int .i64 key))
                  (first | with_reducible exact KC | with_reducible exact KB | with_reducible exact KA | with_reducible exact HKS.out _ (HK8.out.alloc _) | with_reducible exact HKS.out _ (HKZ.out _ _ _))
                  (first
                    | (go_at_call 27; refine (ppiece_all s x 105 key 1 _ hs9 hTd).mono ?_; rintro e w8 ⟨⟨a, d, l, E, rfl, htold⟩, hk8⟩; have HTD := Lib.hid htold; have HK8 : Hid (Kept (fun _ => False) wk w8) := (Kept.refl (fun _ => False) wk).drew.trans hk8; have KC := HKS.out _ HK8.out; clear htold hk8)
                    | (go_at_call 27; refine (ppiece_all s x 105 key 1 _ hs9 hTa).mono ?_; rintro e w8 ⟨⟨a, d, l, E, rfl, htold⟩, hk8⟩; have HTD := Lib.hid htold; have HK8 : Hid (Kept (fun _ => False) wk w8) := ((Kept.refl (fun _ => False) wk).alloc (rngO 0 0 false)).drew.trans hk8; have KC := HKS.out _ HK8.out; have h8 : w8.heap[wk.heap.size]? = some (rngO 0 0 false) := (hk8.block _ (by simp) id).trans (heap_alloc_new wk _); have H8 := Lib.hid h8; have HKZ : Hid (∀ u0 u1 u2, Kept (fun _ => False) wk (((w8.setCell ⟨wk.heap.size, 0, none⟩ u0).setCell ⟨wk.heap.size, 1, none⟩ u1).setCell ⟨wk.heap.size, 2, none⟩ u2)) := (fun u0 u1 u2 => HK8.out.fresh (Kept.three (Kept.refl (fun q => q = wk.heap.size) w8) rfl _ _ _) (fun b hb e => by omega)); obtain ⟨d0, d1, d2⟩ := rng_facts h8; obtain ⟨e0, e1, e2⟩ := rng_free h8; clear htold hk8 h8))
                · go_wp2_with fail
                  go_meet
                  exact ⟨w8.heap.size, a, d, l, E, rfl, rfl, HTD.out, HK8.out.size, heap_alloc_new w8 _, HK8.out.alloc _⟩
                · go_wp2_with fail
                  go_meet
                  exact ⟨wk.heap.size, a, d, l, E, rfl, rfl, HTD.out, Nat.le_refl _, rng_three H8.out _ _ _, HKZ.out _ _ _⟩
              case rest =>
                obtain ⟨g, a, d, l, E, rfl, rfl, htold, hg, hgb, hk9⟩ := hcut
                have HT1 := Lib.hid htold
                have HG1 := Lib.hid hgb
                have HKC := Lib.hid hk9
                have hff := HKS.out _ hk9
                have hHc := HHk.out.kept hk9
                have hTd2 := hHc.tabs
                clear KA KB hTd hTa HKS htold hgb hk9 hg
                have HKS : Hid (∀ W, Kept (fun _ => False) wc W → W.cell? ⟨pb, 0, none⟩ = some (.slice (some ad) n0 c0) ∧ W.cell? (ad.add i) = some (.string s) ∧ W.cell? (xad.add j) = some (.int .i64 x) ∧ W.cell? ⟨kb, k, none⟩ = some (.int .i64 key)) := fun W h => ⟨cell_kept h hff.1 id, cell_kept h hff.2.1 id, cell_kept h hff.2.2.1 id, cell_kept h hff.2.2.2 id⟩
                have hTd : Tabs wc.drew := hTd2
                have hTa : Tabs (wc.alloc (rngO 0 0 false)).drew := hTd2.kept ((Kept.refl (fun _ => False) wc).alloc (rngO 0 0 false)).drew id id
                have KA := HKS.out _ (Kept.refl (fun _ => False) wc).drew
                have KB := HKS.out _ ((Kept.refl (fun _ => False) wc).alloc (rngO 0 0 false)).drew
                clear hff hTd2 hHc
                obtain ⟨wm, hwm⟩ : ∃ wm, wm = wc := ⟨_, rfl⟩
                subst hwm
                go_upto_region 16 with fail
                go_cut [11, 12] from 68 to 85 (fun v1 v2 wx => ∃ (g : Nat) (a d : Int) (l : Bool) (E : Int), v1 = .pointer (some ⟨g, 0, none⟩) ∧ v2 = .int .i64 E ∧ ToldO s x 97 key 1 a d l E ∧ wm.heap.size ≤ g ∧ wx.heap[g]? = some (rngO a d l) ∧ Kept (fun _ => False) wm wx)
                case first =>
                  go_region_held3 (fun (w' : World) => w'.cell? ⟨pb, 0, none⟩ = some (.slice (some ad) n0 c0) ∧ w'.cell? (ad.add i) = some (.string s) ∧ w'.cell? (xad.add j) = some (.int .i64 x) ∧ w'.cell? ⟨kb, k, none⟩ = some (.int .i64 key))
                    (first | with_reducible exact KC | with_reducible exact KB | with_reducible exact KA | with_reducible exact HKS.out _ (HK8.out.alloc _) | with_reducible exact HKS.out _ (HKZ.out _ _ _))
                    (first
                      | (go_at_call 27; refine (ppiece_all s x 97 key 1 _ hs9 hTd).mono ?_; rintro e w8 ⟨⟨a, d, l, E, rfl, htold⟩, hk8⟩; have HTD := Lib.hid htold; have HK8 : Hid (Kept (fun _ => False) wm w8) := (Kept.refl (fun _ => False) wm).drew.trans hk8; have KC := HKS.out _ HK8.out; clear htold hk8)
                      | (go_at_call 27; refine (ppiece_all s x 97 key 1 _ hs9 hTa).mono ?_; rintro e w8 ⟨⟨a, d, l, E, rfl, htold⟩, hk8⟩; have HTD := Lib.hid htold; have HK8 : Hid (Kept (fun _ => False) wm w8) := ((Kept.refl (fun _ => False) wm).alloc (rngO 0 0 false)).drew.trans hk8; have KC := HKS.out _ HK8.out; have h8 : w8.heap[wm.heap.size]? = some (rngO 0 0 false) := (hk8.block _ (by simp) id).trans (heap_alloc_new wm _); have H8 := Lib.hid h8; have HKZ : Hid (∀ u0 u1 u2, Kept (fun _ => False) wm (((w8.setCell ⟨wm.heap.size, 0, none⟩ u0).setCell ⟨wm.heap.size, 1, none⟩ u1).setCell ⟨wm.heap.size, 2, none⟩ u2)) := (fun u0 u1 u2 => HK8.out.fresh (Kept.three (Kept.refl (fun q => q = wm.heap.size) w8) rfl _ _ _) (fun b hb e => by omega)); obtain ⟨d0, d1, d2⟩ := rng_facts h8; obtain ⟨e0, e1, e2⟩ := rng_free h8; clear htold hk8 h8))
                  · go_wp2_with fail
                    go_meet
                    exact ⟨w8.heap.size, a, d, l, E, rfl, rfl, HTD.out, HK8.out.size, heap_alloc_new w8 _, HK8.out.alloc _⟩
                  · go_wp2_with fail
                    go_meet
                    exact ⟨wm.heap.size, a, d, l, E, rfl, rfl, HTD.out, Nat.le_refl _, rng_three H8.out _ _ _, HKZ.out _ _ _⟩
                case rest =>
                  obtain ⟨g', a', d', l', E', rfl, rfl, htold, hg, hgb, hk9⟩ := hcut
                  have HT2' := Lib.hid htold
                  have HG2 := Lib.hid hgb
                  have HG1' := Lib.hid ((hk9.block g (heap_lt HG1.out) id).trans HG1.out)
                  have HK9 := Lib.hid (HKK.out.trans (HKC.out.trans hk9))
                  have KF := HKS.out _ hk9
                  have KFd := HKS.out _ hk9.drew
                  clear KA KB hTd hTa htold hgb hk9 hg HKS
                  by_cases hE : E = 0
                  case neg =>
                    have bE : (E != 0) = true := by rw [bne_iff_ne]; exact hE
                    clear KF KFd
                    go_wp2_with (go_at_call 28; refine (onum_any _ _).mono ?_; rintro e w' ⟨rfl, hw⟩; have hw2 := hw.symm; clear hw; subst hw2)
                    exact ⟨⟨k + 1, by omega, by go_num, HK9.out⟩, by simp [intOf]; omega⟩
                  subst hE
                  by_cases hE' : E' = 0
                  case neg =>
                    have bE : (E' != 0) = true := by rw [bne_iff_ne]; exact hE'
                    clear KF KFd
                    go_wp2_with (go_at_call 28; refine (onum_any _ _).mono ?_; rintro e w' ⟨rfl, hw⟩; have hw2 := hw.symm; clear hw; subst hw2)
                    exact ⟨⟨k + 1, by omega, by go_num, HK9.out⟩, by simp [intOf]; omega⟩
                  subst hE'
                  obtain ⟨hgp, hp1⟩ := told_zero HT1.out
                  obtain ⟨_, hp2⟩ := told_zero HT2'.out
                  obtain ⟨_, hx0, hx1⟩ := hgp
                  rw [HT2.out] at hp1 hp2 hx1
                  have hwi := within_pce HKM.out (by omega) hp1 hp2
                  obtain ⟨q1, q2, q3, q4, q5, q6⟩ := hwi
                  subst q4
                  have b1 : decide (d < a) = false := decide_eq_false (by omega)
                  have b2 : decide (a < a') = false := decide_eq_false (by omega)
                  have b3 : decide (d' < d) = false := decide_eq_false (by omega)
                  have b4 : decide ((t.length : Int) < d') = false := decide_eq_false (by omega)
                  obtain ⟨y0, y1, y2⟩ := rng_facts HG1'.out
                  obtain ⟨z0, z1, z2⟩ := rng_facts HG2.out
                  have hkd : wc.cell? ⟨kb, k, none⟩ = some (.int .i64 key) := KF.2.2.2
                  clear hp1 hp2 hx0 hx1 KFd KF q1 q2 q3 q6
                  go_upto_region 18 with (go_at_call 28; refine (onum_any _ _).mono ?_; rintro e w' ⟨rfl, hw⟩; have hw2 := hw.symm; clear hw; subst hw2)
                  obtain ⟨F, hF⟩ : ∃ F, (key == 112) = F := ⟨_, rfl⟩
                  rw [hF] at q5
                  subst q5
                  go_cut [136] from 94 to 136 (fun v wx => v = .bool false ∧ ∃ q, wx = wc.drewN q)
                  case first =>
                    cases l
                    all_goals
                      go_quiet (fail)
                      go_wp2_with fail
                      go_meet
                      exact ⟨rfl, _, rfl⟩
                  case rest =>
                    obtain ⟨rfl, q, rfl⟩ := hcut
                    go_wp2_with fail
                    exact ⟨⟨k + 1, by omega, by go_num, HK9.out.drewN q⟩, by simp [intOf]; omega⟩
            · obtain rfl : k = 7 := by omega
              go_wp2_with fail
              go_roundw
              case rel => exact ⟨j + 1, by omega, by go_num, HKJ.out.trans HKK.out⟩
              case measure => simp [intOf]; omega
        · have b5 : decide (j < m) = false := by simp; omega
          go_wp2_with fail
          go_roundw
          case rel => exact ⟨i + 1, by omega, by omega, by go_num, HKW3.out.trans HKJ.out⟩
          case measure => simp [intOf]; omega
    · have hlast : (i = n0 ∧ i < 4) ∨ (i < n0 ∧ i = 4) ∨ (i = n0 ∧ i = 4) := by omega
      have cW := owakes_any wi HHi.out.tabs
      rcases hlast with ⟨h1, h2⟩ | ⟨h1, h2⟩ | ⟨h1, h2⟩
      case' inl | inr.inr => have b1 : decide (i < n0) = false := by simp; omega
      case' inr.inl =>
        have b1 : decide (i < n0) = true := by simp; omega
        have b2 : decide (i < 4) = false := by simp; omega
        have b3 : decide ((i : Int) < 4) = false := by simp; omega
      all_goals
        clear h1 h2
        go_wp2_with (go_at_call 29; refine cW.mono ?_; rintro e w9 ⟨rfl, hk9⟩)
        go_ret
        exact ⟨rfl, HKi.out.trans hk9⟩
end Go.Proofs.YtohmhjeimeilcaaDoor
