/-
  THE LAW RegionBetween: what lies between any two offsets, of each kind, is the reference's.
-/
import Derived.Test.YtbofjefblhnkoaaGreatDoorRgO
import Derived.Deep.RegionHeld3
import Derived.Deep.CutRange
set_option linter.unusedVariables false
set_option maxRecDepth 100000
namespace Go.Proofs.YtbofjefblhnkoaaGreatDoor
open Go Go.RowKit

def GoodB (s : ByteArray) (x y kd : Int) : Prop := mayB s = true ∧ (0 ≤ x ∧ x ≤ ((rs s).length : Int)) ∧ (0 ≤ y ∧ y ≤ ((rs s).length : Int)) ∧ 0 ≤ kd ∧ kd ≤ 2
instance (s : ByteArray) (x y kd : Int) : Decidable (GoodB s x y kd) := by unfold GoodB; infer_instance
def ToldB (s : ByteArray) (x y kd a d : Int) (l : Bool) (E : Int) : Prop := (GoodB s x y kd → rngV a d l = btR (Rw.bt (rs s) x.toNat y.toNat kd) ∧ E = 0 ∧ a ≤ d ∧ d ≤ ((rs s).length : Int)) ∧ (¬ GoodB s x y kd → a = 0 ∧ d = 0 ∧ l = false ∧ E = 1)
theorem pbtw_all (s : ByteArray) (x y kd : Int) (w : World) (hs : s.size ≤ 140737488351232) (hT : Tabs w) :
    Calls Tryz.prog 15 #[.string s, .int .i64 x, .int .i64 y, .int .i64 kd] w fun e w' => (∃ (a d : Int) (l : Bool) (E : Int), e = .returned (.tuple #[rngV a d l, .int .i64 E]) ∧ ToldB s x y kd a d l E) ∧ Kept (fun _ => False) w w' := by
  by_cases hg : GoodB s x y kd
  · obtain ⟨hm, ⟨x0, x1⟩, ⟨y0, y1⟩, k0, k1⟩ := id hg
    obtain ⟨a, rfl⟩ := Int.eq_ofNat_of_zero_le x0
    obtain ⟨b, rfl⟩ := Int.eq_ofNat_of_zero_le y0
    refine (pbtw_yes s a b kd w hT hm (by omega) (by omega) (by omega)).mono ?_
    rintro e w' ⟨rfl, hk⟩
    have hle := Rw.bt_le (rs s) a b kd (by omega) (by omega)
    refine ⟨⟨((Rw.bt (rs s) a b kd).1 : Nat), ((Rw.bt (rs s) a b kd).2.1 : Nat), (Rw.bt (rs s) a b kd).2.2, 0, rfl, fun _ => ⟨rfl, rfl, by omega, by omega⟩, fun h => absurd hg h⟩, hk⟩
  · refine (pbtw_no s x y kd w hs hT hg).mono ?_
    rintro e w' ⟨rfl, hk⟩
    exact ⟨⟨0, 0, false, 1, rfl, fun h => absurd h hg, fun _ => ⟨rfl, rfl, rfl, rfl⟩⟩, hk⟩
set_option maxHeartbeats 8000000 in
theorem regionBetween_any (p : AskM) (w : World) (hp : AskMOk w p) (hT : Tabs w) :
    Calls Tryz.prog 4 #[.agg p.cells] w fun e w' => e = .returned (.bool true) ∧ Kept (fun _ => False) w w' := by
  have hK0 : Hid (Kept (fun _ => False) w (w.alloc (.cells p.cells 34))) := (Kept.refl _ w).alloc _
  have hH0 : Hid (HeldM (w.alloc (.cells p.cells 34)) w.heap.size p) := ⟨heap_alloc_new w _, hp.kept hK0.out⟩
  have HT0 := Lib.hid (hT.kept hK0.out id id)
  have cH := heavy16_any p (w.alloc (.cells p.cells 34)) hH0.out.ask
  clear hp hT
  obtain ⟨⟨A, n0, c0, ss, xa, xb, xr, xc, xk, xn, xq⟩, B, bn, bc, cmds, k1, k2, M, mn, mc, marks⟩ := p
  unfold AskM.cells at *
  simp only at *
  go_enter Tryz.func4, Tryz.ntmps4
  go_wp2_with (go_at_call 5; refine cH.mono ?_; rintro e w1 ⟨⟨hv, rfl, hsm⟩, hk1⟩; have HS := Lib.hid hsm; have HK1 := Lib.hid (hK0.out.trans hk1); have HH := Lib.hid (hH0.out.kept hk1); have HT1 := Lib.hid (HT0.out.kept hk1 id id); clear hsm hk1 hH0 hK0 cH HT0)
  · exact bodyPost_ret (results_tmp rfl _ _ _) rfl ⟨rfl, HK1.out⟩
  have hv0 : hv = false := by assumption
  subst hv0
  have hss : (∀ s ∈ ss, s.size ≤ 6000) ∧ bn + mn ≤ 200 := HS.out rfl
  have HSS := Lib.hid hss.1
  clear HS hss
  generalize hpb : w.heap.size = pb at HH ⊢
  clear hpb
  go_loopw [3] (fun v wr => ∃ i : Nat, i ≤ n0 ∧ i ≤ 3 ∧ v = .int .i64 i ∧ Kept (fun _ => False) w1 wr) (fun v _ => n0 - (intOf v).toNat)
  case atStart => exact ⟨0, Nat.zero_le _, Nat.zero_le _, rfl, Kept.refl _ _⟩
  case round =>
    obtain ⟨i, hi, hi4, rfl, hki⟩ := hrel
    obtain ⟨wi, hwi⟩ : ∃ wi, wi = wr := ⟨_, rfl⟩
    subst hwi
    have HKW := Lib.hid hki
    clear hki
    have p0 : wi.cell? ⟨pb, 0, none⟩ = some (.slice A n0 c0) := (HH.out.kept HKW.out).pb.c 0
    by_cases hgo : i < n0 ∧ i < 3
    · obtain ⟨g1, g2⟩ := hgo
      obtain ⟨ad, s, rfl, hs, hsc, _⟩ := (HH.out.kept HKW.out).ask.w.ss.cell g1
      have hsz : s.size ≤ 6000 := HSS.out s (List.mem_of_getElem? hs)
      have hl := rs_len s
      clear hs
      obtain ⟨cap, w2, hcap, hcv, hk2, hlt2, hR⟩ := conv_rs s wi (by omega)
      generalize ht : rs s = t at *
      have HT2 := Lib.hid ht
      have HKW2 := Lib.hid (HKW.out.trans hk2)
      have HR := Lib.hid hR
      have HH2 := Lib.hid (HH.out.kept HKW2.out)
      have q0 : w2.cell? ⟨pb, 0, none⟩ = some (.slice (some ad) n0 c0) := HH2.out.pb.c 0
      have q1 : w2.cell? ⟨pb, 1, none⟩ = some (.int .i64 xa) := HH2.out.pb.c 1
      have q2 : w2.cell? ⟨pb, 2, none⟩ = some (.int .i64 xb) := HH2.out.pb.c 2
      have q3 : w2.cell? ⟨pb, 3, none⟩ = some (.int .i64 xr) := HH2.out.pb.c 3
      have q4 : w2.cell? ⟨pb, 4, none⟩ = some (.int .i64 xc) := HH2.out.pb.c 4
      have q5 : w2.cell? ⟨pb, 5, none⟩ = some (.int .i64 xk) := HH2.out.pb.c 5
      have q6 : w2.cell? ⟨pb, 6, none⟩ = some (.int .i64 xn) := HH2.out.pb.c 6
      have q7 : w2.cell? ⟨pb, 7, none⟩ = some (.int .i64 xq) := HH2.out.pb.c 7
      clear hk2 hR ht hcap hlt2
      generalize hrb : wi.heap.size = rb at HR hcv
      clear hrb
      have cO := offsets_any ⟨some ad, n0, c0, ss, xa, xb, xr, xc, xk, xn, xq⟩ (some ⟨rb, 0, none⟩) t.length cap w2 HH2.out.ask.w.xa (by omega)
      unfold AskV.cells at cO
      simp only at cO
      have b1 : decide (i < n0) = true := by simp; omega
      have b2 : decide (i < 3) = true := by simp; omega
      have b3 : decide ((i : Int) < 3) = true := by simp; omega
      go_wp2_with (go_at_call 6; refine cO.mono ?_; rintro e w3 ⟨hk3, Xa, m, c', xs, rfl, hxs, hm15, hx64⟩; have HKW3 := Lib.hid (HKW2.out.trans hk3); have HR3 := Lib.hid (HR.out.kept hk3 (fun _ _ => id)); have HX3 := Lib.hid hxs; clear hk3 hxs hx64 q0 q1 q2 q3 q4 q5 q6 q7 cO hcv HH2 HR HKW2 p0 hsc)
      have HTl : Hid (t.length ≤ 6000) := by show _ ≤ _; omega
      clear b1 b2 b3
      go_loopw [7] (fun v wr => ∃ j : Nat, j ≤ m ∧ j ≤ 10 ∧ v = .int .i64 j ∧ Kept (fun _ => False) w3 wr) (fun v _ => m - (intOf v).toNat)
      case atStart => exact ⟨0, Nat.zero_le _, Nat.zero_le _, rfl, Kept.refl _ _⟩
      case round =>
        obtain ⟨j, hj, hj8, rfl, hkj⟩ := hrel
        obtain ⟨wj, hwj⟩ : ∃ wj, wj = wr := ⟨_, rfl⟩
        subst hwj
        have HKJ := Lib.hid hkj
        clear hkj
        by_cases hgj : j < m ∧ j < 10
        · obtain ⟨j1, j2⟩ := hgj
          obtain ⟨xad, x, rfl, hx, _⟩ := HX3.out.cell j1
          have HXJ := Lib.hid hx
          clear hx
          have b1 : decide (j < m) = true := by simp; omega
          have b2 : decide (j < 10) = true := by simp; omega
          have b3 : decide ((j : Int) < 10) = true := by simp; omega
          go_wp2_with fail
          clear b1 b2 b3
          go_loopw [8] (fun v wr => ∃ k : Nat, k ≤ m ∧ k ≤ 10 ∧ v = .int .i64 k ∧ Kept (fun _ => False) wj wr) (fun v _ => m - (intOf v).toNat)
          case atStart => exact ⟨0, Nat.zero_le _, Nat.zero_le _, rfl, Kept.refl _ _⟩
          case round =>
            obtain ⟨k, hk, hk12, rfl, hkk⟩ := hrel
            obtain ⟨wk, hwk⟩ : ∃ wk, wk = wr := ⟨_, rfl⟩
            subst hwk
            have HKK := Lib.hid hkk
            have HKV := Lib.hid (HKJ.out.trans hkk)
            clear hkk
            by_cases hgk : k < m ∧ k < 10
            · obtain ⟨l1, l2⟩ := hgk
              obtain ⟨xad', y, he, hy, _⟩ := HX3.out.cell l1
              injection he with he
              subst he
              have HYJ := Lib.hid hy
              clear hy
              have b1 : decide (k < m) = true := by simp; omega
              have b2 : decide (k < 10) = true := by simp; omega
              have b3 : decide ((k : Int) < 10) = true := by simp; omega
              go_wp2_with fail
              clear b1 b2 b3
              go_loopw [9] (fun v wr => ∃ kd : Int, -1 ≤ kd ∧ kd ≤ 4 ∧ v = .int .i64 kd ∧ Kept (fun _ => False) wk wr) (fun v _ => (4 - intOf v).toNat)
              case atStart => exact ⟨-1, by omega, by omega, rfl, Kept.refl _ _⟩
              case round =>
                obtain ⟨kd, hkd1, hkd2, rfl, hkq⟩ := hrel
                obtain ⟨wq, hwq⟩ : ∃ wq, wq = wr := ⟨_, rfl⟩
                subst hwq
                have HKV7 := Lib.hid hkq
                have HKX := Lib.hid (HKV.out.trans hkq)
                clear hkq
                by_cases hle : kd ≤ 3
                · have HX7 := Lib.hid (HX3.out.kept HKX.out (fun _ _ => id))
                  have HR7 := Lib.hid (HR3.out.kept HKX.out (fun _ _ => id))
                  have HT7 := Lib.hid (HT1.out.kept (HKW3.out.trans HKX.out) id id)
                  have f1 : wq.cell? (xad.add j) = some (.int .i64 x) := by
                    obtain ⟨ad1, e1, h1⟩ := HX7.out.2 j x HXJ.out
                    injection e1 with e1
                    subst e1
                    exact h1
                  have f2 : wq.cell? (xad.add k) = some (.int .i64 y) := by
                    obtain ⟨ad1, e1, h1⟩ := HX7.out.2 k y HYJ.out
                    injection e1 with e1
                    subst e1
                    exact h1
                  have b7 : decide (kd ≤ 3) = true := decide_eq_true hle
                  go_wp2_with fail
                  have hTd : Tabs wq.drew := HT7.out
                  have hTa : Tabs (wq.alloc (rngO 0 0 false)).drew := HT7.out.kept ((Kept.refl (fun _ => False) wq).alloc (rngO 0 0 false)).drew id id
                  have t1 : (0 : Int) ≤ (j : Int) := by omega
                  have t2 : (j : Int) < (m : Int) := by omega
                  have t3 : (0 : Int) ≤ (k : Int) := by omega
                  have t4 : (k : Int) < (m : Int) := by omega
                  have hs9 : s.size ≤ 140737488351232 := by omega
                  have HKS : Hid (∀ W, Kept (fun _ => False) wq W → W.cell? (xad.add j) = some (.int .i64 x) ∧ W.cell? (xad.add k) = some (.int .i64 y)) := fun W h => ⟨cell_kept h f1 id, cell_kept h f2 id⟩
                  clear b7 f1 f2
                  have KA := HKS.out _ (Kept.refl (fun _ => False) wq).drew
                  have KB := HKS.out _ ((Kept.refl (fun _ => False) wq).alloc (rngO 0 0 false)).drew
                  go_cut [10, 11] from 66 to 79 (fun s15 s16 wx => ∃ (g : Nat) (a d : Int) (l : Bool) (E : Int), s15 = .pointer (some ⟨g, 0, none⟩) ∧ s16 = .int .i64 E ∧ ToldB s x y kd a d l E ∧ wq.heap.size ≤ g ∧ wx.heap[g]? = some (rngO a d l) ∧ Kept (fun _ => False) wq wx)
                  case first =>
                    go_region_held3 (fun (w' : World) => w'.cell? (xad.add j) = some (.int .i64 x) ∧ w'.cell? (xad.add k) = some (.int .i64 y))
                      (first | with_reducible exact KC | with_reducible exact KB | with_reducible exact KA | with_reducible exact HKS.out _ (HK8.out.alloc _) | with_reducible exact HKS.out _ (HKZ.out _ _ _))
                      (first
                        | (go_at_call 15; refine (pbtw_all s x y kd _ hs9 hTd).mono ?_; rintro e w8 ⟨⟨a, d, l, E, rfl, htold⟩, hk8⟩; have HTD := Lib.hid htold; have HK8 : Hid (Kept (fun _ => False) wq w8) := (Kept.refl (fun _ => False) wq).drew.trans hk8; have KC := HKS.out _ HK8.out; clear htold hk8)
                        | (go_at_call 15; refine (pbtw_all s x y kd _ hs9 hTa).mono ?_; rintro e w8 ⟨⟨a, d, l, E, rfl, htold⟩, hk8⟩; have HTD := Lib.hid htold; have HK8 : Hid (Kept (fun _ => False) wq w8) := ((Kept.refl (fun _ => False) wq).alloc (rngO 0 0 false)).drew.trans hk8; have KC := HKS.out _ HK8.out; have h8 : w8.heap[wq.heap.size]? = some (rngO 0 0 false) := (hk8.block _ (by simp) id).trans (heap_alloc_new wq _); have H8 := Lib.hid h8; have HKZ : Hid (∀ u0 u1 u2, Kept (fun _ => False) wq (((w8.setCell ⟨wq.heap.size, 0, none⟩ u0).setCell ⟨wq.heap.size, 1, none⟩ u1).setCell ⟨wq.heap.size, 2, none⟩ u2)) := (fun u0 u1 u2 => HK8.out.fresh (Kept.three (Kept.refl (fun q => q = wq.heap.size) w8) rfl _ _ _) (fun b hb e => by omega)); obtain ⟨d0, d1, d2⟩ := rng_facts h8; obtain ⟨e0, e1, e2⟩ := rng_free h8; clear htold hk8 h8))
                    · go_wp2_with fail
                      go_meet
                      exact ⟨w8.heap.size, a, d, l, E, rfl, rfl, HTD.out, HK8.out.size, heap_alloc_new w8 _, HK8.out.alloc _⟩
                    · go_wp2_with fail
                      go_meet
                      exact ⟨wq.heap.size, a, d, l, E, rfl, rfl, HTD.out, Nat.le_refl _, rng_three H8.out _ _ _, HKZ.out _ _ _⟩
                  case rest =>
                    obtain ⟨g, a, d, l, E, rfl, rfl, htold, hg, hgb, hk9⟩ := hcut
                    have HTD := Lib.hid htold
                    have hkz := hk9.alloc (rngO 0 0 false)
                    have HZB0 : Hid ((wc.alloc (rngO 0 0 false)).heap[wc.heap.size]? = some (rngO 0 0 false)) := heap_alloc_new wc _
                    have HGB0 : Hid ((wc.alloc (rngO 0 0 false)).heap[g]? = some (rngO a d l)) := (heap_alloc_old wc (rngO 0 0 false) (heap_lt hgb)).trans hgb
                    have HGZ : Hid (g < wc.heap.size) := heap_lt hgb
                    have HKQ0 := Lib.hid hkz
                    have HQZ : Hid (wq.heap.size ≤ wc.heap.size) := hk9.size
                    clear htold hgb hk9 hkz hg KA KB hTd hTa
                    go_upto_region 20 with fail
                    generalize wc.alloc (rngO 0 0 false) = wz at *
                    generalize wc.heap.size = zb at *
                    have HZB := Lib.hid HZB0.out
                    have HGZ' : Hid (g ≠ zb) := by have := HGZ.out; show g ≠ zb; omega
                    have HZQ : Hid (∀ b, b < wq.heap.size → b = zb → False) := by have := HQZ.out; show ∀ b, _; intro b h1 h2; omega
                    have HGB := Lib.hid HGB0.out
                    have HKQ := Lib.hid HKQ0.out
                    clear HZB0 HGB0 HKQ0
                    obtain ⟨G, hG⟩ : ∃ G, decide (GoodB s x y kd) = G := ⟨_, rfl⟩
                    have HG := Lib.hid hG
                    clear hG
                    go_cut [104] from 81 to 104 (fun v wx => v = .bool G ∧ Kept (fun _ => False) wz wx)
                    case first =>
                      have cMay := rmay_any s wz hs9 (HT7.out.kept HKQ.out id id)
                      have hex : GoodB s x y kd ↔ mayB s = true ∧ (0 ≤ x ∧ x ≤ (t.length : Int)) ∧ (0 ≤ y ∧ y ≤ (t.length : Int)) ∧ 0 ≤ kd ∧ kd ≤ 2 := by
                        unfold GoodB
                        rw [HT2.out]
                      by_cases h1 : mayB s = true
                      case neg =>
                        have hGf : G = false := by rw [← HG.out]; exact decide_eq_false (fun h => h1 (hex.1 h).1)
                        rw [Bool.not_eq_true] at h1
                        rw [h1] at cMay
                        subst hGf
                        clear hex h1
                        go_wp2_with (go_at_call 9; refine cMay.mono ?_; rintro e w10 ⟨rfl, hk10⟩; have HZ10 := Lib.hid hk10; clear hk10 cMay)
                        go_meet
                        exact ⟨rfl, HZ10.out⟩
                      rw [h1] at cMay
                      have cX := fun W => znum_any x t.length W
                      have cY := fun W => znum_any y t.length W
                      have cK := fun W => mbtw_any kd 0 2 W
                      by_cases h2 : 0 ≤ x ∧ x ≤ (t.length : Int)
                      case neg =>
                        have hGf : G = false := by rw [← HG.out]; exact decide_eq_false (fun h => h2 (hex.1 h).2.1)
                        rw [decide_eq_false h2] at cX
                        subst hGf
                        clear hex h1 h2 cY cK
                        go_wp2_with (first | (go_at_call 9; refine cMay.mono ?_; rintro e w10 ⟨rfl, hk10⟩; have HZ10 := Lib.hid hk10; obtain ⟨r0, r1⟩ := HKS.out _ (HKQ.out.trans hk10); clear hk10 cMay) | (go_at_call 16; refine (cX _).mono ?_; rintro e w' ⟨rfl, hw⟩; have hw2 := hw.symm; clear hw; subst hw2))
                        go_meet
                        exact ⟨rfl, HZ10.out⟩
                      rw [decide_eq_true h2] at cX
                      by_cases h3 : 0 ≤ y ∧ y ≤ (t.length : Int)
                      case neg =>
                        have hGf : G = false := by rw [← HG.out]; exact decide_eq_false (fun h => h3 (hex.1 h).2.2.1)
                        rw [decide_eq_false h3] at cY
                        subst hGf
                        clear hex h1 h2 h3 cK
                        go_wp2_with (first | (go_at_call 9; refine cMay.mono ?_; rintro e w10 ⟨rfl, hk10⟩; have HZ10 := Lib.hid hk10; obtain ⟨r0, r1⟩ := HKS.out _ (HKQ.out.trans hk10); clear hk10 cMay) | (go_at_call 16; (first | with_reducible refine (cX _).mono ?_ | with_reducible refine (cY _).mono ?_); rintro e w' ⟨rfl, hw⟩; have hw2 := hw.symm; clear hw; subst hw2))
                        go_meet
                        exact ⟨rfl, HZ10.out⟩
                      rw [decide_eq_true h3] at cY
                      have hGk : decide (0 ≤ kd ∧ kd ≤ 2) = G := by
                        rw [← HG.out]
                        exact decide_eq_decide.2 ⟨fun h => hex.2 ⟨h1, h2, h3, h⟩, fun h => (hex.1 h).2.2.2⟩
                      rw [hGk] at cK
                      clear hex h1 h2 h3 hGk
                      go_wp2_with (first | (go_at_call 9; refine cMay.mono ?_; rintro e w10 ⟨rfl, hk10⟩; have HZ10 := Lib.hid hk10; obtain ⟨r0, r1⟩ := HKS.out _ (HKQ.out.trans hk10); clear hk10 cMay) | (go_at_call 16; (first | with_reducible refine (cX _).mono ?_ | with_reducible refine (cY _).mono ?_); rintro e w' ⟨rfl, hw⟩; have hw2 := hw.symm; clear hw; subst hw2) | (go_at_call 17; refine (cK _).mono ?_; rintro e w' ⟨rfl, hw⟩; have hw2 := hw.symm; clear hw; subst hw2))
                      go_meet
                      exact ⟨rfl, HZ10.out⟩
                    case rest =>
                      obtain ⟨rfl, hk12⟩ := hcut
                      have HZW := Lib.hid hk12
                      have HGW := Lib.hid ((hk12.block g (heap_lt HGB.out) id).trans HGB.out)
                      have HZW2 := Lib.hid ((hk12.block zb (heap_lt HZB.out) id).trans HZB.out)
                      have hgz1 : ¬ g = zb := HGZ'.out
                      have hgz2 : ¬ zb = g := fun e => HGZ'.out e.symm
                      clear hk12
                      cases G with
                      | false =>
                        obtain ⟨rfl, rfl, rfl, rfl⟩ := HTD.out.2 (of_decide_eq_false HG.out)
                        obtain ⟨y0, y1, y2⟩ := rng_facts HGW.out
                        obtain ⟨z0, z1, z2⟩ := rng_facts HZW2.out
                        have v1 : decide ((t.length : Int) < 0) = false := decide_eq_false (by omega)
                        go_wp2_with (go_at_call 12; refine (r17num_any _ _).mono ?_; rintro e w' ⟨rfl, hw⟩; have hw2 := hw.symm; subst hw2)
                        go_roundw
                        case rel => exact ⟨kd + 1, by omega, by omega, by go_num, HKV7.out.trans (HKQ.out.trans HZW.out)⟩
                        case measure => simp [intOf]; omega
                      | true =>
                        have hgood := of_decide_eq_true HG.out
                        obtain ⟨hRT0, rfl, had, hdl⟩ := HTD.out.1 hgood
                        obtain ⟨hm, ⟨x0, x1⟩, ⟨y0, y1⟩, k0, k1'⟩ := hgood
                        obtain ⟨xx, rfl⟩ := Int.eq_ofNat_of_zero_le x0
                        obtain ⟨yy, rfl⟩ := Int.eq_ofNat_of_zero_le y0
                        rw [HT2.out] at hRT0 x1 y1 hdl
                        have HRP := Lib.hid (fun (W : World) (hW : Rn W (some ⟨rb, 0, none⟩) t.length t) => rbtw_yes (some ⟨rb, 0, none⟩) t.length cap t xx yy kd W hW (by omega) (by omega) HTl.out (by omega))
                        have hRT : btR (Rw.bt t xx yy kd) = rngV a d l := hRT0.symm
                        rw [hRT] at HRP
                        have hRd : Rn wc.drew (some ⟨rb, 0, none⟩) t.length t := HR7.out.kept (HKQ.out.trans HZW.out).drew (fun _ _ => id)
                        have cRp := HRP.out _ hRd
                        have KA := HKS.out _ (HKQ.out.trans HZW.out).drew
                        have v1 : decide ((t.length : Int) < d) = false := decide_eq_false (by omega)
                        have v2 : decide (d < a) = false := decide_eq_false (by omega)
                        clear hRT hRT0 hm x0 x1 y0 y1 k0 k1' hRd HRP
                        go_upto_region 21 with fail
                        go_cut [12] from 105 to 115 (fun s12 wx => s12 = .int .i64 0 ∧ wx.heap[zb]? = some (rngO a d l) ∧ wx.heap[g]? = some (rngO a d l) ∧ Kept (fun _ => False) wq wx)
                        case first =>
                          go_region_held3 (fun (w' : World) => w'.cell? (xad.add j) = some (.int .i64 (xx : Nat)) ∧ w'.cell? (xad.add k) = some (.int .i64 (yy : Nat)))
                            (first | with_reducible exact KC | with_reducible exact KA | with_reducible exact HKS.out _ (HKZ.out _ _ _))
                            ((go_at_call 18; refine cRp.mono ?_; rintro e w13 ⟨rfl, hk13⟩; have HK13 : Hid (Kept (fun _ => False) wq w13) := (HKQ.out.trans HZW.out).drew.trans hk13; have KC := HKS.out _ HK13.out; have h8 : w13.heap[zb]? = some (rngO 0 0 false) := (hk13.block zb (heap_lt HZW2.out) id).trans HZW2.out; have h9 : w13.heap[g]? = some (rngO a d l) := (hk13.block g (heap_lt HGW.out) id).trans HGW.out; have H8 := Lib.hid h8; have H9 := Lib.hid h9; have HKZ : Hid (∀ u0 u1 u2, Kept (fun _ => False) wq (((w13.setCell ⟨zb, 0, none⟩ u0).setCell ⟨zb, 1, none⟩ u1).setCell ⟨zb, 2, none⟩ u2)) := (fun u0 u1 u2 => HK13.out.fresh (Kept.three (Kept.refl (fun q => q = zb) w13) rfl _ _ _) (fun b hb e => HZQ.out b hb e)); obtain ⟨d0, d1, d2⟩ := rng_facts h8; obtain ⟨e0, e1, e2⟩ := rng_free h8; clear hk13 h8 h9))
                          go_wp2_with fail
                          go_meet
                          exact ⟨rfl, rng_three H8.out _ _ _, (heap_far HGZ'.out _).trans ((heap_far HGZ'.out _).trans ((heap_far HGZ'.out _).trans H9.out)), HKZ.out _ _ _⟩
                        case rest =>
                          obtain ⟨rfl, hz9, hg9, hk9⟩ := hcut
                          clear KA cRp
                          obtain ⟨y0, y1, y2⟩ := rng_facts hg9
                          obtain ⟨z0, z1, z2⟩ := rng_facts hz9
                          have HK9 := Lib.hid hk9
                          clear hk9 hz9 hg9
                          go_wp2_with (go_at_call 12; refine (r17num_any _ _).mono ?_; rintro e w' ⟨rfl, hw⟩; have hw2 := hw.symm; subst hw2)
                          go_roundw
                          case rel => exact ⟨kd + 1, by omega, by omega, by go_num, HKV7.out.trans HK9.out⟩
                          case measure => simp [intOf]; omega
                · obtain rfl : kd = 4 := by omega
                  go_wp2_with fail
                  go_roundw
                  case rel => exact ⟨k + 1, by omega, by omega, by go_num, HKK.out.trans HKV7.out⟩
                  case measure => simp [intOf]; omega
            · have hlast : (k = m ∧ k < 10) ∨ (k < m ∧ k = 10) ∨ (k = m ∧ k = 10) := by omega
              rcases hlast with ⟨h1, h2⟩ | ⟨h1, h2⟩ | ⟨h1, h2⟩
              case' inl | inr.inr => have b1 : decide (k < m) = false := by simp; omega
              case' inr.inl =>
                have b1 : decide (k < m) = true := by simp; omega
                have b2 : decide (k < 10) = false := by simp; omega
                have b3 : decide ((k : Int) < 10) = false := by simp; omega
              all_goals
                clear h1 h2
                go_wp2_with fail
                go_roundw
                case rel => exact ⟨j + 1, by omega, by omega, by go_num, HKV.out⟩
                case measure => simp [intOf]; omega
        · have hlast : (j = m ∧ j < 10) ∨ (j < m ∧ j = 10) ∨ (j = m ∧ j = 10) := by omega
          rcases hlast with ⟨h1, h2⟩ | ⟨h1, h2⟩ | ⟨h1, h2⟩
          case' inl | inr.inr => have b1 : decide (j < m) = false := by simp; omega
          case' inr.inl =>
            have b1 : decide (j < m) = true := by simp; omega
            have b2 : decide (j < 10) = false := by simp; omega
            have b3 : decide ((j : Int) < 10) = false := by simp; omega
          all_goals
            clear h1 h2
            go_wp2_with fail
            go_roundw
            case rel => exact ⟨i + 1, by omega, by omega, by go_num, HKW3.out.trans HKJ.out⟩
            case measure => simp [intOf]; omega
    · have hlast : (i = n0 ∧ i < 3) ∨ (i < n0 ∧ i = 3) ∨ (i = n0 ∧ i = 3) := by omega
      have cW := wakes17_any wi (HT1.out.kept HKW.out id id)
      rcases hlast with ⟨h1, h2⟩ | ⟨h1, h2⟩ | ⟨h1, h2⟩
      case' inl | inr.inr => have b1 : decide (i < n0) = false := by simp; omega
      case' inr.inl =>
        have b1 : decide (i < n0) = true := by simp; omega
        have b2 : decide (i < 3) = false := by simp; omega
        have b3 : decide ((i : Int) < 3) = false := by simp; omega
      all_goals
        clear h1 h2
        go_wp2_with (go_at_call 14; refine cW.mono ?_; rintro e w9 ⟨rfl, hk9⟩)
        go_ret
        exact ⟨rfl, (HK1.out.trans HKW.out).trans hk9⟩
end Go.Proofs.YtbofjefblhnkoaaGreatDoor
