/-
  THE LAWS' COMMON WALK: whatever an ask holds, and whichever keys: the program's motions are the reference's.
-/
import Derived.Test.YtnjknebhogdgfaaDoorLnM0
import Derived.Deep.RegionHeld3
import Derived.Deep.CutRange
set_option linter.unusedVariables false
namespace Go.Proofs.YtnjknebhogdgfaaDoor
open Go Go.RowKit

set_option maxRecDepth 100000 in
set_option maxHeartbeats 4000000 in
theorem moves_any (p : AskV) (K : Option Addr) (kn kc : Nat) (keys : List Int) (w : World) (hp : AskOk w p) (hK : Nums w K kn keys) (hkn : kn ≤ 100) (hT : Tabs w) :
    Calls Tryd.prog 20 #[.agg p.cells, .slice K kn kc] w fun e w' => e = .returned (.bool true) ∧ Kept (fun _ => False) w w' := by
  have hK0 : Hid (Kept (fun _ => False) w (w.alloc (.cells p.cells 28))) := (Kept.refl _ w).alloc _
  have hH0 : Hid (Held (w.alloc (.cells p.cells 28)) w.heap.size p K kn keys) :=
    ⟨heap_alloc_new w _, hp.kept hK0.out, hK.kept hK0.out (fun _ _ => id), hT.kept hK0.out id id⟩
  have cH := heavy10_any p (w.alloc (.cells p.cells 28)) hH0.out.ask
  clear hp hK hT
  obtain ⟨A, n0, c0, ss, xa, xb, xr, xc, xk, xn, xq⟩ := p
  unfold AskV.cells at *
  simp only at *
  go_enter Tryd.func20, Tryd.ntmps20
  go_wp2_with (go_at_call 21; refine cH.mono ?_; rintro e w1 ⟨⟨hv, rfl, hsm⟩, hk1⟩; have HS := Lib.hid hsm; have HK1 := Lib.hid (hK0.out.trans hk1); have HH := Lib.hid (hH0.out.kept hk1); clear hsm hk1 hH0 hK0 cH)
  · exact bodyPost_ret (results_tmp rfl _ _ _) rfl ⟨rfl, HK1.out⟩
  have hv0 : hv = false := by assumption
  subst hv0
  have hss : ∀ s ∈ ss, s.size ≤ 6000 := HS.out rfl
  have HSS := Lib.hid hss
  clear hss HS
  generalize hpb : w.heap.size = pb at HH ⊢
  have HPB := Lib.hid hpb
  clear hpb
  go_loopw [5] (fun v wr => ∃ i : Nat, i ≤ n0 ∧ i ≤ 4 ∧ v = .int .i64 i ∧ Kept (fun _ => False) w1 wr) (fun v _ => n0 - (intOf v).toNat)
  case atStart => exact ⟨0, Nat.zero_le _, Nat.zero_le _, rfl, Kept.refl _ _⟩
  case round =>
    obtain ⟨i, hi, hi4, rfl, hki⟩ := hrel
    obtain ⟨wi, hwi⟩ : ∃ wi, wi = wr := ⟨_, rfl⟩
    subst hwi
    have HKi := Lib.hid (HK1.out.trans hki)
    have HHi := Lib.hid (HH.out.kept hki)
    have HKW := Lib.hid hki
    clear hki
    have p0 : wi.cell? ⟨pb, 0, none⟩ = some (.slice A n0 c0) := HHi.out.pb.c 0
    by_cases hgo : i < n0 ∧ i < 4
    · obtain ⟨g1, g2⟩ := hgo
      obtain ⟨ad, s, rfl, hs, hsc, _⟩ := HHi.out.ask.ss.cell g1
      have hsz : s.size ≤ 6000 := HSS.out s (List.mem_of_getElem? hs)
      have hl := rs_len s
      clear hs
      obtain ⟨cap, w2, hcap, hcv, hk2, hlt2, hR⟩ := conv_rs s wi (by omega)
      generalize ht : rs s = t at *
      have HT2 := Lib.hid ht
      have HK2 := Lib.hid (HKi.out.trans hk2)
      have HKW2 := Lib.hid (HKW.out.trans hk2)
      have HH2 := Lib.hid (HHi.out.kept hk2)
      have HR := Lib.hid hR
      have q0 : w2.cell? ⟨pb, 0, none⟩ = some (.slice (some ad) n0 c0) := HH2.out.pb.c 0
      have q1 : w2.cell? ⟨pb, 1, none⟩ = some (.int .i64 xa) := HH2.out.pb.c 1
      have q2 : w2.cell? ⟨pb, 2, none⟩ = some (.int .i64 xb) := HH2.out.pb.c 2
      have q3 : w2.cell? ⟨pb, 3, none⟩ = some (.int .i64 xr) := HH2.out.pb.c 3
      have q4 : w2.cell? ⟨pb, 4, none⟩ = some (.int .i64 xc) := HH2.out.pb.c 4
      have q5 : w2.cell? ⟨pb, 5, none⟩ = some (.int .i64 xk) := HH2.out.pb.c 5
      have q6 : w2.cell? ⟨pb, 6, none⟩ = some (.int .i64 xn) := HH2.out.pb.c 6
      have q7 : w2.cell? ⟨pb, 7, none⟩ = some (.int .i64 xq) := HH2.out.pb.c 7
      clear hk2 hR ht hcap hlt2
      generalize hrb : wi.heap.size = rb at HR hcv
      clear hrb
      have cO := offsets_any ⟨some ad, n0, c0, ss, xa, xb, xr, xc, xk, xn, xq⟩ (some ⟨rb, 0, none⟩) t.length cap w2 HH2.out.ask.xa (by omega)
      unfold AskV.cells at cO
      simp only at cO
      have b1 : decide (i < n0) = true := by simp; omega
      have b2 : decide (i < 4) = true := by simp; omega
      have b3 : decide ((i : Int) < 4) = true := by simp; omega
      go_wp2_with (go_at_call 31; refine cO.mono ?_; rintro e w3 ⟨hk3, B, m, c', xs, rfl, hxs, hm15, hx64⟩; have HK3 := Lib.hid (HK2.out.trans hk3); have HKW3 := Lib.hid (HKW2.out.trans hk3); have HH3 := Lib.hid (HH2.out.kept hk3); have HR3 := Lib.hid (HR.out.kept hk3 (fun _ _ => id)); have HX3 := Lib.hid hxs; have HX64 := Lib.hid hx64; clear hk3 hxs hx64 q0 q1 q2 q3 q4 q5 q6 q7 cO hcv HK2 HH2 HR HKW2 p0 hsc)
      have HTl : Hid (t.length ≤ 6000) := by show _ ≤ _; omega
      go_loopw [9] (fun v wr => ∃ k : Nat, k ≤ kn ∧ v = .int .i64 k ∧ Kept (fun _ => False) w3 wr) (fun v _ => kn - (intOf v).toNat)
      case atStart => exact ⟨0, Nat.zero_le _, rfl, Kept.refl _ _⟩
      case round =>
        obtain ⟨k, hk, rfl, hkk⟩ := hrel
        obtain ⟨wk, hwk⟩ : ∃ wk, wk = wr := ⟨_, rfl⟩
        subst hwk
        have HK4 := Lib.hid (HK3.out.trans hkk)
        have HKW4 := Lib.hid (HKW3.out.trans hkk)
        have HKV4 := Lib.hid hkk
        have HH4 := Lib.hid (HH3.out.kept hkk)
        have HR4 := Lib.hid (HR3.out.kept hkk (fun _ _ => id))
        have HX4 := Lib.hid (HX3.out.kept hkk (fun _ _ => id))
        clear hkk
        by_cases hkn2 : k < kn
        · obtain ⟨ka, key, rfl, hkey, _⟩ := HH4.out.keys.cell hkn2
          have HKEY := Lib.hid hkey
          clear hkey
          have b4 : decide (k < kn) = true := by simp; omega
          go_wp2_with fail
          clear b4
          go_loopw [10] (fun v wq => ∃ j : Nat, j ≤ m ∧ v = .int .i64 j ∧ Kept (fun _ => False) wk wq) (fun v _ => m - (intOf v).toNat)
          case atStart => exact ⟨0, Nat.zero_le _, rfl, Kept.refl _ _⟩
          case round =>
            obtain ⟨j, hj, rfl, hkj⟩ := hrel
            obtain ⟨wj, hwj⟩ : ∃ wj, wj = wr := ⟨_, rfl⟩
            subst hwj
            have HKV5 := Lib.hid hkj
            have HH5 := Lib.hid (HH4.out.kept hkj)
            have HR5 := Lib.hid (HR4.out.kept hkj (fun _ _ => id))
            have HX5 := Lib.hid (HX4.out.kept hkj (fun _ _ => id))
            clear hkj
            by_cases hjm : j < m
            · obtain ⟨xa', x, rfl, hx, _⟩ := HX5.out.cell hjm
              have HXJ := Lib.hid hx
              clear hx
              have b5 : decide (j < m) = true := by simp; omega
              have q6 : wj.cell? ⟨pb, 6, none⟩ = some (.int .i64 xn) := HH5.out.pb.c 6
              go_wp2_with fail
              clear b5 q6
              have hcs : Hid (Nums (wj.alloc (.cells #[.int .i64 0, .int .i64 1, .int .i64 (2 + (j : Int) % 3), .int .i64 xn] 3)) (some ⟨wj.heap.size, 0, none⟩) 4 [0, 1, 2 + (j : Int) % 3, xn]) := nums_new wj [0, 1, 2 + (j : Int) % 3, xn] 3
              have hkc : Kept (fun _ => False) wj (wj.alloc (.cells #[.int .i64 0, .int .i64 1, .int .i64 (2 + (j : Int) % 3), .int .i64 xn] 3)) := (Kept.refl _ wj).alloc _
              have HKV6 := Lib.hid (HKV5.out.trans hkc)
              have HH6 := Lib.hid (HH5.out.kept hkc)
              have HR6 := Lib.hid (HR5.out.kept hkc (fun _ _ => id))
              have HX6 := Lib.hid (HX5.out.kept hkc (fun _ _ => id))
              clear hkc
              generalize wj.alloc (.cells #[.int .i64 0, .int .i64 1, .int .i64 (2 + (j : Int) % 3), .int .i64 xn] 3) = w6 at *
              generalize wj.heap.size = cb at *
              generalize ([0, 1, 2 + (j : Int) % 3, xn] : List Int) = cs at *
              go_loopw [12] (fun v wq => ∃ q : Nat, q ≤ 4 ∧ v = .int .i64 q ∧ Kept (fun _ => False) w6 wq) (fun v _ => 4 - (intOf v).toNat)
              case atStart => exact ⟨0, Nat.zero_le _, rfl, Kept.refl _ _⟩
              case round =>
                obtain ⟨q, hq, rfl, hkq⟩ := hrel
                obtain ⟨wq, hwq⟩ : ∃ wq, wq = wr := ⟨_, rfl⟩
                subst hwq
                by_cases hq4 : q < 4
                · obtain ⟨cad, cnt, he, hcnt, hcc⟩ := (hcs.out.kept hkq (fun _ _ => id)).cell hq4
                  injection he with he
                  subst he
                  have HCNT := Lib.hid hcnt
                  have HKV7 := Lib.hid hkq
                  have HH7 := Lib.hid (HH6.out.kept hkq)
                  have HR7 := Lib.hid (HR6.out.kept hkq (fun _ _ => id))
                  have HX7 := Lib.hid (HX6.out.kept hkq (fun _ _ => id))
                  clear hcnt hkq
                  have b7 : decide (q < 4) = true := by simp; omega
                  have b8 : decide ((q : Int) < 4) = true := by simp; omega
                  go_wp2_with fail
                  go_outline
                  have f1 : wq.cell? (xa'.add j) = some (.int .i64 x) := by
                    obtain ⟨ad1, e1, h1⟩ := HX7.out.2 j x HXJ.out
                    injection e1 with e1
                    subst e1
                    exact h1
                  have f2 : wq.cell? (ka.add k) = some (.int .i64 key) := by
                    obtain ⟨ad1, e1, h1⟩ := HH7.out.keys.2 k key HKEY.out
                    injection e1 with e1
                    subst e1
                    exact h1
                  rw [addr_add, Nat.zero_add] at hcc
                  have hq0 : (0 : Int) ≤ (q : Int) := by omega
                  have hq4i : (q : Int) < 4 := by omega
                  have hs9 : s.size ≤ 140737488351232 := by omega
                  have hTd : Tabs wq.drew := HH7.out.tabs
                  have hTa : Tabs (wq.drew.alloc zeroT) := hTd.kept ((Kept.refl (fun _ => False) wq.drew).alloc _) id id
                  have hka : Kept (fun _ => False) wq (wq.drew.alloc zeroT) := (Kept.refl (fun _ => False) wq).drew.alloc _
                  have g1 := cell_kept hka f1 id
                  have g2 := cell_kept hka f2 id
                  have g3 := cell_kept hka hcc id
                  go_cut [13, 14] from 64 to 80 (fun s13 s14 wx => ∃ (g : Nat) (X K' E : Int), s13 = .pointer (some ⟨g, 0, none⟩) ∧ s14 = .int .i64 E ∧ Told s x key cnt X K' E ∧ wq.heap.size ≤ g ∧ wx.heap[g]? = some (.cells #[.int .i64 X, .int .i64 K'] 42 (0, 0)) ∧ Kept (fun _ => False) wq wx)
                  case first =>
                    go_region_held3 (fun w' => w'.cell? (xa'.add j) = some (.int .i64 x) ∧ w'.cell? (ka.add k) = some (.int .i64 key) ∧ w'.cell? ⟨cb, q, none⟩ = some (.int .i64 cnt)) (first | exact ⟨f1, f2, hcc⟩ | exact ⟨cell_kept hk8 f1 id, cell_kept hk8 f2 id, cell_kept hk8 hcc id⟩ | exact ⟨cell_kept (hk8.alloc _) f1 id, cell_kept (hk8.alloc _) f2 id, cell_kept (hk8.alloc _) hcc id⟩ | exact ⟨g1, g2, g3⟩ | exact ⟨cell_kept hk8 g1 id, cell_kept hk8 g2 id, cell_kept hk8 g3 id⟩ | exact ⟨cell_kept (hk8.two _ _) f1 id, cell_kept (hk8.two _ _) f2 id, cell_kept (hk8.two _ _) hcc id⟩ | go_keep)
                      (first
                        | (go_at_call 29; refine (lmove_all2 s x key cnt _ hs9 hTd).mono ?_; rintro e w8 ⟨⟨X, K', E, rfl, htold⟩, hk8⟩)
                        | (go_at_call 29; refine (lmove_all2 s x key cnt _ hs9 hTa).mono ?_; rintro e w8 ⟨⟨X, K', E, rfl, htold⟩, hk8⟩; have h8 : w8.heap[wq.heap.size]? = some zeroT := (hk8.block _ (by simp) id).trans (heap_alloc_new wq.drew _); have d0 : w8.cell? ⟨wq.heap.size, 0, none⟩ = some (.int .i64 0) := (by rw [cell_of_row _ _ _ _ _ _ h8]; rfl); have d1 : w8.cell? ⟨wq.heap.size, 1, none⟩ = some (.int .i64 0) := (by rw [cell_of_row _ _ _ _ _ _ h8]; rfl); have e0 : w8.frozen? ⟨wq.heap.size, 0, none⟩ = false := frozen_of h8; have e1 : w8.frozen? ⟨wq.heap.size, 1, none⟩ = false := frozen_of h8))
                    · go_wp2_with fail
                      go_meet
                      exact ⟨w8.heap.size, X, K', E, rfl, rfl, htold, hk8.size, heap_alloc_new w8 _, ((Kept.refl (fun _ => False) wq).drew.trans hk8).alloc _⟩
                    · go_wp2_with fail
                      go_meet
                      exact ⟨wq.heap.size, X, K', E, rfl, rfl, htold, Nat.le_refl _, heap_two h8, (Kept.refl (fun _ => False) wq).drew.trans (hk8.two _ _)⟩
                  case rest =>
                    obtain ⟨g, X, K', E, rfl, rfl, htold, hg, hgb, hk9⟩ := hcut
                    obtain ⟨wb, hwb⟩ : ∃ wb, wb = wc := ⟨_, rfl⟩
                    subst hwb
                    clear g1 g2 g3 hka hTd hTa
                    have hkd : Kept (fun _ => False) wq (wb.alloc zeroT) := hk9.alloc _
                    have hTD : Tabs (wb.alloc zeroT) := HH7.out.tabs.kept hkd id id
                    have hgl := heap_lt hgb
                    have hD1 : Hid ((wb.alloc zeroT).heap[g]? = some (.cells #[.int .i64 X, .int .i64 K'] 42 (0, 0))) := (heap_alloc_old wb zeroT hgl).trans hgb
                    have hD2 : Hid ((wb.alloc zeroT).heap[wb.heap.size]? = some zeroT) := heap_alloc_new wb _
                    have hc0 : Hid ((wb.alloc zeroT).cell? ⟨g, 0, none⟩ = some (.int .i64 X)) := by show _ = _; rw [cell_of_row _ _ _ _ _ _ hD1.out]; rfl
                    have hc1 : Hid ((wb.alloc zeroT).cell? ⟨g, 1, none⟩ = some (.int .i64 K')) := by show _ = _; rw [cell_of_row _ _ _ _ _ _ hD1.out]; rfl
                    have hc2 : Hid ((wb.alloc zeroT).cell? ⟨wb.heap.size, 0, none⟩ = some (.int .i64 0)) := by show _ = _; rw [cell_of_row _ _ _ _ _ _ hD2.out]; rfl
                    have hc3 : Hid ((wb.alloc zeroT).cell? ⟨wb.heap.size, 1, none⟩ = some (.int .i64 0)) := by show _ = _; rw [cell_of_row _ _ _ _ _ _ hD2.out]; rfl
                    have HF1 := Lib.hid (cell_kept hkd f1 id)
                    have HF2 := Lib.hid (cell_kept hkd f2 id)
                    have HF3 := Lib.hid (cell_kept hkd hcc id)
                    have HN1 : Hid (¬ (xa'.add j).block = wb.heap.size) := by have h1 := World.block_lt_of_cell? wq _ f1; have h2 := hk9.size; show ¬ _; omega
                    have HN2 : Hid (¬ (ka.add k).block = wb.heap.size) := by have h1 := World.block_lt_of_cell? wq _ f2; have h2 := hk9.size; show ¬ _; omega
                    have HN3 : Hid (¬ cb = wb.heap.size) := by have h1 := World.block_lt_of_cell? wq _ hcc; have h2 := hk9.size; show ¬ _; simp only at h1; omega
                    have HWB : Hid (wq.heap.size ≤ wb.heap.size) := hk9.size
                    have HGN : Hid (g ≠ wb.heap.size) := by show g ≠ _; omega
                    have cMay := rmay_any s (wb.alloc zeroT) hs9 hTD
                    have HKD := Lib.hid hkd
                    have HTOLD := Lib.hid htold
                    clear hTD hgb hkd hk9 htold f1 f2 hcc hgl hg
                    by_cases hgood : Good s x key cnt
                    · have HG := Lib.hid hgood
                      obtain ⟨h1, ⟨h2, h2'⟩, h3, h4, h4'⟩ := hgood
                      obtain ⟨kk, rfl⟩ := Int.eq_ofNat_of_zero_le h2
                      obtain ⟨mm, rfl⟩ := Int.eq_ofNat_of_zero_le h4
                      rw [HT2.out] at h2'
                      rw [h1] at cMay
                      have H2 := Lib.hid (show (0 : Int) ≤ (kk : Int) ∧ (kk : Int) ≤ (t.length : Int) from ⟨h2, h2'⟩)
                      have H3 := Lib.hid h3
                      have H4 := Lib.hid (show (0 : Int) ≤ (mm : Int) ∧ (mm : Int) ≤ 999 from ⟨h4, h4'⟩)
                      clear h1 h2 h2' h3 h4 h4'
                      go_wp2_with (go_at_call 23; refine cMay.mono ?_; rintro e w10 ⟨rfl, hk10⟩; have a1 := cell_kept hk10 HF1.out id; have a2 := cell_kept hk10 HF2.out id; have HKM := Lib.hid hk10; have k0 := cell_kept hk10 hc0.out id; have k1 := cell_kept hk10 hc1.out id; have m0 := cell_kept hk10 hc2.out id; have m1 := cell_kept hk10 hc3.out id; clear hk10)
                      refine (znum_t H2.out _).mono ?_
                      rintro e w' ⟨rfl, rfl⟩
                      go_wp2_with (go_at_call 33; refine (line_t H3.out _).mono ?_; rintro e w11 ⟨rfl, hk11⟩; have a3 := cell_kept (HKM.out.trans hk11) HF3.out id; have a4 := cell_kept hk11 a1 id; have a5 := cell_kept hk11 a2 id; have HKL := Lib.hid (HKM.out.trans hk11); have l0 := cell_kept hk11 k0 id; have l1 := cell_kept hk11 k1 id; have n0 := cell_kept hk11 m0 id; have n1 := cell_kept hk11 m1 id; clear hk11 a1 a2 k0 k1 m0 m1)
                      refine (znum_t H4.out _).mono ?_
                      rintro e w' ⟨rfl, rfl⟩
                      go_wp2_with fail
                      obtain ⟨w11, hw11⟩ : ∃ w11, w11 = w' := ⟨_, rfl⟩
                      subst hw11
                      go_outline
                      have hK11 : Kept (fun _ => False) wq w11 := HKD.out.trans HKL.out
                      have hRd := HR7.out.kept hK11 (fun _ _ => id)
                      have hRe : Rn w11.drew (some ⟨rb, 0, none⟩) t.length t := hRd
                      have cR := rmove_told (c := cap) (X := X) (K := K') (E := E) w11.drew HT2.out hRe HTl.out HG.out HTOLD.out
                      clear hRd hRe
                      have h11 : w11.heap[wb.heap.size]? = some zeroT := (HKL.out.block _ (heap_lt hD2.out) id).trans hD2.out
                      have g11 : w11.heap[g]? = some (.cells #[.int .i64 X, .int .i64 K'] 42 (0, 0)) := (HKL.out.block _ (heap_lt hD1.out) id).trans hD1.out
                      have H11 := Lib.hid h11
                      have G11 := Lib.hid g11
                      have HK11 := Lib.hid hK11
                      clear h11 g11 hK11 l0 l1 n0 n1
                      have l11 := heap_lt H11.out
                      have lg11 := heap_lt G11.out
                      go_cut [15] from 107 to 123 (fun s15 wx => s15 = .int .i64 E ∧ wx.heap[wb.heap.size]? = some (.cells #[.int .i64 X, .int .i64 K'] 42 (0, 0)) ∧ wx.heap[g]? = some (.cells #[.int .i64 X, .int .i64 K'] 42 (0, 0)) ∧ Kept (fun _ => False) wq wx)
                      case first =>
                        go_region_held3 (fun w' => w'.cell? (xa'.add j) = some (.int .i64 (kk : Nat)) ∧ w'.cell? (ka.add k) = some (.int .i64 key) ∧ w'.cell? ⟨cb, q, none⟩ = some (.int .i64 (mm : Nat))) (first | exact ⟨a4, a5, a3⟩ | exact ⟨cell_kept hk12 a4 id, cell_kept hk12 a5 id, cell_kept hk12 a3 id⟩ | exact ⟨cell_kept (hk12.stored _ _ _) a4 HN1.out, cell_kept (hk12.stored _ _ _) a5 HN2.out, cell_kept (hk12.stored _ _ _) a3 HN3.out⟩ | go_keep)
                          ((go_at_call 34; refine cR.mono ?_; rintro e w12 ⟨rfl, hk12⟩; have h12 : w12.heap[wb.heap.size]? = some zeroT := (hk12.block _ l11 id).trans H11.out; have g12 : w12.heap[g]? = _ := (hk12.block _ lg11 id).trans G11.out; have d0 : w12.cell? ⟨wb.heap.size, 0, none⟩ = some (.int .i64 0) := (by rw [cell_of_row _ _ _ _ _ _ h12]; rfl); have d1 : w12.cell? ⟨wb.heap.size, 1, none⟩ = some (.int .i64 0) := (by rw [cell_of_row _ _ _ _ _ _ h12]; rfl); have e0 : w12.frozen? ⟨wb.heap.size, 0, none⟩ = false := frozen_of h12; have e1 : w12.frozen? ⟨wb.heap.size, 1, none⟩ = false := frozen_of h12))
                        go_wp2_with fail
                        go_meet
                        refine ⟨rfl, heap_two h12, (heap_far HGN.out _).trans ((heap_far HGN.out _).trans g12), HK11.out.fresh (Kept.stored ((Kept.refl (fun _ => False) w11).drew.trans hk12) _ _ _) (fun b hb e => ?_)⟩
                        have := HWB.out
                        omega
                      case rest =>
                        obtain ⟨rfl, ht13, hg13, hk13⟩ := hcut
                        have k0 : wc.cell? ⟨g, 0, none⟩ = some (.int .i64 X) := by rw [cell_of_row _ _ _ _ _ _ hg13]; rfl
                        have k1 : wc.cell? ⟨g, 1, none⟩ = some (.int .i64 K') := by rw [cell_of_row _ _ _ _ _ _ hg13]; rfl
                        have m0 : wc.cell? ⟨wb.heap.size, 0, none⟩ = some (.int .i64 X) := by rw [cell_of_row _ _ _ _ _ _ ht13]; rfl
                        have m1 : wc.cell? ⟨wb.heap.size, 1, none⟩ = some (.int .i64 K') := by rw [cell_of_row _ _ _ _ _ _ ht13]; rfl
                        have HK13 := Lib.hid hk13
                        clear hk13 ht13 hg13 cR a3 a4 a5 l11 lg11
                        go_wp2_with (go_at_call 26; refine (num_any _ _).mono ?_; rintro e w' ⟨rfl, rfl⟩)
                        exact ⟨⟨q + 1, by omega, by go_num, HKV7.out.trans HK13.out⟩, by simp [intOf]; omega⟩
                    · obtain ⟨rfl, rfl, rfl⟩ := HTOLD.out.2 hgood
                      have hbad : mayB s = false ∨ (mayB s = true ∧ ¬ (0 ≤ x ∧ x ≤ (t.length : Int))) ∨ (mayB s = true ∧ (0 ≤ x ∧ x ≤ (t.length : Int)) ∧ ¬ Rw.Line key) ∨ (mayB s = true ∧ (0 ≤ x ∧ x ≤ (t.length : Int)) ∧ Rw.Line key ∧ ¬ (0 ≤ cnt ∧ cnt ≤ 999)) := by
                        have hg' : ¬ (mayB s = true ∧ (0 ≤ x ∧ x ≤ (t.length : Int)) ∧ Rw.Line key ∧ 0 ≤ cnt ∧ cnt ≤ 999) := by
                          intro h
                          apply hgood
                          unfold Good
                          rw [HT2.out]
                          exact h
                        by_cases h1 : mayB s = true
                        · by_cases h2 : 0 ≤ x ∧ x ≤ (t.length : Int)
                          · by_cases h3 : Rw.Line key
                            · exact .inr (.inr (.inr ⟨h1, h2, h3, fun h => hg' ⟨h1, h2, h3, h⟩⟩))
                            · exact .inr (.inr (.inl ⟨h1, h2, h3⟩))
                          · exact .inr (.inl ⟨h1, h2⟩)
                        · exact .inl (by simpa using h1)
                      clear hgood HTOLD
                      rcases hbad with h1 | ⟨h1, h2⟩ | ⟨h1, h2, h3⟩ | ⟨h1, h2, h3, h4⟩
                      · rw [h1] at cMay
                        clear h1
                        go_wp2_with (go_at_call 23; refine cMay.mono ?_; rintro e w10 ⟨rfl, hk10⟩; have a1 := cell_kept hk10 HF1.out id; have a2 := cell_kept hk10 HF2.out id; have HKM := Lib.hid hk10; have k0 := cell_kept hk10 hc0.out id; have k1 := cell_kept hk10 hc1.out id; have m0 := cell_kept hk10 hc2.out id; have m1 := cell_kept hk10 hc3.out id; clear hk10)
                        refine (num_any _ _).mono ?_
                        rintro e w' ⟨rfl, rfl⟩
                        go_wp2_with fail
                        exact ⟨⟨q + 1, by omega, by go_num, HKV7.out.trans (HKD.out.trans HKM.out)⟩, by simp [intOf]; omega⟩
                      · rw [h1] at cMay
                        have H2 := Lib.hid h2
                        clear h1 h2
                        go_wp2_with (go_at_call 23; refine cMay.mono ?_; rintro e w10 ⟨rfl, hk10⟩; have a1 := cell_kept hk10 HF1.out id; have a2 := cell_kept hk10 HF2.out id; have HKM := Lib.hid hk10; have k0 := cell_kept hk10 hc0.out id; have k1 := cell_kept hk10 hc1.out id; have m0 := cell_kept hk10 hc2.out id; have m1 := cell_kept hk10 hc3.out id; clear hk10)
                        refine (znum_f H2.out _).mono ?_
                        rintro e w' ⟨rfl, rfl⟩
                        go_wp2_with fail
                        refine (num_any _ _).mono ?_
                        rintro e w' ⟨rfl, rfl⟩
                        go_wp2_with fail
                        exact ⟨⟨q + 1, by omega, by go_num, HKV7.out.trans (HKD.out.trans HKM.out)⟩, by simp [intOf]; omega⟩
                      · rw [h1] at cMay
                        have H2 := Lib.hid h2
                        have H3 := Lib.hid h3
                        clear h1 h2 h3
                        go_wp2_with (go_at_call 23; refine cMay.mono ?_; rintro e w10 ⟨rfl, hk10⟩; have a1 := cell_kept hk10 HF1.out id; have a2 := cell_kept hk10 HF2.out id; have HKM := Lib.hid hk10; have k0 := cell_kept hk10 hc0.out id; have k1 := cell_kept hk10 hc1.out id; have m0 := cell_kept hk10 hc2.out id; have m1 := cell_kept hk10 hc3.out id; clear hk10)
                        refine (znum_t H2.out _).mono ?_
                        rintro e w' ⟨rfl, rfl⟩
                        go_wp2_with (go_at_call 33; refine (line_f H3.out _).mono ?_; rintro e w11 ⟨rfl, hk11⟩; have a3 := cell_kept (HKM.out.trans hk11) HF3.out id; have a4 := cell_kept hk11 a1 id; have a5 := cell_kept hk11 a2 id; have HKL := Lib.hid (HKM.out.trans hk11); have l0 := cell_kept hk11 k0 id; have l1 := cell_kept hk11 k1 id; have n0 := cell_kept hk11 m0 id; have n1 := cell_kept hk11 m1 id; clear hk11 a1 a2 k0 k1 m0 m1)
                        refine (num_any _ _).mono ?_
                        rintro e w' ⟨rfl, rfl⟩
                        go_wp2_with fail
                        exact ⟨⟨q + 1, by omega, by go_num, HKV7.out.trans (HKD.out.trans HKL.out)⟩, by simp [intOf]; omega⟩
                      · rw [h1] at cMay
                        have H2 := Lib.hid h2
                        have H3 := Lib.hid h3
                        have H4 := Lib.hid h4
                        clear h1 h2 h3 h4
                        go_wp2_with (go_at_call 23; refine cMay.mono ?_; rintro e w10 ⟨rfl, hk10⟩; have a1 := cell_kept hk10 HF1.out id; have a2 := cell_kept hk10 HF2.out id; have HKM := Lib.hid hk10; have k0 := cell_kept hk10 hc0.out id; have k1 := cell_kept hk10 hc1.out id; have m0 := cell_kept hk10 hc2.out id; have m1 := cell_kept hk10 hc3.out id; clear hk10)
                        refine (znum_t H2.out _).mono ?_
                        rintro e w' ⟨rfl, rfl⟩
                        go_wp2_with (go_at_call 33; refine (line_t H3.out _).mono ?_; rintro e w11 ⟨rfl, hk11⟩; have a3 := cell_kept (HKM.out.trans hk11) HF3.out id; have a4 := cell_kept hk11 a1 id; have a5 := cell_kept hk11 a2 id; have HKL := Lib.hid (HKM.out.trans hk11); have l0 := cell_kept hk11 k0 id; have l1 := cell_kept hk11 k1 id; have n0 := cell_kept hk11 m0 id; have n1 := cell_kept hk11 m1 id; clear hk11 a1 a2 k0 k1 m0 m1)
                        refine (znum_f H4.out _).mono ?_
                        rintro e w' ⟨rfl, rfl⟩
                        go_wp2_with fail
                        refine (num_any _ _).mono ?_
                        rintro e w' ⟨rfl, rfl⟩
                        go_wp2_with fail
                        exact ⟨⟨q + 1, by omega, by go_num, HKV7.out.trans (HKD.out.trans HKL.out)⟩, by simp [intOf]; omega⟩
                · obtain rfl : q = 4 := by omega
                  go_wp2_with fail
                  go_roundw
                  case rel => exact ⟨j + 1, by omega, by go_num, HKV6.out.trans hkq⟩
                  case measure => simp [intOf]; omega
            · have b5 : decide (j < m) = false := by simp; omega
              go_wp2_with fail
              go_roundw
              case rel => exact ⟨k + 1, by omega, by go_num, HKV4.out.trans HKV5.out⟩
              case measure => simp [intOf]; omega
        · have b4 : decide (k < kn) = false := by simp; omega
          go_wp2_with fail
          go_roundw
          case rel => exact ⟨i + 1, by omega, by omega, by go_num, HKW4.out⟩
          case measure => simp [intOf]; omega
    · have hlast : (i = n0 ∧ i < 4) ∨ (i < n0 ∧ i = 4) ∨ (i = n0 ∧ i = 4) := by omega
      have cW := wakes_any wi HHi.out.tabs
      rcases hlast with ⟨h1, h2⟩ | ⟨h1, h2⟩ | ⟨h1, h2⟩
      case' inl | inr.inr => have b1 : decide (i < n0) = false := by simp; omega
      case' inr.inl =>
        have b1 : decide (i < n0) = true := by simp; omega
        have b2 : decide (i < 4) = false := by simp; omega
        have b3 : decide ((i : Int) < 4) = false := by simp; omega
      all_goals
        clear h1 h2
        go_wp2_with (go_at_call 27; refine cW.mono ?_; rintro e w9 ⟨rfl, hk9⟩)
        go_ret
        exact ⟨rfl, HKi.out.trans hk9⟩
end Go.Proofs.YtnjknebhogdgfaaDoor
