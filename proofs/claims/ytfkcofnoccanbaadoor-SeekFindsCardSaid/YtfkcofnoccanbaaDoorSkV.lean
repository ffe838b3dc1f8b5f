/-
  THE LAW SeekFinds, walked.
-/
import Derived.Test.YtfkcofnoccanbaaDoorSkA
set_option linter.unusedVariables false
namespace Go.Proofs.YtfkcofnoccanbaaDoor
open Go Go.RowKit

set_option maxRecDepth 100000 in
set_option maxHeartbeats 2000000 in
theorem seekFinds_any (p : AskV) (w : World) (hp : AskOk w p) (hT : Tabs w) : Calls Tryd.prog 3 #[.agg p.cells] w fun e w' => e = .returned (.bool true) ∧ Kept (fun _ => False) w w' := by
  obtain ⟨i0, hi0, hz0, hz1, hz2⟩ := info_parts info_int
  have hK0 : Hid (Kept (fun _ => False) w (w.alloc (.cells p.cells 28))) := (Kept.refl _ w).alloc _
  have hH0 : Hid (Held (w.alloc (.cells p.cells 28)) w.heap.size p) := ⟨heap_alloc_new w _, hp.kept hK0.out, hT.kept hK0.out id id⟩
  have cH := heavy10_any p (w.alloc (.cells p.cells 28)) hH0.out.ask
  clear hp hT
  obtain ⟨A, n0, c0, ss, xa, xb, xr, xc, xk, xn, xq⟩ := p
  unfold AskV.cells at *
  simp only at *
  go_enter Tryd.func3, Tryd.ntmps3
  go_wp2_with (go_at_call 7; refine cH.mono ?_; rintro e w1 ⟨⟨hv, rfl, hsm⟩, hk1⟩; have HS := Lib.hid hsm; have HK1 := Lib.hid (hK0.out.trans hk1); have HH := Lib.hid (hH0.out.kept hk1); have q5 : w1.cell? ⟨w.heap.size, 5, none⟩ = some (.int .i64 xk) := HH.out.pb.c 5; clear hsm hk1 hH0 hK0 cH)
  · exact bodyPost_ret (results_tmp rfl _ _ _) rfl ⟨rfl, HK1.out⟩
  have hv0 : hv = false := by assumption
  subst hv0
  have hss : ∀ s ∈ ss, s.size ≤ 6000 := HS.out rfl
  have HSS := Lib.hid hss
  clear hss HS q5
  generalize hpb : w.heap.size = pb at HH ⊢
  clear hpb
  have hkw : Kept (fun _ => False) w1 (w1.alloc (.cells #[.int .i64 102, .int .i64 70, .int .i64 116, .int .i64 84, .int .i64 xk] 3)) := (Kept.refl _ w1).alloc _
  have HKEYS : Hid (Nums (w1.alloc (.cells #[.int .i64 102, .int .i64 70, .int .i64 116, .int .i64 84, .int .i64 xk] 3)) (some ⟨w1.heap.size, 0, none⟩) 5 [102, 70, 116, 84, xk]) := nums_new w1 [102, 70, 116, 84, xk] 3
  have HKA := Lib.hid (HK1.out.trans hkw)
  have HHA := Lib.hid (HH.out.kept hkw)
  clear hkw HK1 HH
  generalize w1.alloc (.cells #[.int .i64 102, .int .i64 70, .int .i64 116, .int .i64 84, .int .i64 xk] 3) = wA at *
  generalize w1.heap.size = kb at *
  generalize ([102, 70, 116, 84, xk] : List Int) = keys at *
  go_loopw [4] (fun v wr => ∃ i : Nat, i ≤ n0 ∧ i ≤ 4 ∧ v = .int .i64 i ∧ Kept (fun _ => False) wA wr) (fun v _ => n0 - (intOf v).toNat)
  case atStart => exact ⟨0, Nat.zero_le _, Nat.zero_le _, rfl, Kept.refl _ _⟩
  case round =>
    obtain ⟨i, hi, hi4, rfl, hki⟩ := hrel
    obtain ⟨wi, hwi⟩ : ∃ wi, wi = wr := ⟨_, rfl⟩
    subst hwi
    have HKi := Lib.hid (HKA.out.trans hki)
    have HHi := Lib.hid (HHA.out.kept hki)
    have HKW := Lib.hid hki
    have HYi := Lib.hid (HKEYS.out.kept hki (fun _ _ => id))
    clear hki
    have p0 : wi.cell? ⟨pb, 0, none⟩ = some (.slice A n0 c0) := HHi.out.pb.c 0
    by_cases hgo : i < n0 ∧ i < 4
    · obtain ⟨g1, g2⟩ := hgo
      obtain ⟨ad, s, rfl, hs, hsc, _⟩ := HHi.out.ask.ss.cell g1
      have hsz : s.size ≤ 6000 := HSS.out s (List.mem_of_getElem? hs)
      have hl := rs_len s
      clear hs
      obtain ⟨cap, w2, hcap, hcv, hk2, hlt2, hR⟩ := conv_rs s wi (by omega)
      generalize ht : rs s = t at *
      have HT2 := Lib.hid ht
      have HK2 := Lib.hid (HKi.out.trans hk2)
      have HKW2 := Lib.hid (HKW.out.trans hk2)
      have HH2 := Lib.hid (HHi.out.kept hk2)
      have HY2 := Lib.hid (HYi.out.kept hk2 (fun _ _ => id))
      have HR := Lib.hid hR
      have q0 : w2.cell? ⟨pb, 0, none⟩ = some (.slice (some ad) n0 c0) := HH2.out.pb.c 0
      have q1 : w2.cell? ⟨pb, 1, none⟩ = some (.int .i64 xa) := HH2.out.pb.c 1
      have q2 : w2.cell? ⟨pb, 2, none⟩ = some (.int .i64 xb) := HH2.out.pb.c 2
      have q3 : w2.cell? ⟨pb, 3, none⟩ = some (.int .i64 xr) := HH2.out.pb.c 3
      have q4 : w2.cell? ⟨pb, 4, none⟩ = some (.int .i64 xc) := HH2.out.pb.c 4
      have q5 : w2.cell? ⟨pb, 5, none⟩ = some (.int .i64 xk) := HH2.out.pb.c 5
      have q6 : w2.cell? ⟨pb, 6, none⟩ = some (.int .i64 xn) := HH2.out.pb.c 6
      have q7 : w2.cell? ⟨pb, 7, none⟩ = some (.int .i64 xq) := HH2.out.pb.c 7
      clear hk2 hR ht hcap hlt2
      generalize hrb : wi.heap.size = rb at HR hcv
      clear hrb
      have cO := offsets_any ⟨some ad, n0, c0, ss, xa, xb, xr, xc, xk, xn, xq⟩ (some ⟨rb, 0, none⟩) t.length cap w2 HH2.out.ask.xa (by omega)
      unfold AskV.cells at cO
      simp only at cO
      have b1 : decide (i < n0) = true := by simp; omega
      have b2 : decide (i < 4) = true := by simp; omega
      have b3 : decide ((i : Int) < 4) = true := by simp; omega
      go_upto_if 55 with (go_at_call 8; refine cO.mono ?_; rintro e w3 ⟨hk3, B, m, c', xs, rfl, hxs, hm15, hx64⟩; have HK3 := Lib.hid (HK2.out.trans hk3); have HKW3 := Lib.hid (HKW2.out.trans hk3); have HH3 := Lib.hid (HH2.out.kept hk3); have HY3 := Lib.hid (HY2.out.kept hk3 (fun _ _ => id)); have HR3 := Lib.hid (HR.out.kept hk3 (fun _ _ => id)); have HX3 := Lib.hid hxs; have r7 : w3.cell? ⟨pb, 7, none⟩ = some (.int .i64 xq) := cell_kept hk3 q7 id; clear hk3 hxs hx64 q0 q1 q2 q3 q4 q5 q6 q7 cO hcv HK2 HH2 HR HKW2 HY2 p0 hsc)
      have hO := World.ownsRow_lit (base := w3.heap.size) (e := 3) (size := 1) w3 #[.int .i64 xq, .int .i64 97, .int .i64 32, .int .i64 10] 4 (Nat.le_refl _) (by decide) rfl
      have hk4 : Kept (fun _ => False) w3 (w3.alloc (.cells #[.int .i64 xq, .int .i64 97, .int .i64 32, .int .i64 10] 3)) := (Kept.refl _ w3).alloc _
      have HN4 : Hid (Nums (w3.alloc (.cells #[.int .i64 xq, .int .i64 97, .int .i64 32, .int .i64 10] 3)) (some ⟨w3.heap.size, 0, none⟩) 4 [xq, 97, 32, 10]) := nums_new w3 [xq, 97, 32, 10] 3
      have hsz4 : (w3.alloc (.cells #[.int .i64 xq, .int .i64 97, .int .i64 32, .int .i64 10] 3)).heap.size = w3.heap.size + 1 := by simp
      have HSZ := Lib.hid hsz4
      have HK4 := Lib.hid hk4
      have HR4 := Lib.hid (HR3.out.kept hk4 (fun _ _ => id))
      clear r7 hk4 hsz4
      generalize w3.alloc (.cells #[.int .i64 xq, .int .i64 97, .int .i64 32, .int .i64 10] 3) = w4 at *
      have HTl : Hid (t.length ≤ 6000) := by show _ ≤ _; omega
      go_cut [8] from 53 to 65 (fun s8 wx => ∃ A8 n8 c8 ys, s8 = .slice A8 n8 c8 ∧ Nums wx A8 n8 ys ∧ n8 ≤ 5 ∧ Kept (fun _ => False) w3 wx)
      case first =>
        have hO1 : w4.ownsRow w3.heap.size 3 1 (.slice (some ⟨w3.heap.size, 0, none⟩) 4 4) 4 ([xq, 97, 32, 10].map (Value.int .i64)) := hO
        clear hO
        by_cases h0 : 0 < t.length
        · obtain ⟨y, hy⟩ : ∃ y, t[t.length / 2]? = some y := ⟨_, List.getElem?_eq_getElem (by omega)⟩
          have y1 := HR4.out.at_ hy
          have hry : -2147483648 ≤ y ∧ y ≤ 2147483647 := rs_i32 (s := s) (by rw [HT2.out]; exact List.mem_of_getElem? hy)
          obtain ⟨ry1, ry2⟩ := hry
          have d1 : decide (0 < t.length) = true := by simp; omega
          have d2 : decide ((0 : Int) < (t.length : Int)) = true := by simp; omega
          clear hy
          go_wp2_with (at_builtin; refine wpList_append_own _ rfl _ _ 30 rfl w3.heap.size 3 i0 (.int .i64 0) 1 8 Tryd.underlying30 hi0 hz0 hz1 hz2 rfl (by decide) _ _ _ rfl (hO1.alloc _) ⟨_, 0, none⟩ 1 1 [.int .i64 y] rfl rfl ?c1 ?c2 ?c3 ?c4 ?c5 ?_)
          case c1 =>
            intro j u hj
            match j, hj with
            | 0, hj => simp at hj; subst hj; simp [Addr.add]
          case c2 => intro u hu; simp at hu; subst hu; rfl
          case c3 => unfold maxLen; omega
          case c4 => omega
          case c5 => have := HSZ.out; simp; omega
          intro v' w5 hown' hgrow _
          obtain ⟨A8, c8, rfl, hN, hc8, _⟩ := owned_nums (xs := [xq, 97, 32, 10, y]) hown' rfl
          have hK5 := Kept.grew (HK4.out.alloc (.cells #[.int .i64 y] 3)) hgrow (fun q hq => (hO1.lt q hq).1)
          have HN := Lib.hid hN
          have HK5 := Lib.hid hK5
          clear hown' hgrow hN hK5 hO1
          go_wp2_with fail
          go_meet
          case rel => exact ⟨A8, 5, c8, _, rfl, HN.out, by decide, HK5.out⟩
        · have d1 : decide (0 < t.length) = false := decide_eq_false h0
          have d2 : decide ((0 : Int) < (t.length : Int)) = false := decide_eq_false (by omega)
          clear hO1
          go_wp2_with fail
          go_meet
          case rel => exact ⟨some ⟨w3.heap.size, 0, none⟩, 4, 4, _, rfl, HN4.out, by decide, HK4.out⟩
      case rest =>
        obtain ⟨A8, n8, c8, ys, rfl, hN8, hn8, hk8⟩ := hcut
        obtain ⟨wd, hwd⟩ : ∃ wd, wd = wc := ⟨_, rfl⟩
        subst hwd
        have HK5 := Lib.hid (HK3.out.trans hk8)
        have HKW5 := Lib.hid (HKW3.out.trans hk8)
        have HH5 := Lib.hid (HH3.out.kept hk8)
        have HY5 := Lib.hid (HY3.out.kept hk8 (fun _ _ => id))
        have HR5 := Lib.hid (HR3.out.kept hk8 (fun _ _ => id))
        have HX5 := Lib.hid (HX3.out.kept hk8 (fun _ _ => id))
        have HZ5 := Lib.hid hN8
        clear hk8 hN8 hO HK3 HKW3 HH3 HY3 HR3 HX3 HK4 HR4 HSZ
        go_wp2_with fail
        clear HN4
        have hn8' : n8 ≤ 5 := hn8
        go_loopw [9] (fun v wr => ∃ j : Nat, j ≤ m ∧ v = .int .i64 j ∧ Kept (fun _ => False) wd wr) (fun v _ => m - (intOf v).toNat)
        case atStart => exact ⟨0, Nat.zero_le _, rfl, Kept.refl _ _⟩
        case round =>
          obtain ⟨j, hj, rfl, hkj⟩ := hrel
          obtain ⟨wj, hwj⟩ : ∃ wj, wj = wr := ⟨_, rfl⟩
          subst hwj
          have HKJ := Lib.hid hkj
          have HHj := Lib.hid (HH5.out.kept hkj)
          have HYj := Lib.hid (HY5.out.kept hkj (fun _ _ => id))
          have HRj := Lib.hid (HR5.out.kept hkj (fun _ _ => id))
          have HXj := Lib.hid (HX5.out.kept hkj (fun _ _ => id))
          have HZj := Lib.hid (HZ5.out.kept hkj (fun _ _ => id))
          clear hkj
          by_cases hjm : j < m
          · obtain ⟨xad, x, rfl, hx, _⟩ := HXj.out.cell hjm
            have HXJ := Lib.hid hx
            clear hx
            have b5 : decide (j < m) = true := by simp; omega
            go_wp2_with fail
            clear b5
            go_loopw [10] (fun v wr => ∃ k : Nat, k ≤ 5 ∧ v = .int .i64 k ∧ Kept (fun _ => False) wj wr) (fun v _ => 5 - (intOf v).toNat)
            case atStart => exact ⟨0, Nat.zero_le _, rfl, Kept.refl _ _⟩
            case round =>
              obtain ⟨k, hk, rfl, hkk⟩ := hrel
              obtain ⟨wk, hwk⟩ : ∃ wk, wk = wr := ⟨_, rfl⟩
              subst hwk
              have HKK := Lib.hid hkk
              have HHk := Lib.hid (HHj.out.kept hkk)
              have HYk := Lib.hid (HYj.out.kept hkk (fun _ _ => id))
              have HRk := Lib.hid (HRj.out.kept hkk (fun _ _ => id))
              have HXk := Lib.hid (HXj.out.kept hkk (fun _ _ => id))
              have HZk := Lib.hid (HZj.out.kept hkk (fun _ _ => id))
              clear hkk
              by_cases hk5 : k < 5
              · obtain ⟨kad, key, he, hkey, _⟩ := HYk.out.cell hk5
                have HKEY := Lib.hid hkey
                clear hkey he
                have b6 : decide (k < 5) = true := by simp; omega
                have b7 : decide ((k : Int) < 5) = true := by simp; omega
                go_wp2_with fail
                clear b6 b7
                go_loopw [11] (fun v wr => ∃ q : Nat, q ≤ n8 ∧ v = .int .i64 q ∧ Kept (fun _ => False) wk wr) (fun v _ => n8 - (intOf v).toNat)
                case atStart => exact ⟨0, Nat.zero_le _, rfl, Kept.refl _ _⟩
                case round =>
                  obtain ⟨q, hq, rfl, hkq⟩ := hrel
                  obtain ⟨wq, hwq⟩ : ∃ wq, wq = wr := ⟨_, rfl⟩
                  subst hwq
                  have HKV7 := Lib.hid hkq
                  have HHq := Lib.hid (HHk.out.kept hkq)
                  have HYq := Lib.hid (HYk.out.kept hkq (fun _ _ => id))
                  have HRq := Lib.hid (HRk.out.kept hkq (fun _ _ => id))
                  have HXq := Lib.hid (HXk.out.kept hkq (fun _ _ => id))
                  have HZq := Lib.hid (HZk.out.kept hkq (fun _ _ => id))
                  clear hkq
                  by_cases hqn : q < n8
                  · obtain ⟨yad, y, rfl, hy, hyc⟩ := HZq.out.cell hqn
                    clear hy
                    have f1 : wq.cell? (xad.add j) = some (.int .i64 x) := by
                      obtain ⟨ad1, e1, h1⟩ := HXq.out.2 j x HXJ.out
                      injection e1 with e1
                      subst e1
                      exact h1
                    have f2 : wq.cell? ⟨kb, k, none⟩ = some (.int .i64 key) := by
                      obtain ⟨ad1, e1, h1⟩ := HYq.out.2 k key HKEY.out
                      injection e1 with e1
                      subst e1
                      rwa [addr_add, Nat.zero_add] at h1
                    have b8 : decide (q < n8) = true := by simp; omega
                    go_wp2_with fail
                    go_outline
                    obtain ⟨cnt, hcnt⟩ : ∃ cnt : Nat, 1 + ((j : Int) + (q : Int)) % 3 = (cnt : Int) := ⟨1 + (j + q) % 3, by omega⟩
                    have hc1 : 1 ≤ cnt := by omega
                    have hc2 : cnt ≤ 999 := by omega
                    simp only [hcnt]
                    clear hcnt
                    have hTe := HHq.out.tabs
                    have hTd : Tabs wq.drew := hTe
                    have cF := find_all s x key y cnt wq.drew (by omega) hTd hc1 hc2
                    have t1 : (0 : Int) ≤ (k : Int) := by omega
                    have t2 : (k : Int) < 5 := by omega
                    clear hTe hTd
                    go_region_held3 (fun w' => w'.cell? (xad.add j) = some (.int .i64 x) ∧ w'.cell? ⟨kb, k, none⟩ = some (.int .i64 key) ∧ w'.cell? (yad.add q) = some (.int .i64 y)) (first | exact ⟨f1, f2, hyc⟩ | exact ⟨cell_kept hk8 f1 id, cell_kept hk8 f2 id, cell_kept hk8 hyc id⟩ | go_keep)
                      ((go_at_call 9; refine cF.mono ?_; rintro e w8 ⟨⟨X, E, rfl, htold⟩, hk8⟩))
                    have HKV8 := Lib.hid ((Kept.refl (fun _ => False) wq).drew.trans hk8)
                    have z1 := cell_kept HKV8.out f1 id
                    have z2 := cell_kept HKV8.out f2 id
                    have z3 := cell_kept HKV8.out hyc id
                    have HR8 := Lib.hid (HRq.out.kept HKV8.out (fun _ _ => id))
                    have cMay := rmay_any s w8 (by omega) (HHq.out.tabs.kept HKV8.out id id)
                    have HTOLD := Lib.hid htold
                    clear htold hk8 f1 f2 hyc cF
                    by_cases hgood : Good s x key
                    · have HG := Lib.hid hgood
                      obtain ⟨h1, ⟨h2, h2'⟩, h3⟩ := hgood
                      obtain ⟨kk, rfl⟩ := Int.eq_ofNat_of_zero_le h2
                      rw [HT2.out] at h2'
                      rw [h1] at cMay
                      have H2 := Lib.hid (show (0 : Int) ≤ (kk : Int) ∧ (kk : Int) ≤ (t.length : Int) from ⟨h2, h2'⟩)
                      have H3 := Lib.hid h3
                      clear h1 h2 h2' h3
                      go_wp2_with (go_at_call 10; refine cMay.mono ?_; rintro e w10 ⟨rfl, hk10⟩; have a1 := cell_kept hk10 z1 id; have a2 := cell_kept hk10 z2 id; have a3 := cell_kept hk10 z3 id; have HKM := Lib.hid hk10; clear hk10 z1 z2 z3)
                      refine (znum_t H2.out _).mono ?_
                      rintro e w' ⟨rfl, rfl⟩
                      go_wp2_with (go_at_call 12; refine (seek_t H3.out _).mono ?_; rintro e w11 ⟨rfl, hk11⟩; have l1 := cell_kept hk11 a1 id; have l2 := cell_kept hk11 a2 id; have l3 := cell_kept hk11 a3 id; have HKL := Lib.hid (HKM.out.trans hk11); clear hk11 a1 a2 a3)
                      have hK11 : Kept (fun _ => False) wq w11 := HKV8.out.trans HKL.out
                      have hRd := HR8.out.kept HKL.out (fun _ _ => id)
                      have hRe : Rn w11.drew (some ⟨rb, 0, none⟩) t.length t := hRd
                      have cR := rfind_told (c := cap) (X := X) (E := E) w11.drew HT2.out hRe HTl.out HG.out hc1 hc2 HTOLD.out
                      have HK11 := Lib.hid hK11
                      clear hRd hRe hK11
                      go_region_held3 (fun w' => w'.cell? (xad.add j) = some (.int .i64 (kk : Nat)) ∧ w'.cell? ⟨kb, k, none⟩ = some (.int .i64 key) ∧ w'.cell? (yad.add q) = some (.int .i64 y)) (first | exact ⟨l1, l2, l3⟩ | go_keep)
                        ((go_at_call 13; refine cR.mono ?_; rintro e w12 ⟨rfl, rfl⟩))
                      clear l1 l2 l3 cR t1 t2
                      go_wp2_with (go_at_call 14; refine (num_any _ _).mono ?_; rintro e w' ⟨rfl, rfl⟩)
                      exact ⟨⟨q + 1, by omega, by go_num, HKV7.out.trans HK11.out.drew⟩, by simp [intOf]; omega⟩
                    · obtain ⟨rfl, rfl⟩ := HTOLD.out.2 hgood
                      have hbad : mayB s = false ∨ (mayB s = true ∧ ¬ (0 ≤ x ∧ x ≤ (t.length : Int))) ∨ (mayB s = true ∧ (0 ≤ x ∧ x ≤ (t.length : Int)) ∧ ¬ Rw.Seek key) := by
                        have hg' : ¬ (mayB s = true ∧ (0 ≤ x ∧ x ≤ (t.length : Int)) ∧ Rw.Seek key) := by
                          intro h
                          apply hgood
                          unfold Good
                          rw [HT2.out]
                          exact h
                        by_cases h1 : mayB s = true
                        · by_cases h2 : 0 ≤ x ∧ x ≤ (t.length : Int)
                          · exact .inr (.inr ⟨h1, h2, fun h => hg' ⟨h1, h2, h⟩⟩)
                          · exact .inr (.inl ⟨h1, h2⟩)
                        · exact .inl (by simpa using h1)
                      clear hgood HTOLD t1 t2
                      rcases hbad with h1 | ⟨h1, h2⟩ | ⟨h1, h2, h3⟩
                      · rw [h1] at cMay
                        clear h1
                        go_wp2_with (go_at_call 10; refine cMay.mono ?_; rintro e w10 ⟨rfl, hk10⟩; have a1 := cell_kept hk10 z1 id; have a2 := cell_kept hk10 z2 id; have a3 := cell_kept hk10 z3 id; have HKM := Lib.hid hk10; clear hk10 z1 z2 z3)
                        refine (num_any _ _).mono ?_
                        rintro e w' ⟨rfl, rfl⟩
                        go_wp2_with fail
                        exact ⟨⟨q + 1, by omega, by go_num, HKV7.out.trans (HKV8.out.trans HKM.out)⟩, by simp [intOf]; omega⟩
                      · rw [h1] at cMay
                        have H2 := Lib.hid h2
                        clear h1 h2
                        go_wp2_with (go_at_call 10; refine cMay.mono ?_; rintro e w10 ⟨rfl, hk10⟩; have a1 := cell_kept hk10 z1 id; have a2 := cell_kept hk10 z2 id; have a3 := cell_kept hk10 z3 id; have HKM := Lib.hid hk10; clear hk10 z1 z2 z3)
                        refine (znum_f H2.out _).mono ?_
                        rintro e w' ⟨rfl, rfl⟩
                        go_wp2_with fail
                        refine (num_any _ _).mono ?_
                        rintro e w' ⟨rfl, rfl⟩
                        go_wp2_with fail
                        exact ⟨⟨q + 1, by omega, by go_num, HKV7.out.trans (HKV8.out.trans HKM.out)⟩, by simp [intOf]; omega⟩
                      · rw [h1] at cMay
                        have H2 := Lib.hid h2
                        have H3 := Lib.hid h3
                        clear h1 h2 h3
                        go_wp2_with (go_at_call 10; refine cMay.mono ?_; rintro e w10 ⟨rfl, hk10⟩; have a1 := cell_kept hk10 z1 id; have a2 := cell_kept hk10 z2 id; have a3 := cell_kept hk10 z3 id; have HKM := Lib.hid hk10; clear hk10 z1 z2 z3)
                        refine (znum_t H2.out _).mono ?_
                        rintro e w' ⟨rfl, rfl⟩
                        go_wp2_with (go_at_call 12; refine (seek_f H3.out _).mono ?_; rintro e w11 ⟨rfl, hk11⟩; have l1 := cell_kept hk11 a1 id; have l2 := cell_kept hk11 a2 id; have l3 := cell_kept hk11 a3 id; have HKL := Lib.hid (HKM.out.trans hk11); clear hk11 a1 a2 a3)
                        refine (num_any _ _).mono ?_
                        rintro e w' ⟨rfl, rfl⟩
                        go_wp2_with fail
                        exact ⟨⟨q + 1, by omega, by go_num, HKV7.out.trans (HKV8.out.trans HKL.out)⟩, by simp [intOf]; omega⟩
                  · have b8 : decide (q < n8) = false := by simp; omega
                    go_wp2_with fail
                    go_roundw
                    case rel => exact ⟨k + 1, by omega, by go_num, HKK.out.trans HKV7.out⟩
                    case measure => simp [intOf]; omega
              · obtain rfl : k = 5 := by omega
                go_wp2_with fail
                go_roundw
                case rel => exact ⟨j + 1, by omega, by go_num, HKJ.out.trans HKK.out⟩
                case measure => simp [intOf]; omega
          · have b5 : decide (j < m) = false := by simp; omega
            have cN := find_no s 0 102 97 0 wj (by omega) HHj.out.tabs (fun h => by omega)
            go_wp2_with (first | (go_at_call 9; refine cN.mono ?_; rintro e w6 ⟨hk6, rfl⟩) | (go_at_call 14; refine (num_any _ _).mono ?_; rintro e w' ⟨rfl, rfl⟩))
            go_roundw
            case rel => exact ⟨i + 1, by omega, by omega, by go_num, HKW5.out.trans (HKJ.out.trans hk6)⟩
            case measure => simp [intOf]; omega
    · have hlast : (i = n0 ∧ i < 4) ∨ (i < n0 ∧ i = 4) ∨ (i = n0 ∧ i = 4) := by omega
      rcases hlast with ⟨h1, h2⟩ | ⟨h1, h2⟩ | ⟨h1, h2⟩
      case' inl | inr.inr => have b1 : decide (i < n0) = false := by simp; omega
      case' inr.inl =>
        have b1 : decide (i < n0) = true := by simp; omega
        have b2 : decide (i < 4) = false := by simp; omega
        have b3 : decide ((i : Int) < 4) = false := by simp; omega
      all_goals
        clear h1 h2
        go_wp2_with fail
        go_loopw [19] (fun v wr => ∃ k : Nat, k ≤ 5 ∧ v = .int .i64 k ∧ Kept (fun _ => False) wi wr) (fun v _ => 5 - (intOf v).toNat)
        case atStart => exact ⟨0, Nat.zero_le _, rfl, Kept.refl _ _⟩
        case round =>
          obtain ⟨k, hk, rfl, hkk⟩ := hrel
          obtain ⟨wk, hwk⟩ : ∃ wk, wk = wr := ⟨_, rfl⟩
          subst hwk
          by_cases hk5 : k < 5
          · obtain ⟨kad, key, he, hkey, hkc⟩ := (HYi.out.kept hkk (fun _ _ => id)).cell hk5
            injection he with he
            subst he
            rw [addr_add, Nat.zero_add] at hkc
            have HKK := Lib.hid hkk
            have b6 : decide (k < 5) = true := by simp; omega
            have b7 : decide ((k : Int) < 5) = true := by simp; omega
            have t1 : (0 : Int) ≤ (k : Int) := by omega
            have t2 : (k : Int) < 5 := by omega
            clear hkey hkk
            by_cases hsk : Rw.Seek key
            · have cS := seek_t hsk wk
              rcases hsk with rfl | rfl | rfl | rfl
              case' inl => have cU := turned102 wk; have cV := rturned102
              case' inr.inl => have cU := turned70 wk; have cV := rturned70
              case' inr.inr.inl => have cU := turned116 wk; have cV := rturned116
              case' inr.inr.inr => have cU := turned84 wk; have cV := rturned84
              all_goals
                go_wp2_with (first | (go_at_call 15; refine cU.mono ?_; rintro e w' ⟨rfl, rfl⟩; clear cU) | (go_at_call 12; refine cS.mono ?_; rintro e w5 ⟨rfl, hk5⟩; have hkd := cell_kept hk5 hkc id; have HKS := Lib.hid hk5; clear hk5 cS) | (go_at_call 14; refine (num_any _ _).mono ?_; rintro e w' ⟨rfl, rfl⟩) | (go_at_call 16; refine (cV _).mono ?_; rintro e w' ⟨rfl, rfl⟩))
                exact ⟨⟨k + 1, by omega, by go_num, HKK.out.trans HKS.out⟩, by simp [intOf]; omega⟩
            · have cS := seek_f hsk wk
              have cU := turned_no key wk hsk
              clear hsk
              go_wp2_with (first | (go_at_call 15; refine cU.mono ?_; rintro e w' ⟨rfl, rfl⟩; clear cU) | (go_at_call 12; refine cS.mono ?_; rintro e w5 ⟨rfl, hk5⟩; have HKS := Lib.hid hk5; clear hk5 cS) | (go_at_call 14; refine (num_any _ _).mono ?_; rintro e w' ⟨rfl, rfl⟩))
              exact ⟨⟨k + 1, by omega, by go_num, HKK.out.trans HKS.out⟩, by simp [intOf]; omega⟩
          · obtain rfl : k = 5 := by omega
            have cW := wakes_any wk (HHi.out.tabs.kept hkk id id)
            go_wp2_with (go_at_call 17; refine cW.mono ?_; rintro e w9 ⟨rfl, hk9⟩)
            go_ret
            exact ⟨rfl, HKi.out.trans (hkk.trans hk9)⟩
end Go.Proofs.YtfkcofnoccanbaaDoor
