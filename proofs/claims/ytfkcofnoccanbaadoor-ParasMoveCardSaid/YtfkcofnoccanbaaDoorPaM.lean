/-
  THE LAW ParasMove, walked.
-/
import Derived.Test.YtfkcofnoccanbaaDoorPaA
set_option linter.unusedVariables false
namespace Go.Proofs.YtfkcofnoccanbaaDoor
open Go Go.RowKit

set_option maxRecDepth 100000 in
set_option maxHeartbeats 2000000 in
theorem parasMove_any (p : AskV) (w : World) (hp : AskOk w p) (hT : Tabs w) : Calls Tryd.prog 5 #[.agg p.cells] w fun e w' => e = .returned (.bool true) ∧ Kept (fun _ => False) w w' := by
  have hK0 : Hid (Kept (fun _ => False) w (w.alloc (.cells p.cells 28))) := (Kept.refl _ w).alloc _
  have hH0 : Hid (Held (w.alloc (.cells p.cells 28)) w.heap.size p) := ⟨heap_alloc_new w _, hp.kept hK0.out, hT.kept hK0.out id id⟩
  have cH := heavy10_any p (w.alloc (.cells p.cells 28)) hH0.out.ask
  clear hp hT
  obtain ⟨A, n0, c0, ss, xa, xb, xr, xc, xk, xn, xq⟩ := p
  unfold AskV.cells at *
  simp only at *
  go_enter Tryd.func5, Tryd.ntmps5
  go_wp2_with (go_at_call 7; refine cH.mono ?_; rintro e w1 ⟨⟨hv, rfl, hsm⟩, hk1⟩; have HS := Lib.hid hsm; have HKA := Lib.hid (hK0.out.trans hk1); have HHA := Lib.hid (hH0.out.kept hk1); clear hsm hk1 hH0 hK0 cH)
  · exact bodyPost_ret (results_tmp rfl _ _ _) rfl ⟨rfl, HKA.out⟩
  have hv0 : hv = false := by assumption
  subst hv0
  have hss : ∀ s ∈ ss, s.size ≤ 6000 := HS.out rfl
  have HSS := Lib.hid hss
  clear hss HS
  generalize hpb : w.heap.size = pb at HHA ⊢
  clear hpb
  go_loopw [3] (fun v wr => ∃ i : Nat, i ≤ n0 ∧ i ≤ 5 ∧ v = .int .i64 i ∧ Kept (fun _ => False) w1 wr) (fun v _ => n0 - (intOf v).toNat)
  case atStart => exact ⟨0, Nat.zero_le _, Nat.zero_le _, rfl, Kept.refl _ _⟩
  case round =>
    obtain ⟨i, hi, hi4, rfl, hki⟩ := hrel
    obtain ⟨wi, hwi⟩ : ∃ wi, wi = wr := ⟨_, rfl⟩
    subst hwi
    have HKi := Lib.hid (HKA.out.trans hki)
    have HHi := Lib.hid (HHA.out.kept hki)
    have HKW := Lib.hid hki
    clear hki
    have p0 : wi.cell? ⟨pb, 0, none⟩ = some (.slice A n0 c0) := HHi.out.pb.c 0
    by_cases hgo : i < n0 ∧ i < 5
    · obtain ⟨g1, g2⟩ := hgo
      obtain ⟨ad, s, rfl, hs, hsc, _⟩ := HHi.out.ask.ss.cell g1
      have hsz : s.size ≤ 6000 := HSS.out s (List.mem_of_getElem? hs)
      have HSI := Lib.hid hs
      have hl := rs_len s
      clear hs
      obtain ⟨cap, w2, hcap, hcv, hk2, hlt2, hR⟩ := conv_rs s wi (by omega)
      generalize ht : rs s = t at *
      have HT2 := Lib.hid ht
      have HK2 := Lib.hid (HKi.out.trans hk2)
      have HKW2 := Lib.hid (HKW.out.trans hk2)
      have HH2 := Lib.hid (HHi.out.kept hk2)
      have HR := Lib.hid hR
      have q0 : w2.cell? ⟨pb, 0, none⟩ = some (.slice (some ad) n0 c0) := HH2.out.pb.c 0
      have q1 : w2.cell? ⟨pb, 1, none⟩ = some (.int .i64 xa) := HH2.out.pb.c 1
      have q2 : w2.cell? ⟨pb, 2, none⟩ = some (.int .i64 xb) := HH2.out.pb.c 2
      have q3 : w2.cell? ⟨pb, 3, none⟩ = some (.int .i64 xr) := HH2.out.pb.c 3
      have q4 : w2.cell? ⟨pb, 4, none⟩ = some (.int .i64 xc) := HH2.out.pb.c 4
      have q5 : w2.cell? ⟨pb, 5, none⟩ = some (.int .i64 xk) := HH2.out.pb.c 5
      have q6 : w2.cell? ⟨pb, 6, none⟩ = some (.int .i64 xn) := HH2.out.pb.c 6
      have q7 : w2.cell? ⟨pb, 7, none⟩ = some (.int .i64 xq) := HH2.out.pb.c 7
      clear hk2 hR ht hcap hlt2
      generalize hrb : wi.heap.size = rb at HR hcv
      clear hrb
      have cO := offsets_any ⟨some ad, n0, c0, ss, xa, xb, xr, xc, xk, xn, xq⟩ (some ⟨rb, 0, none⟩) t.length cap w2 HH2.out.ask.xa (by omega)
      unfold AskV.cells at cO
      simp only at cO
      have b1 : decide (i < n0) = true := by simp; omega
      have b2 : decide (i < 5) = true := by simp; omega
      have b3 : decide ((i : Int) < 5) = true := by simp; omega
      go_wp2_with (go_at_call 8; refine cO.mono ?_; rintro e w3 ⟨hk3, B, m, c', xs, rfl, hxs, hm15, hx64⟩; have HK3 := Lib.hid (HK2.out.trans hk3); have HKW3 := Lib.hid (HKW2.out.trans hk3); have HH3 := Lib.hid (HH2.out.kept hk3); have HR3 := Lib.hid (HR.out.kept hk3 (fun _ _ => id)); have HX3 := Lib.hid hxs; have r5 : w3.cell? ⟨pb, 5, none⟩ = some (.int .i64 xk) := cell_kept hk3 q5 id; clear hk3 hxs hx64 q0 q1 q2 q3 q4 q5 q6 q7 cO hcv HK2 HH2 HR HKW2 p0 hsc)
      have hkw : Kept (fun _ => False) w3 (w3.alloc (.cells #[.int .i64 123, .int .i64 125, .int .i64 xk] 3)) := (Kept.refl _ w3).alloc _
      have HY5 : Hid (Nums (w3.alloc (.cells #[.int .i64 123, .int .i64 125, .int .i64 xk] 3)) (some ⟨w3.heap.size, 0, none⟩) 3 [123, 125, xk]) := nums_new w3 [123, 125, xk] 3
      have HKW5 := Lib.hid (HKW3.out.trans hkw)
      have HH5 := Lib.hid (HH3.out.kept hkw)
      have HR5 := Lib.hid (HR3.out.kept hkw (fun _ _ => id))
      have HX5 := Lib.hid (HX3.out.kept hkw (fun _ _ => id))
      have HTl : Hid (t.length ≤ 6000) := by show _ ≤ _; omega
      clear hkw r5 HK3 HKW3 HH3 HR3 HX3
      generalize w3.alloc (.cells #[.int .i64 123, .int .i64 125, .int .i64 xk] 3) = wd at *
      generalize w3.heap.size = kb at *
      generalize ([123, 125, xk] : List Int) = keys at *
      go_loopw [7] (fun v wr => ∃ k : Nat, k ≤ 3 ∧ v = .int .i64 k ∧ Kept (fun _ => False) wd wr) (fun v _ => 3 - (intOf v).toNat)
      case atStart => exact ⟨0, Nat.zero_le _, rfl, Kept.refl _ _⟩
      case round =>
        obtain ⟨k, hk, rfl, hkk⟩ := hrel
        obtain ⟨wk, hwk⟩ : ∃ wk, wk = wr := ⟨_, rfl⟩
        subst hwk
        have HKK := Lib.hid hkk
        have HHk := Lib.hid (HH5.out.kept hkk)
        have HYk := Lib.hid (HY5.out.kept hkk (fun _ _ => id))
        have HRk := Lib.hid (HR5.out.kept hkk (fun _ _ => id))
        have HXk := Lib.hid (HX5.out.kept hkk (fun _ _ => id))
        clear hkk
        by_cases hk5 : k < 3
        · obtain ⟨kad, key, he, hkey, _⟩ := HYk.out.cell hk5
          have HKEY := Lib.hid hkey
          clear hkey he
          have b6 : decide (k < 3) = true := by simp; omega
          have b7 : decide ((k : Int) < 3) = true := by simp; omega
          go_wp2_with fail
          clear b6 b7
          go_loopw [8] (fun v wr => ∃ j : Nat, j ≤ m ∧ v = .int .i64 j ∧ Kept (fun _ => False) wk wr) (fun v _ => m - (intOf v).toNat)
          case atStart => exact ⟨0, Nat.zero_le _, rfl, Kept.refl _ _⟩
          case round =>
            obtain ⟨j, hj, rfl, hkj⟩ := hrel
            obtain ⟨wj, hwj⟩ : ∃ wj, wj = wr := ⟨_, rfl⟩
            subst hwj
            have HKJ := Lib.hid hkj
            have HHj := Lib.hid (HHk.out.kept hkj)
            have HYj := Lib.hid (HYk.out.kept hkj (fun _ _ => id))
            have HRj := Lib.hid (HRk.out.kept hkj (fun _ _ => id))
            have HXj := Lib.hid (HXk.out.kept hkj (fun _ _ => id))
            clear hkj
            by_cases hjm : j < m
            · obtain ⟨xad, x, rfl, hx, _⟩ := HXj.out.cell hjm
              have HXJ := Lib.hid hx
              clear hx
              have b5 : decide (j < m) = true := by simp; omega
              have q6 : wj.cell? ⟨pb, 6, none⟩ = some (.int .i64 xn) := HHj.out.pb.c 6
              go_wp2_with fail
              clear b5 q6
              have hcs : Hid (Nums (wj.alloc (.cells #[.int .i64 1, .int .i64 (1 + (j : Int) % 3), .int .i64 xn] 3)) (some ⟨wj.heap.size, 0, none⟩) 3 [1, 1 + (j : Int) % 3, xn]) := nums_new wj [1, 1 + (j : Int) % 3, xn] 3
              have hkc : Kept (fun _ => False) wj (wj.alloc (.cells #[.int .i64 1, .int .i64 (1 + (j : Int) % 3), .int .i64 xn] 3)) := (Kept.refl _ wj).alloc _
              have HKV6 := Lib.hid (HKJ.out.trans hkc)
              have HH6 := Lib.hid (HHj.out.kept hkc)
              have HY6 := Lib.hid (HYj.out.kept hkc (fun _ _ => id))
              have HR6 := Lib.hid (HRj.out.kept hkc (fun _ _ => id))
              have HX6 := Lib.hid (HXj.out.kept hkc (fun _ _ => id))
              clear hkc
              generalize wj.alloc (.cells #[.int .i64 1, .int .i64 (1 + (j : Int) % 3), .int .i64 xn] 3) = w6 at *
              generalize wj.heap.size = cb at *
              generalize ([1, 1 + (j : Int) % 3, xn] : List Int) = cs at *
              go_loopw [10] (fun v wr => ∃ q : Nat, q ≤ 3 ∧ v = .int .i64 q ∧ Kept (fun _ => False) w6 wr) (fun v _ => 3 - (intOf v).toNat)
              case atStart => exact ⟨0, Nat.zero_le _, rfl, Kept.refl _ _⟩
              case round =>
                obtain ⟨q, hq, rfl, hkq⟩ := hrel
                obtain ⟨wq, hwq⟩ : ∃ wq, wq = wr := ⟨_, rfl⟩
                subst hwq
                by_cases hq4 : q < 3
                · obtain ⟨cad, cnt, he, hcnt, hcc⟩ := (hcs.out.kept hkq (fun _ _ => id)).cell hq4
                  injection he with he
                  subst he
                  rw [addr_add, Nat.zero_add] at hcc
                  have HKV7 := Lib.hid hkq
                  have HH7 := Lib.hid (HH6.out.kept hkq)
                  have HY7 := Lib.hid (HY6.out.kept hkq (fun _ _ => id))
                  have HR7 := Lib.hid (HR6.out.kept hkq (fun _ _ => id))
                  have HX7 := Lib.hid (HX6.out.kept hkq (fun _ _ => id))
                  clear hcnt hkq
                  have f1 : wq.cell? (xad.add j) = some (.int .i64 x) := by
                    obtain ⟨ad1, e1, h1⟩ := HX7.out.2 j x HXJ.out
                    injection e1 with e1
                    subst e1
                    exact h1
                  have f2 : wq.cell? ⟨kb, k, none⟩ = some (.int .i64 key) := by
                    obtain ⟨ad1, e1, h1⟩ := HY7.out.2 k key HKEY.out
                    injection e1 with e1
                    subst e1
                    rwa [addr_add, Nat.zero_add] at h1
                  have f4 : wq.cell? ⟨pb, 0, none⟩ = some (.slice (some ad) n0 c0) := HH7.out.pb.c 0
                  have f5 := HH7.out.str rfl HSI.out
                  have b7 : decide (q < 3) = true := by simp; omega
                  have b8 : decide ((q : Int) < 3) = true := by simp; omega
                  go_wp2_with fail
                  have hTe := HH7.out.tabs
                  have hTd : Tabs wq.drew := hTe
                  have cF := pmove_all s x key cnt wq.drew (by omega) hTd
                  have t1 : (0 : Int) ≤ (k : Int) := by omega
                  have t2 : (k : Int) < 3 := by omega
                  have t3 : (0 : Int) ≤ (q : Int) := by omega
                  have t4 : (q : Int) < 3 := by omega
                  have t5 : (0 : Int) ≤ (i : Int) := by omega
                  have t6 : (i : Int) < (n0 : Int) := by omega
                  clear hTe hTd
                  go_region_held3 (fun w' => w'.cell? (xad.add j) = some (.int .i64 x) ∧ w'.cell? ⟨kb, k, none⟩ = some (.int .i64 key) ∧ w'.cell? ⟨cb, q, none⟩ = some (.int .i64 cnt) ∧ w'.cell? ⟨pb, 0, none⟩ = some (.slice (some ad) n0 c0) ∧ w'.cell? (ad.add i) = some (.string s)) (first | exact ⟨f1, f2, hcc, f4, f5⟩ | exact ⟨cell_kept hk8 f1 id, cell_kept hk8 f2 id, cell_kept hk8 hcc id, cell_kept hk8 f4 id, cell_kept hk8 f5 id⟩ | go_keep)
                    ((go_at_call 19; refine cF.mono ?_; rintro e w8 ⟨⟨X, E, rfl, htold⟩, hk8⟩))
                  have HKV8 := Lib.hid ((Kept.refl (fun _ => False) wq).drew.trans hk8)
                  have z1 := cell_kept HKV8.out f1 id
                  have z2 := cell_kept HKV8.out f2 id
                  have z3 := cell_kept HKV8.out hcc id
                  have z4 := cell_kept HKV8.out f4 id
                  have z5 := cell_kept HKV8.out f5 id
                  have HR8 := Lib.hid (HR7.out.kept HKV8.out (fun _ _ => id))
                  have cMay := rmay_any s w8 (by omega) (HH7.out.tabs.kept HKV8.out id id)
                  have HTOLD := Lib.hid htold
                  clear htold hk8 f1 f2 hcc f4 f5 cF
                  by_cases hgood : Good s x key cnt
                  · have HG := Lib.hid hgood
                    obtain ⟨h1, ⟨h2, h2'⟩, h3, h4, h4'⟩ := hgood
                    obtain ⟨kk, rfl⟩ := Int.eq_ofNat_of_zero_le h2
                    obtain ⟨mm, rfl⟩ := Int.eq_ofNat_of_zero_le (show 0 ≤ cnt by omega)
                    rw [HT2.out] at h2'
                    rw [h1] at cMay
                    have H2 := Lib.hid (show (0 : Int) ≤ (kk : Int) ∧ (kk : Int) ≤ (t.length : Int) from ⟨h2, h2'⟩)
                    have H4 := Lib.hid (show (1 : Int) ≤ (mm : Int) ∧ (mm : Int) ≤ 999 from ⟨h4, h4'⟩)
                    clear h1 h2 h2' h4 h4'
                    rcases h3 with rfl | rfl
                    · go_wp2_with (go_at_call 10; refine cMay.mono ?_; rintro e w10 ⟨rfl, hk10⟩; have a1 := cell_kept hk10 z1 id; have a2 := cell_kept hk10 z2 id; have a3 := cell_kept hk10 z3 id; have HKM := Lib.hid hk10; clear hk10 z1 z2 z3 z4 z5)
                      refine (znum_t H2.out _).mono ?_
                      rintro e w' ⟨rfl, hw⟩
                      have hw2 := hw.symm
                      clear hw
                      subst hw2
                      go_wp2_with fail
                      refine (btw_t H4.out _).mono ?_
                      rintro e w' ⟨rfl, hw⟩
                      have hw2 := hw.symm
                      clear hw
                      subst hw2
                      go_wp2_with fail
                      have hRd := HR8.out.kept HKM.out (fun _ _ => id)
                      have HK11 := Lib.hid (HKV8.out.trans HKM.out)
                      have cR := fun (W : World) (hRe : Rn W (some ⟨rb, 0, none⟩) t.length t) => rparas_told (c := cap) (X := X) (E := E) W HT2.out hRe HTl.out HG.out HTOLD.out
                      skip
                      have cRd := cR w10.drew hRd
                      clear cR hRd
                      go_region_held3 (fun w' => w'.cell? (xad.add j) = some (.int .i64 (kk : Nat)) ∧ w'.cell? ⟨kb, k, none⟩ = some (.int .i64 123) ∧ w'.cell? ⟨cb, q, none⟩ = some (.int .i64 (mm : Nat))) (first | exact ⟨a1, a2, a3⟩ | go_keep)
                        ((go_at_call 21; refine cRd.mono ?_; rintro e w12 ⟨rfl, rfl⟩))
                      clear a1 a2 a3 cRd t1 t2 t3 t4 t5 t6
                      go_wp2_with (go_at_call 22; refine (num_any _ _).mono ?_; rintro e w' ⟨rfl, rfl⟩)
                      exact ⟨⟨q + 1, by omega, by go_num, HKV7.out.trans HK11.out.drew⟩, by simp [intOf]; omega⟩
                    · go_wp2_with (go_at_call 10; refine cMay.mono ?_; rintro e w10 ⟨rfl, hk10⟩; have a1 := cell_kept hk10 z1 id; have a2 := cell_kept hk10 z2 id; have a3 := cell_kept hk10 z3 id; have HKM := Lib.hid hk10; clear hk10 z1 z2 z3 z4 z5)
                      refine (znum_t H2.out _).mono ?_
                      rintro e w' ⟨rfl, hw⟩
                      have hw2 := hw.symm
                      clear hw
                      subst hw2
                      go_wp2_with fail
                      refine (btw_t H4.out _).mono ?_
                      rintro e w' ⟨rfl, hw⟩
                      have hw2 := hw.symm
                      clear hw
                      subst hw2
                      go_wp2_with fail
                      have hRd := HR8.out.kept HKM.out (fun _ _ => id)
                      have HK11 := Lib.hid (HKV8.out.trans HKM.out)
                      have cR := fun (W : World) (hRe : Rn W (some ⟨rb, 0, none⟩) t.length t) => rparas_told (c := cap) (X := X) (E := E) W HT2.out hRe HTl.out HG.out HTOLD.out
                      skip
                      have cRd := cR w10.drew hRd
                      clear cR hRd
                      go_region_held3 (fun w' => w'.cell? (xad.add j) = some (.int .i64 (kk : Nat)) ∧ w'.cell? ⟨kb, k, none⟩ = some (.int .i64 125) ∧ w'.cell? ⟨cb, q, none⟩ = some (.int .i64 (mm : Nat))) (first | exact ⟨a1, a2, a3⟩ | go_keep)
                        ((go_at_call 21; refine cRd.mono ?_; rintro e w12 ⟨rfl, rfl⟩))
                      clear a1 a2 a3 cRd t1 t2 t3 t4 t5 t6
                      go_wp2_with (go_at_call 22; refine (num_any _ _).mono ?_; rintro e w' ⟨rfl, rfl⟩)
                      exact ⟨⟨q + 1, by omega, by go_num, HKV7.out.trans HK11.out.drew⟩, by simp [intOf]; omega⟩
                  · obtain ⟨rfl, rfl⟩ := HTOLD.out.2 hgood
                    have hbad : mayB s = false ∨ (mayB s = true ∧ ¬ (0 ≤ x ∧ x ≤ (t.length : Int))) ∨ (mayB s = true ∧ (0 ≤ x ∧ x ≤ (t.length : Int)) ∧ ¬ (key = 123 ∨ key = 125)) ∨ (mayB s = true ∧ (0 ≤ x ∧ x ≤ (t.length : Int)) ∧ (key = 123 ∨ key = 125) ∧ ¬ (1 ≤ cnt ∧ cnt ≤ 999)) := by
                      have hg' : ¬ (mayB s = true ∧ (0 ≤ x ∧ x ≤ (t.length : Int)) ∧ (key = 123 ∨ key = 125) ∧ 1 ≤ cnt ∧ cnt ≤ 999) := by
                        intro h
                        apply hgood
                        unfold Good
                        rw [HT2.out]
                        exact h
                      by_cases h1 : mayB s = true
                      · by_cases h2 : 0 ≤ x ∧ x ≤ (t.length : Int)
                        · by_cases h3 : key = 123 ∨ key = 125
                          · exact .inr (.inr (.inr ⟨h1, h2, h3, fun h => hg' ⟨h1, h2, h3, h⟩⟩))
                          · exact .inr (.inr (.inl ⟨h1, h2, h3⟩))
                        · exact .inr (.inl ⟨h1, h2⟩)
                      · exact .inl (by simpa using h1)
                    clear hgood HTOLD
                    rcases hbad with h1 | ⟨h1, h2⟩ | ⟨h1, h2, h3⟩ | ⟨h1, h2, h3, h4⟩
                    · rw [h1] at cMay
                      clear h1
                      go_wp2_with (go_at_call 10; refine cMay.mono ?_; rintro e w10 ⟨rfl, hk10⟩; have a1 := cell_kept hk10 z1 id; have a2 := cell_kept hk10 z2 id; have a3 := cell_kept hk10 z3 id; have HKM := Lib.hid hk10; clear hk10 z1 z2 z3 z4 z5)
                      refine (num_any _ _).mono ?_
                      rintro e w' ⟨rfl, rfl⟩
                      go_wp2_with fail
                      exact ⟨⟨q + 1, by omega, by go_num, HKV7.out.trans (HKV8.out.trans HKM.out)⟩, by simp [intOf]; omega⟩
                    · rw [h1] at cMay
                      have H2 := Lib.hid h2
                      clear h1 h2
                      go_wp2_with (go_at_call 10; refine cMay.mono ?_; rintro e w10 ⟨rfl, hk10⟩; have a1 := cell_kept hk10 z1 id; have a2 := cell_kept hk10 z2 id; have a3 := cell_kept hk10 z3 id; have HKM := Lib.hid hk10; clear hk10 z1 z2 z3 z4 z5)
                      refine (znum_f H2.out _).mono ?_
                      rintro e w' ⟨rfl, rfl⟩
                      go_wp2_with fail
                      refine (num_any _ _).mono ?_
                      rintro e w' ⟨rfl, rfl⟩
                      go_wp2_with fail
                      exact ⟨⟨q + 1, by omega, by go_num, HKV7.out.trans (HKV8.out.trans HKM.out)⟩, by simp [intOf]; omega⟩
                    · rw [h1] at cMay
                      have H2 := Lib.hid h2
                      have e1 : (key == 123) = false := by rw [beq_eq_false_iff_ne]; omega
                      have e2 : (key == 125) = false := by rw [beq_eq_false_iff_ne]; omega
                      clear h1 h2 h3
                      go_wp2_with (go_at_call 10; refine cMay.mono ?_; rintro e w10 ⟨rfl, hk10⟩; have a1 := cell_kept hk10 z1 id; have a2 := cell_kept hk10 z2 id; have a3 := cell_kept hk10 z3 id; have HKM := Lib.hid hk10; clear hk10 z1 z2 z3 z4 z5)
                      refine (znum_t H2.out _).mono ?_
                      rintro e w' ⟨rfl, hw⟩
                      have hw2 := hw.symm
                      clear hw
                      subst hw2
                      go_wp2_with fail
                      refine (num_any _ _).mono ?_
                      rintro e w' ⟨rfl, rfl⟩
                      go_wp2_with fail
                      exact ⟨⟨q + 1, by omega, by go_num, HKV7.out.trans (HKV8.out.trans HKM.out)⟩, by simp [intOf]; omega⟩
                    · rw [h1] at cMay
                      have H2 := Lib.hid h2
                      have H4 := Lib.hid h4
                      clear h1 h2 h4
                      rcases h3 with rfl | rfl
                      all_goals
                        go_wp2_with (go_at_call 10; refine cMay.mono ?_; rintro e w10 ⟨rfl, hk10⟩; have a1 := cell_kept hk10 z1 id; have a2 := cell_kept hk10 z2 id; have a3 := cell_kept hk10 z3 id; have HKM := Lib.hid hk10; clear hk10 z1 z2 z3 z4 z5)
                        refine (znum_t H2.out _).mono ?_
                        rintro e w' ⟨rfl, hw⟩
                        have hw2 := hw.symm
                        clear hw
                        subst hw2
                        go_wp2_with fail
                        refine (btw_f H4.out _).mono ?_
                        rintro e w' ⟨rfl, rfl⟩
                        go_wp2_with fail
                        refine (num_any _ _).mono ?_
                        rintro e w' ⟨rfl, rfl⟩
                        go_wp2_with fail
                        exact ⟨⟨q + 1, by omega, by go_num, HKV7.out.trans (HKV8.out.trans HKM.out)⟩, by simp [intOf]; omega⟩
                · obtain rfl : q = 3 := by omega
                  go_wp2_with fail
                  go_roundw
                  case rel => exact ⟨j + 1, by omega, by go_num, HKV6.out.trans hkq⟩
                  case measure => simp [intOf]; omega
            · have b5 : decide (j < m) = false := by simp; omega
              go_wp2_with fail
              go_roundw
              case rel => exact ⟨k + 1, by omega, by go_num, HKK.out.trans HKJ.out⟩
              case measure => simp [intOf]; omega
        · obtain rfl : k = 3 := by omega
          go_wp2_with fail
          go_roundw
          case rel => exact ⟨i + 1, by omega, by omega, by go_num, HKW5.out.trans HKK.out⟩
          case measure => simp [intOf]; omega
    · have hlast : (i = n0 ∧ i < 5) ∨ (i < n0 ∧ i = 5) ∨ (i = n0 ∧ i = 5) := by omega
      have cW := wakes_any wi HHi.out.tabs
      rcases hlast with ⟨h1, h2⟩ | ⟨h1, h2⟩ | ⟨h1, h2⟩
      case' inl | inr.inr => have b1 : decide (i < n0) = false := by simp; omega
      case' inr.inl =>
        have b1 : decide (i < n0) = true := by simp; omega
        have b2 : decide (i < 5) = false := by simp; omega
        have b3 : decide ((i : Int) < 5) = false := by simp; omega
      all_goals
        clear h1 h2
        go_wp2_with (go_at_call 23; refine cW.mono ?_; rintro e w9 ⟨rfl, hk9⟩)
        go_ret
        exact ⟨rfl, HKi.out.trans hk9⟩
end Go.Proofs.YtfkcofnoccanbaaDoor
