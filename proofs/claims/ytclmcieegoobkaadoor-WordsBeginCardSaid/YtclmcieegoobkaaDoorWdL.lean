/-
  THE LAWS' COMMON WALK: whatever an ask holds, and whichever keys: the program's motions by words are the reference's.
-/
import Derived.Test.YtclmcieegoobkaaDoorWdK
set_option linter.unusedVariables false
namespace Go.Proofs.YtclmcieegoobkaaDoor
open Go Go.RowKit

set_option maxRecDepth 100000 in
set_option maxHeartbeats 4000000 in
theorem moves_any (p : AskV) (K : Option Addr) (kn kc : Nat) (keys : List Int) (w : World) (hp : AskOk w p) (hK : Nums w K kn keys) (hkn : kn ≤ 100) (hT : Tabs w) :
    Calls Tryd.prog 25 #[.agg p.cells, .slice K kn kc] w fun e w' => e = .returned (.bool true) ∧ Kept (fun _ => False) w w' := by
  have hK0 : Hid (Kept (fun _ => False) w (w.alloc (.cells p.cells 39))) := (Kept.refl _ w).alloc _
  have hH0 : Hid (Held (w.alloc (.cells p.cells 39)) w.heap.size p) := ⟨heap_alloc_new w _, hp.kept hK0.out, hT.kept hK0.out id id⟩
  have hY0 := Lib.hid (hK.kept hK0.out (fun _ _ => id))
  have cH := heavy10_any p (w.alloc (.cells p.cells 39)) hH0.out.ask
  clear hp hT hK
  obtain ⟨A, n0, c0, ss, xa, xb, xr, xc, xk, xn, xq⟩ := p
  unfold AskV.cells at *
  simp only at *
  go_enter Tryd.func25, Tryd.ntmps25
  go_wp2_with (go_at_call 26; refine cH.mono ?_; rintro e w1 ⟨⟨hv, rfl, hsm⟩, hk1⟩; have HS := Lib.hid hsm; have HKA := Lib.hid (hK0.out.trans hk1); have HHA := Lib.hid (hH0.out.kept hk1); have HYA := Lib.hid (hY0.out.kept hk1 (fun _ _ => id)); clear hsm hk1 hH0 hK0 hY0 cH)
  · exact bodyPost_ret (results_tmp rfl _ _ _) rfl ⟨rfl, HKA.out⟩
  have hv0 : hv = false := by assumption
  subst hv0
  have hss : ∀ s ∈ ss, s.size ≤ 6000 := HS.out rfl
  have HSS := Lib.hid hss
  clear hss HS
  generalize hpb : w.heap.size = pb at HHA ⊢
  clear hpb
  go_loopw [5] (fun v wr => ∃ i : Nat, i ≤ n0 ∧ i ≤ 4 ∧ v = .int .i64 i ∧ Kept (fun _ => False) w1 wr) (fun v _ => n0 - (intOf v).toNat)
  case atStart => exact ⟨0, Nat.zero_le _, Nat.zero_le _, rfl, Kept.refl _ _⟩
  case round =>
    obtain ⟨i, hi, hi4, rfl, hki⟩ := hrel
    obtain ⟨wi, hwi⟩ : ∃ wi, wi = wr := ⟨_, rfl⟩
    subst hwi
    have HKi := Lib.hid (HKA.out.trans hki)
    have HHi := Lib.hid (HHA.out.kept hki)
    have HYi := Lib.hid (HYA.out.kept hki (fun _ _ => id))
    have HKW := Lib.hid hki
    clear hki
    have p0 : wi.cell? ⟨pb, 0, none⟩ = some (.slice A n0 c0) := HHi.out.pb.c 0
    by_cases hgo : i < n0 ∧ i < 4
    · obtain ⟨g1, g2⟩ := hgo
      obtain ⟨ad, s, rfl, hs, hsc, _⟩ := HHi.out.ask.ss.cell g1
      have hsz : s.size ≤ 6000 := HSS.out s (List.mem_of_getElem? hs)
      have HSI := Lib.hid hs
      have b1 : decide (i < n0) = true := by simp; omega
      have b2 : decide (i < 4) = true := by simp; omega
      have b3 : decide ((i : Int) < 4) = true := by simp; omega
      clear hs
      by_cases h400 : 400 < s.size
      · have b4 : decide (400 < s.size) = true := decide_eq_true h400
        have b5 : decide ((400 : Int) < (s.size : Int)) = true := decide_eq_true (by omega)
        go_wp2_with fail
        go_roundw
        case rel => exact ⟨i + 1, by omega, by omega, by go_num, HKW.out⟩
        case measure => simp [intOf] <;> omega
      have b4 : decide (400 < s.size) = false := decide_eq_false h400
      have b5 : decide ((400 : Int) < (s.size : Int)) = false := decide_eq_false (by omega)
      have hl := rs_len s
      obtain ⟨cap, w2, hcap, hcv, hk2, hlt2, hR⟩ := conv_rs s wi (by omega)
      generalize ht : rs s = t at *
      have HT2 := Lib.hid ht
      have HK2 := Lib.hid (HKi.out.trans hk2)
      have HKW2 := Lib.hid (HKW.out.trans hk2)
      have HH2 := Lib.hid (HHi.out.kept hk2)
      have HY2 := Lib.hid (HYi.out.kept hk2 (fun _ _ => id))
      have HR := Lib.hid hR
      have q0 : w2.cell? ⟨pb, 0, none⟩ = some (.slice (some ad) n0 c0) := HH2.out.pb.c 0
      have q1 : w2.cell? ⟨pb, 1, none⟩ = some (.int .i64 xa) := HH2.out.pb.c 1
      have q2 : w2.cell? ⟨pb, 2, none⟩ = some (.int .i64 xb) := HH2.out.pb.c 2
      have q3 : w2.cell? ⟨pb, 3, none⟩ = some (.int .i64 xr) := HH2.out.pb.c 3
      have q4 : w2.cell? ⟨pb, 4, none⟩ = some (.int .i64 xc) := HH2.out.pb.c 4
      have q5 : w2.cell? ⟨pb, 5, none⟩ = some (.int .i64 xk) := HH2.out.pb.c 5
      have q6 : w2.cell? ⟨pb, 6, none⟩ = some (.int .i64 xn) := HH2.out.pb.c 6
      have q7 : w2.cell? ⟨pb, 7, none⟩ = some (.int .i64 xq) := HH2.out.pb.c 7
      clear hk2 hR ht hcap hlt2
      generalize hrb : wi.heap.size = rb at HR hcv
      clear hrb
      have cO := offsets_any ⟨some ad, n0, c0, ss, xa, xb, xr, xc, xk, xn, xq⟩ (some ⟨rb, 0, none⟩) t.length cap w2 HH2.out.ask.xa (by omega)
      unfold AskV.cells at cO
      simp only at cO
      go_wp2_with (go_at_call 46; refine cO.mono ?_; rintro e w3 ⟨hk3, B, m, c', xs, rfl, hxs, hm15, hx64⟩; have HK3 := Lib.hid (HK2.out.trans hk3); have HKW3 := Lib.hid (HKW2.out.trans hk3); have HH3 := Lib.hid (HH2.out.kept hk3); have HY3 := Lib.hid (HY2.out.kept hk3 (fun _ _ => id)); have HR3 := Lib.hid (HR.out.kept hk3 (fun _ _ => id)); have HX3 := Lib.hid hxs; clear hk3 hxs hx64 q0 q1 q2 q3 q4 q5 q6 q7 cO hcv HK2 HH2 HR HKW2 HY2 p0 hsc)
      have HTl : Hid (t.length ≤ 6000) := by show _ ≤ _; omega
      clear b1 b2 b3 b4 b5
      go_loopw [9] (fun v wr => ∃ k : Nat, k ≤ kn ∧ v = .int .i64 k ∧ Kept (fun _ => False) w3 wr) (fun v _ => kn - (intOf v).toNat)
      case atStart => exact ⟨0, Nat.zero_le _, rfl, Kept.refl _ _⟩
      case round =>
        obtain ⟨k, hk, rfl, hkk⟩ := hrel
        obtain ⟨wk, hwk⟩ : ∃ wk, wk = wr := ⟨_, rfl⟩
        subst hwk
        have HKK := Lib.hid hkk
        have HHk := Lib.hid (HH3.out.kept hkk)
        have HYk := Lib.hid (HY3.out.kept hkk (fun _ _ => id))
        have HRk := Lib.hid (HR3.out.kept hkk (fun _ _ => id))
        have HXk := Lib.hid (HX3.out.kept hkk (fun _ _ => id))
        clear hkk
        by_cases hk5 : k < kn
        · obtain ⟨kad, key, rfl, hkey, _⟩ := HYk.out.cell hk5
          have HKEY := Lib.hid hkey
          clear hkey
          have b6 : decide (k < kn) = true := by simp; omega
          go_wp2_with fail
          clear b6
          go_loopw [10] (fun v wr => ∃ j : Nat, j ≤ m ∧ v = .int .i64 j ∧ Kept (fun _ => False) wk wr) (fun v _ => m - (intOf v).toNat)
          case atStart => exact ⟨0, Nat.zero_le _, rfl, Kept.refl _ _⟩
          case round =>
            obtain ⟨j, hj, rfl, hkj⟩ := hrel
            obtain ⟨wj, hwj⟩ : ∃ wj, wj = wr := ⟨_, rfl⟩
            subst hwj
            have HKJ := Lib.hid hkj
            have HHj := Lib.hid (HHk.out.kept hkj)
            have HYj := Lib.hid (HYk.out.kept hkj (fun _ _ => id))
            have HRj := Lib.hid (HRk.out.kept hkj (fun _ _ => id))
            have HXj := Lib.hid (HXk.out.kept hkj (fun _ _ => id))
            clear hkj
            by_cases hjm : j < m
            · obtain ⟨xad, x, rfl, hx, _⟩ := HXj.out.cell hjm
              have HXJ := Lib.hid hx
              clear hx
              have b5 : decide (j < m) = true := by simp; omega
              go_wp2_with fail
              clear b5
              have q6 : wj.cell? ⟨pb, 6, none⟩ = some (.int .i64 xn) := HHj.out.pb.c 6
              go_region_held3 (fun w' => w'.cell? ⟨pb, 6, none⟩ = some (.int .i64 xn)) (first | exact q6 | go_keep)
                ((go_at_call 47; refine (within_any xn 4 (by omega) (by omega) _).mono ?_; rintro e w' ⟨y, hy, rfl, hw⟩; have hw2 := hw.symm; clear hw; subst hw2))
              obtain ⟨z, hz⟩ : ∃ z, IntKind.i64.wrap (1 + (y : Int)) = z := ⟨_, rfl⟩
              simp only [hz]
              clear hz q6
              go_wp2_with fail
              have hcs : Hid (Nums ((wj.alloc (.cells #[.int .i64 1, .int .i64 z, .int .i64 xn] 3)).drew) (some ⟨wj.heap.size, 0, none⟩) 3 [1, z, xn]) := nums_new wj [1, z, xn] 3
              have hkc : Kept (fun _ => False) wj ((wj.alloc (.cells #[.int .i64 1, .int .i64 z, .int .i64 xn] 3)).drew) := ((Kept.refl _ wj).alloc _).drew
              have HKV6 := Lib.hid (HKJ.out.trans hkc)
              have HH6 := Lib.hid (HHj.out.kept hkc)
              have HY6 := Lib.hid (HYj.out.kept hkc (fun _ _ => id))
              have HR6 := Lib.hid (HRj.out.kept hkc (fun _ _ => id))
              have HX6 := Lib.hid (HXj.out.kept hkc (fun _ _ => id))
              clear hkc
              generalize (wj.alloc (.cells #[.int .i64 1, .int .i64 z, .int .i64 xn] 3)).drew = w6 at *
              generalize wj.heap.size = cb at *
              generalize ([1, z, xn] : List Int) = cs at *
              go_loopw [12] (fun v wr => ∃ q : Nat, q ≤ 3 ∧ v = .int .i64 q ∧ Kept (fun _ => False) w6 wr) (fun v _ => 3 - (intOf v).toNat)
              case atStart => exact ⟨0, Nat.zero_le _, rfl, Kept.refl _ _⟩
              case round =>
                obtain ⟨q, hq, rfl, hkq⟩ := hrel
                obtain ⟨wq, hwq⟩ : ∃ wq, wq = wr := ⟨_, rfl⟩
                subst hwq
                by_cases hq4 : q < 3
                · obtain ⟨cad, cnt, he, hcnt, hcc⟩ := (hcs.out.kept hkq (fun _ _ => id)).cell hq4
                  injection he with he
                  subst he
                  rw [addr_add, Nat.zero_add] at hcc
                  have HKV7 := Lib.hid hkq
                  have HH7 := Lib.hid (HH6.out.kept hkq)
                  have HY7 := Lib.hid (HY6.out.kept hkq (fun _ _ => id))
                  have HR7 := Lib.hid (HR6.out.kept hkq (fun _ _ => id))
                  have HX7 := Lib.hid (HX6.out.kept hkq (fun _ _ => id))
                  clear hcnt hkq
                  have f1 : wq.cell? (xad.add j) = some (.int .i64 x) := by
                    obtain ⟨ad1, e1, h1⟩ := HX7.out.2 j x HXJ.out
                    injection e1 with e1
                    subst e1
                    exact h1
                  have f2 : wq.cell? (kad.add k) = some (.int .i64 key) := by
                    obtain ⟨ad1, e1, h1⟩ := HY7.out.2 k key HKEY.out
                    injection e1 with e1
                    subst e1
                    exact h1
                  have b7 : decide (q < 3) = true := by simp; omega
                  have b8 : decide ((q : Int) < 3) = true := by simp; omega
                  go_wp2_with fail
                  have hTe := HH7.out.tabs
                  have hTd : Tabs wq.drew := hTe
                  have cF := wmove_all s x key cnt wq.drew (by omega) hTd
                  have t1 : (0 : Int) ≤ (k : Int) := by omega
                  have t2 : (k : Int) < (kn : Int) := by omega
                  have t3 : (0 : Int) ≤ (q : Int) := by omega
                  have t4 : (q : Int) < 3 := by omega
                  clear hTe hTd b7 b8
                  go_region_held3 (fun w' => w'.cell? (xad.add j) = some (.int .i64 x) ∧ w'.cell? (kad.add k) = some (.int .i64 key) ∧ w'.cell? ⟨cb, q, none⟩ = some (.int .i64 cnt)) (first | exact ⟨f1, f2, hcc⟩ | exact ⟨cell_kept hk8 f1 id, cell_kept hk8 f2 id, cell_kept hk8 hcc id⟩ | go_keep)
                    ((go_at_call 33; refine cF.mono ?_; rintro e w8 ⟨⟨X, E, rfl, htold⟩, hk8⟩))
                  have HKV8 := Lib.hid ((Kept.refl (fun _ => False) wq).drew.trans hk8)
                  have z1 := cell_kept HKV8.out f1 id
                  have z2 := cell_kept HKV8.out f2 id
                  have z3 := cell_kept HKV8.out hcc id
                  have HR8 := Lib.hid (HR7.out.kept HKV8.out (fun _ _ => id))
                  have cMay := rmay_any s w8 (by omega) (HH7.out.tabs.kept HKV8.out id id)
                  have HTOLD := Lib.hid htold
                  clear htold hk8 f1 f2 hcc cF
                  by_cases hgood : GoodW s x key cnt
                  · have HG := Lib.hid hgood
                    obtain ⟨h1, ⟨h2, h2'⟩, h3, h4, h4'⟩ := hgood
                    obtain ⟨kk, rfl⟩ := Int.eq_ofNat_of_zero_le h2
                    obtain ⟨mm, rfl⟩ := Int.eq_ofNat_of_zero_le (show 0 ≤ cnt by omega)
                    rw [HT2.out] at h2'
                    rw [h1] at cMay
                    have H2 := Lib.hid (show (0 : Int) ≤ (kk : Int) ∧ (kk : Int) ≤ (t.length : Int) from ⟨h2, h2'⟩)
                    have H3 := Lib.hid h3
                    have H4 := Lib.hid (show (1 : Int) ≤ (mm : Int) ∧ (mm : Int) ≤ 999 from ⟨h4, h4'⟩)
                    clear h1 h2 h2' h3 h4 h4'
                    go_wp2_with (go_at_call 20; refine cMay.mono ?_; rintro e w10 ⟨rfl, hk10⟩; have a1 := cell_kept hk10 z1 id; have a2 := cell_kept hk10 z2 id; have a3 := cell_kept hk10 z3 id; have HKM := Lib.hid hk10; clear hk10 z1 z2 z3)
                    refine (znum_t H2.out _).mono ?_
                    rintro e w' ⟨rfl, hw⟩
                    have hw2 := hw.symm
                    clear hw
                    subst hw2
                    go_wp2_with (go_at_call 48; refine (word_t H3.out _).mono ?_; rintro e w11 ⟨rfl, hk11⟩; have l1 := cell_kept hk11 a1 id; have l2 := cell_kept hk11 a2 id; have l3 := cell_kept hk11 a3 id; have HKL := Lib.hid (HKM.out.trans hk11); clear hk11 a1 a2 a3)
                    refine (btw_t H4.out _).mono ?_
                    rintro e w' ⟨rfl, hw⟩
                    have hw2 := hw.symm
                    clear hw
                    subst hw2
                    go_wp2_with fail
                    have hRd := HR8.out.kept HKL.out (fun _ _ => id)
                    have HK11 := Lib.hid (HKV8.out.trans HKL.out)
                    have cR := fun (W : World) (hRe : Rn W (some ⟨rb, 0, none⟩) t.length t) => rword_told (c := cap) (X := X) (E := E) W HT2.out hRe HTl.out HG.out HTOLD.out
                    have cRd := cR w11.drew hRd
                    clear cR hRd
                    go_region_held3 (fun w' => w'.cell? (xad.add j) = some (.int .i64 (kk : Nat)) ∧ w'.cell? (kad.add k) = some (.int .i64 key) ∧ w'.cell? ⟨cb, q, none⟩ = some (.int .i64 (mm : Nat))) (first | exact ⟨l1, l2, l3⟩ | exact ⟨cell_kept hk12 l1 id, cell_kept hk12 l2 id, cell_kept hk12 l3 id⟩ | go_keep)
                      ((go_at_call 50; refine cRd.mono ?_; rintro e w12 ⟨rfl, hk12⟩))
                    have HK12 := Lib.hid ((Kept.refl (fun _ => False) w11).drew.trans hk12)
                    clear l1 l2 l3 cRd hk12 t1 t2 t3 t4
                    go_wp2_with (go_at_call 29; refine (num_any _ _).mono ?_; rintro e w' ⟨rfl, rfl⟩)
                    exact ⟨⟨q + 1, by omega, by go_num, HKV7.out.trans (HK11.out.trans HK12.out)⟩, by simp [intOf]; omega⟩
                  · obtain ⟨rfl, rfl⟩ := HTOLD.out.2 hgood
                    have hbad : mayB s = false ∨ (mayB s = true ∧ ¬ (0 ≤ x ∧ x ≤ (t.length : Int))) ∨ (mayB s = true ∧ (0 ≤ x ∧ x ≤ (t.length : Int)) ∧ ¬ Rw.Word key) ∨ (mayB s = true ∧ (0 ≤ x ∧ x ≤ (t.length : Int)) ∧ Rw.Word key ∧ ¬ (1 ≤ cnt ∧ cnt ≤ 999)) := by
                      have hg' : ¬ (mayB s = true ∧ (0 ≤ x ∧ x ≤ (t.length : Int)) ∧ Rw.Word key ∧ 1 ≤ cnt ∧ cnt ≤ 999) := by
                        intro h
                        apply hgood
                        unfold GoodW
                        rw [HT2.out]
                        exact h
                      by_cases h1 : mayB s = true
                      · by_cases h2 : 0 ≤ x ∧ x ≤ (t.length : Int)
                        · by_cases h3 : Rw.Word key
                          · exact .inr (.inr (.inr ⟨h1, h2, h3, fun h => hg' ⟨h1, h2, h3, h⟩⟩))
                          · exact .inr (.inr (.inl ⟨h1, h2, h3⟩))
                        · exact .inr (.inl ⟨h1, h2⟩)
                      · exact .inl (by simpa using h1)
                    clear hgood HTOLD t1 t2 t3 t4
                    rcases hbad with h1 | ⟨h1, h2⟩ | ⟨h1, h2, h3⟩ | ⟨h1, h2, h3, h4⟩
                    · rw [h1] at cMay
                      clear h1
                      go_wp2_with (go_at_call 20; refine cMay.mono ?_; rintro e w10 ⟨rfl, hk10⟩; have a1 := cell_kept hk10 z1 id; have a2 := cell_kept hk10 z2 id; have a3 := cell_kept hk10 z3 id; have HKM := Lib.hid hk10; clear hk10 z1 z2 z3)
                      refine (num_any _ _).mono ?_
                      rintro e w' ⟨rfl, rfl⟩
                      go_wp2_with fail
                      exact ⟨⟨q + 1, by omega, by go_num, HKV7.out.trans (HKV8.out.trans HKM.out)⟩, by simp [intOf]; omega⟩
                    · rw [h1] at cMay
                      have H2 := Lib.hid h2
                      clear h1 h2
                      go_wp2_with (go_at_call 20; refine cMay.mono ?_; rintro e w10 ⟨rfl, hk10⟩; have a1 := cell_kept hk10 z1 id; have a2 := cell_kept hk10 z2 id; have a3 := cell_kept hk10 z3 id; have HKM := Lib.hid hk10; clear hk10 z1 z2 z3)
                      refine (znum_f H2.out _).mono ?_
                      rintro e w' ⟨rfl, rfl⟩
                      go_wp2_with fail
                      refine (num_any _ _).mono ?_
                      rintro e w' ⟨rfl, rfl⟩
                      go_wp2_with fail
                      exact ⟨⟨q + 1, by omega, by go_num, HKV7.out.trans (HKV8.out.trans HKM.out)⟩, by simp [intOf]; omega⟩
                    · rw [h1] at cMay
                      have H2 := Lib.hid h2
                      have H3 := Lib.hid h3
                      clear h1 h2 h3
                      go_wp2_with (go_at_call 20; refine cMay.mono ?_; rintro e w10 ⟨rfl, hk10⟩; have a1 := cell_kept hk10 z1 id; have a2 := cell_kept hk10 z2 id; have a3 := cell_kept hk10 z3 id; have HKM := Lib.hid hk10; clear hk10 z1 z2 z3)
                      refine (znum_t H2.out _).mono ?_
                      rintro e w' ⟨rfl, rfl⟩
                      go_wp2_with (go_at_call 48; refine (word_f H3.out _).mono ?_; rintro e w11 ⟨rfl, hk11⟩; have l1 := cell_kept hk11 a1 id; have l2 := cell_kept hk11 a2 id; have l3 := cell_kept hk11 a3 id; have HKL := Lib.hid (HKM.out.trans hk11); clear hk11 a1 a2 a3)
                      refine (num_any _ _).mono ?_
                      rintro e w' ⟨rfl, rfl⟩
                      go_wp2_with fail
                      exact ⟨⟨q + 1, by omega, by go_num, HKV7.out.trans (HKV8.out.trans HKL.out)⟩, by simp [intOf]; omega⟩
                    · rw [h1] at cMay
                      have H2 := Lib.hid h2
                      have H3 := Lib.hid h3
                      have H4 := Lib.hid h4
                      clear h1 h2 h3 h4
                      go_wp2_with (go_at_call 20; refine cMay.mono ?_; rintro e w10 ⟨rfl, hk10⟩; have a1 := cell_kept hk10 z1 id; have a2 := cell_kept hk10 z2 id; have a3 := cell_kept hk10 z3 id; have HKM := Lib.hid hk10; clear hk10 z1 z2 z3)
                      refine (znum_t H2.out _).mono ?_
                      rintro e w' ⟨rfl, rfl⟩
                      go_wp2_with (go_at_call 48; refine (word_t H3.out _).mono ?_; rintro e w11 ⟨rfl, hk11⟩; have l1 := cell_kept hk11 a1 id; have l2 := cell_kept hk11 a2 id; have l3 := cell_kept hk11 a3 id; have HKL := Lib.hid (HKM.out.trans hk11); clear hk11 a1 a2 a3)
                      refine (btw_f H4.out _).mono ?_
                      rintro e w' ⟨rfl, rfl⟩
                      go_wp2_with fail
                      refine (num_any _ _).mono ?_
                      rintro e w' ⟨rfl, rfl⟩
                      go_wp2_with fail
                      exact ⟨⟨q + 1, by omega, by go_num, HKV7.out.trans (HKV8.out.trans HKL.out)⟩, by simp [intOf]; omega⟩
                · obtain rfl : q = 3 := by omega
                  go_wp2_with fail
                  go_roundw
                  case rel => exact ⟨j + 1, by omega, by go_num, HKV6.out.trans hkq⟩
                  case measure => simp [intOf]; omega
            · have b5 : decide (j < m) = false := by simp; omega
              go_wp2_with fail
              go_roundw
              case rel => exact ⟨k + 1, by omega, by go_num, HKK.out.trans HKJ.out⟩
              case measure => simp [intOf]; omega
        · obtain rfl : k = kn := by omega
          go_wp2_with fail
          go_roundw
          case rel => exact ⟨i + 1, by omega, by omega, by go_num, HKW3.out.trans HKK.out⟩
          case measure => simp [intOf]; omega
    · have hlast : (i = n0 ∧ i < 4) ∨ (i < n0 ∧ i = 4) ∨ (i = n0 ∧ i = 4) := by omega
      have cW := wakes_any wi HHi.out.tabs
      rcases hlast with ⟨h1, h2⟩ | ⟨h1, h2⟩ | ⟨h1, h2⟩
      case' inl | inr.inr => have b1 : decide (i < n0) = false := by simp; omega
      case' inr.inl =>
        have b1 : decide (i < n0) = true := by simp; omega
        have b2 : decide (i < 4) = false := by simp; omega
        have b3 : decide ((i : Int) < 4) = false := by simp; omega
      all_goals
        clear h1 h2
        go_wp2_with (go_at_call 32; refine cW.mono ?_; rintro e w9 ⟨rfl, hk9⟩)
        go_ret
        exact ⟨rfl, HKi.out.trans hk9⟩
end Go.Proofs.YtclmcieegoobkaaDoor
