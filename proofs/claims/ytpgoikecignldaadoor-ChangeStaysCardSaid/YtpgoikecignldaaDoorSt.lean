/-
  ChangeStays: the law's walk.
-/
import Derived.Test.YtpgoikecignldaaDoorStA
import Derived.BigQuiet
set_option linter.unusedVariables false
namespace Go.Proofs.YtpgoikecignldaaDoor
open Go Go.RowKit

/-- What the law's loops hold of every world. -/
structure HeldV (w : World) (pb : Nat) (p : AskV) : Prop where
  pb : PB w pb p
  ask : AskOk w p
  tabs : Tabs w
  mx : Mx w
theorem HeldV.kept {w w' : World} {pb : Nat} {p : AskV} (h : HeldV w pb p) (hk : Kept (fun _ => False) w w') : HeldV w' pb p := ⟨h.pb.kept hk id, h.ask.kept hk, h.tabs.kept hk id id, h.mx.kept hk⟩
structure HeldW (w : World) (pb : Nat) (p : AskV) (tb : Nat) (t : List Int) (rb : Nat) (l : List (Int × Int × Bool)) : Prop where
  c : HeldV w pb p
  rn : Rn w (some ⟨tb, 0, none⟩) t.length t
  rngs : Rngs w (some ⟨rb, 0, none⟩) 15 l
theorem HeldW.kept {w w' : World} {pb : Nat} {p : AskV} {tb : Nat} {t : List Int} {rb : Nat} {l : List (Int × Int × Bool)} (h : HeldW w pb p tb t rb l) (hk : Kept (fun _ => False) w w') : HeldW w' pb p tb t rb l :=
  ⟨h.c.kept hk, h.rn.kept hk (fun _ _ => id), h.rngs.kept hk (fun _ _ => id)⟩
/-- A change's block, kept. -/
def ChB (w : World) (g : Nat) (A D : Int) (P : ByteArray) : Prop := ∃ (X : Int) (K : ByteArray) (l : Bool), w.heap[g]? = some (chgO A D P X K l)
theorem ChB.kept {w w' : World} {g : Nat} {A D : Int} {P : ByteArray} (h : ChB w g A D P) (hk : Kept (fun _ => False) w w') : ChB w' g A D P := by
  obtain ⟨X, K, l, h⟩ := h
  exact ⟨X, K, l, (hk.block g (heap_lt h) id).trans h⟩
theorem ChB.cells {w : World} {g : Nat} {A D : Int} {P : ByteArray} (h : ChB w g A D P) : w.cell? ⟨g, 0, none⟩ = some (.int .i64 A) ∧ w.cell? ⟨g, 1, none⟩ = some (.int .i64 D) ∧ w.cell? ⟨g, 2, none⟩ = some (.string P) := by
  obtain ⟨X, K, l, h⟩ := h
  obtain ⟨⟨h0, h1, h2, _⟩, _⟩ := chg_facts h
  exact ⟨h0, h1, h2⟩
/-- An operation of a region that isn't wanted. -/
theorem take_no {P : Program} {ops : Array Oper} {Q : Exit → Act → World → Prop} {md : Region.Mode} {S : World → Prop} {i d : Nat} {oi : Oper} {fuel : Nat} {listed : Array Bool} {a : Act} {w : World} (hi : ops[i]? = some oi) (hd : oi.dst = some d)
    (hs : Region.noSelect ops = true) (hf : Region.free md ops listed i = true) (hr : (Region.ready md ops listed).contains i = true)
    (hQ : ∀ c a w, Q (.panic c) (a.put (some d) undef) w → Q (.panic c) a w) (hw : Region.wanted oi (yielded ops a.tmps) = false) (hS : S w)
    (h : wpAnyH P md ops Q S fuel (listed.setIfInBounds i true) (a.put (some d) undef) w) : wpAnyH P md ops Q S (fuel + 1) listed a w :=
  wpAnyH_take hi hs hf hr (by rw [hd]; exact hQ) (Or.inr ⟨hw, rfl⟩) hS (by rw [hd]; exact h)
theorem take_yes {P : Program} {ops : Array Oper} {Q : Exit → Act → World → Prop} {md : Region.Mode} {S : World → Prop} {i d : Nat} {v : Value} {oi : Oper} {fuel : Nat} {listed : Array Bool} {a : Act} {w : World} (hi : ops[i]? = some oi) (hd : oi.dst = some d)
    (hs : Region.noSelect ops = true) (hf : Region.free md ops listed i = true) (hr : (Region.ready md ops listed).contains i = true)
    (hQ : ∀ c a w, Q (.panic c) (a.put (some d) v) w → Q (.panic c) a w) (hy : YieldsIf P ops S oi v a) (hS : S w)
    (h : wpAnyH P md ops Q S fuel (listed.setIfInBounds i true) (a.put (some d) v) w) : wpAnyH P md ops Q S (fuel + 1) listed a w :=
  wpAnyH_take hi hs hf hr (by rw [hd]; exact hQ) hy hS (by rw [hd]; exact h)
set_option maxRecDepth 100000 in
set_option maxHeartbeats 40000000 in
theorem changeStays_any (p : AskV) (w : World) (hp : AskOk w p) (hT : Tabs w) (hM : Mx w) :
    Calls Tryd.prog 3 #[.agg p.cells] w fun e w' => e = .returned (.bool true) ∧ Kept (fun _ => False) w w' := by
  have hK0 : Hid (Kept (fun _ => False) w (w.alloc (.cells p.cells 28))) := (Kept.refl _ w).alloc _
  have hH0 : Hid (HeldV (w.alloc (.cells p.cells 28)) w.heap.size p) := ⟨heap_alloc_new w _, hp.kept hK0.out, hT.kept hK0.out id id, hM.kept hK0.out⟩
  have cH := heavy10_any p (w.alloc (.cells p.cells 28)) hH0.out.ask
  have cRG := fun R n c t W hR hn => ranges_any p R n c t W hR hn
  have HCRG := Lib.hid cRG
  clear hp hT hM cRG
  obtain ⟨A, n0, c0, ss, xa, xb, xr, xc, xk, xn, xq⟩ := p
  unfold AskV.cells at *
  simp only at *
  go_enter Tryd.func3, Tryd.ntmps3
  go_wp2_with (go_at_call 4; refine cH.mono ?_; rintro e w1 ⟨⟨hv, rfl, hsm⟩, hk1⟩; have HS := Lib.hid hsm; have HK1 := Lib.hid (hK0.out.trans hk1); have HH := Lib.hid (hH0.out.kept hk1); clear hsm hk1 hH0 hK0 cH)
  · exact bodyPost_ret (results_tmp rfl _ _ _) rfl ⟨rfl, HK1.out⟩
  have hv0 : hv = false := by assumption
  subst hv0
  have HSS := Lib.hid (HS.out rfl)
  clear HS
  generalize hpb : w.heap.size = pb at HH ⊢
  have HPB := Lib.hid hpb
  clear hpb
  go_loopw [3] (fun v wr => ∃ i : Nat, i ≤ n0 ∧ i ≤ 3 ∧ v = .int .i64 i ∧ Kept (fun _ => False) w1 wr) (fun v _ => n0 - (intOf v).toNat)
  case atStart => exact ⟨0, Nat.zero_le _, Nat.zero_le _, rfl, Kept.refl _ _⟩
  case round =>
    obtain ⟨i, hi, hi4, rfl, hki⟩ := hrel
    obtain ⟨wi, hwi⟩ : ∃ wi, wi = wr := ⟨_, rfl⟩
    subst hwi
    have HKi := Lib.hid (HK1.out.trans hki)
    have HHi := Lib.hid (HH.out.kept hki)
    have HKW := Lib.hid hki
    clear hki
    have p0 : wi.cell? ⟨pb, 0, none⟩ = some (.slice A n0 c0) := HHi.out.pb.c 0
    by_cases hgo : i < n0 ∧ i < 3
    · obtain ⟨g1, g2⟩ := hgo
      obtain ⟨ad, s, rfl, hs, hsc, _⟩ := HHi.out.ask.ss.cell g1
      have hsz : s.size ≤ 6000 := HSS.out s (List.mem_of_getElem? hs)
      have hl := rs_len s
      clear hs
      obtain ⟨cap, w2, hcap, hcv, hk2, hlt2, hR⟩ := conv_rs s wi (by omega)
      have HL : Hid ((rs s).length ≤ 6000) := by show _ ≤ _; omega
      obtain ⟨t, ht⟩ : ∃ t, rs s = t := ⟨_, rfl⟩
      rw [ht] at hcap hcv hR HL hl
      have HTT := Lib.hid ht
      have HK2 := Lib.hid (HKW.out.trans hk2)
      have HH2 := Lib.hid (HHi.out.kept hk2)
      have HR := Lib.hid hR
      have b1 : decide (i < n0) = true := by simp; omega
      have b2 : decide (i < 3) = true := by simp; omega
      have b3 : decide ((i : Int) < 3) = true := by simp; omega
      have hi0 : (0 : Int) ≤ (i : Int) := by omega
      have hiN : (i : Int) < (n0 : Int) := by omega
      clear hk2 hR ht hlt2
      generalize hrb : wi.heap.size = tb at HR hcv
      clear hrb
      have cMay := rmay_any s w2 (by omega) HH2.out.tabs
      go_wp2_with fail
      clear b1 b2 b3 p0 hsc hcv
      cases hm : mayB s with
      | false =>
        rw [hm] at cMay
        clear hm
        refine cMay.mono ?_
        rintro e w3 ⟨rfl, hk3⟩
        go_wp2_with fail
        go_roundw
        case rel => exact ⟨i + 1, by omega, by omega, by go_num, HK2.out.trans hk3⟩
        case measure => simp [intOf]; omega
      | true =>
        rw [hm] at cMay
        have HM := Lib.hid hm
        clear hm
        refine cMay.mono ?_
        rintro e w3 ⟨rfl, hk3⟩
        have HK3 := Lib.hid (HK2.out.trans hk3)
        have HH3 := Lib.hid (HH2.out.kept hk3)
        have HR3 := Lib.hid (HR.out.kept hk3 (fun _ _ => id))
        clear hk3 cMay
        by_cases hbig : 1000 < s.size
        · have b1 : decide (1000 < s.size) = true := decide_eq_true hbig
          have b2 : decide (1000 < (s.size : Int)) = true := decide_eq_true (by omega)
          go_wp2_with fail
          go_roundw
          case rel => exact ⟨i + 1, by omega, by omega, by go_num, HK3.out⟩
          case measure => simp [intOf]; omega
        · have b1 : decide (1000 < s.size) = false := decide_eq_false hbig
          have b2 : decide (1000 < (s.size : Int)) = false := decide_eq_false (by omega)
          have hs1 : s.size ≤ 1000 := by omega
          have q0 : w3.cell? ⟨pb, 0, none⟩ = some (.slice (some ad) n0 c0) := HH3.out.pb.c 0
          have q1 : w3.cell? ⟨pb, 1, none⟩ = some (.int .i64 xa) := HH3.out.pb.c 1
          have q2 : w3.cell? ⟨pb, 2, none⟩ = some (.int .i64 xb) := HH3.out.pb.c 2
          have q3 : w3.cell? ⟨pb, 3, none⟩ = some (.int .i64 xr) := HH3.out.pb.c 3
          have q4 : w3.cell? ⟨pb, 4, none⟩ = some (.int .i64 xc) := HH3.out.pb.c 4
          have q5 : w3.cell? ⟨pb, 5, none⟩ = some (.int .i64 xk) := HH3.out.pb.c 5
          have q6 : w3.cell? ⟨pb, 6, none⟩ = some (.int .i64 xn) := HH3.out.pb.c 6
          have q7 : w3.cell? ⟨pb, 7, none⟩ = some (.int .i64 xq) := HH3.out.pb.c 7
          have cO := HCRG.out (some ⟨tb, 0, none⟩) t.length cap t w3 HR3.out (by have := HL.out; omega)
          clear hbig
          go_wp2_with (go_at_call 6; refine cO.mono ?_; rintro e w4 ⟨hk4, rb, rc, rl, rfl, hrs⟩; have HK4 := Lib.hid (HK3.out.trans hk4); have HW4 : Hid (HeldW w4 pb _ tb t rb rl) := ⟨HH3.out.kept hk4, HR3.out.kept hk4 (fun _ _ => id), hrs⟩; clear hk4 hrs q0 q1 q2 q3 q4 q5 q6 q7 cO b1 b2 HK3 HH3 HR3 HK2 HH2 HR)
          go_loopw [7] (fun v wr => ∃ j : Nat, j ≤ 15 ∧ v = .int .i64 j ∧ Kept (fun _ => False) w4 wr) (fun v _ => 15 - (intOf v).toNat)
          case atStart => exact ⟨0, Nat.zero_le _, rfl, Kept.refl _ _⟩
          case round =>
            obtain ⟨j, hj, rfl, hkj⟩ := hrel
            obtain ⟨wj, hwj⟩ : ∃ wj, wj = wr := ⟨_, rfl⟩
            subst hwj
            have HKV := Lib.hid hkj
            have HWj := Lib.hid (HW4.out.kept hkj)
            clear hkj
            by_cases hj15 : j < 15
            · have b4 : decide (j < 15) = true := by simp; omega
              have b5 : decide ((j : Int) < 15) = true := by simp; omega
              obtain ⟨⟨lo, hi', ln⟩, hr⟩ : ∃ r, rl[j]? = some r := ⟨_, List.getElem?_eq_getElem (by rw [HWj.out.rngs.1]; exact hj15)⟩
              obtain ⟨_, erb, cR0, cR1, cR2⟩ := HWj.out.rngs.2 j _ hr
              injection erb with erb
              injection erb with erb
              subst erb
              simp only at cR0 cR1 cR2
              clear hr
              have hj0 : (0 : Int) ≤ (j : Int) := by omega
              have hj15i : (j : Int) < 15 := by omega
              rw [Nat.mul_comm 3 j] at cR0 cR1 cR2
              have HKS : Hid (∀ W, Kept (fun _ => False) wj W → W.cell? ⟨rb, j * 3, none⟩ = some (.int .i64 lo) ∧ W.cell? ⟨rb, j * 3 + 1, none⟩ = some (.int .i64 hi') ∧ W.cell? ⟨rb, j * 3 + 2, none⟩ = some (.bool ln)) := fun W h => ⟨cell_kept h cR0 id, cell_kept h cR1 id, cell_kept h cR2 id⟩
              by_cases hg : RngI t lo hi' ln
              · obtain ⟨a, b, rfl, rfl, hrng⟩ := hg
                have hrI : RngI t (a : Int) (b : Int) ln := ⟨a, b, rfl, rfl, hrng⟩
                obtain ⟨x, z, B0, B1, D0, D1, Y0, Y1, X1, X2, X3, X4, B2, D2, Y2, TK, hzs, haz, fY, fB, fD, fX, ⟨mB, aB⟩, ⟨mD, aD⟩, ⟨mY, aY⟩, hback⟩ := stay_facts s a b ln HM.out hs1 (by rw [HTT.out]; exact hrng)
                have HFY := Lib.hid fY
                have HFB := Lib.hid fB
                have HFD := Lib.hid fD
                have HFX := Lib.hid fX
                have HMB := Lib.hid mB
                have HMD := Lib.hid mD
                have HMY := Lib.hid mY
                have HAB := Lib.hid aB
                have HAD := Lib.hid aD
                have HAY := Lib.hid aY
                have HBK := Lib.hid hback
                have HRG := Lib.hid hrng
                clear fY fB fD fX mB mD mY aB aD aY hback hrng
                have cRn := rrange_any (some ⟨tb, 0, none⟩) t.length cap t (a : Int) (b : Int) ln true wj HWj.out.rn (by have := HL.out; omega) ⟨fun _ => hrI, fun _ => rfl⟩
                clear hrI
                go_wp2_with fail
                clear b4 b5
                refine cRn.mono ?_
                rintro e v1 ⟨rfl, hk1⟩
                have J1 := Lib.hid hk1
                have W1 := Lib.hid (HWj.out.kept hk1)
                clear hk1 cRn cR0 cR1 cR2
                obtain ⟨r0, r1, r2⟩ := HKS.out _ J1.out
                go_wp2_with fail
                refine (HFY.out v1 W1.out.c.tabs W1.out.c.mx).mono ?_
                rintro e v2 ⟨rfl, hk2⟩
                have J2 : Hid (Kept (fun _ => False) wj (v2.alloc (chgO 0 0 ⟨#[]⟩ X1 TK ln))) := (J1.out.trans hk2).alloc _
                have h8 : ChB (v2.alloc (chgO 0 0 ⟨#[]⟩ X1 TK ln)) v2.heap.size 0 0 ⟨#[]⟩ := ⟨X1, TK, ln, heap_alloc_new v2 _⟩
                clear hk2 r0 r1 r2
                obtain ⟨r0, r1, r2⟩ := HKS.out _ J2.out
                go_wp2_with fail
                generalize v2.alloc (chgO 0 0 ⟨#[]⟩ X1 TK ln) = v3 at *
                generalize v2.heap.size = g8 at *
                have H8 := Lib.hid h8
                have W3 := Lib.hid (HWj.out.kept J2.out)
                clear h8
                refine (HFB.out v3 W3.out.c.tabs W3.out.c.mx).mono ?_
                rintro e v4 ⟨rfl, hk4⟩
                have J4 : Hid (Kept (fun _ => False) wj (v4.alloc (chgO B0 B1 B2 X2 ⟨#[]⟩ false))) := (J2.out.trans hk4).alloc _
                have h8 := H8.out.kept (hk4.alloc (chgO B0 B1 B2 X2 ⟨#[]⟩ false))
                have h10 : ChB (v4.alloc (chgO B0 B1 B2 X2 ⟨#[]⟩ false)) v4.heap.size B0 B1 B2 := ⟨X2, _, _, heap_alloc_new v4 _⟩
                clear hk4 r0 r1 r2
                obtain ⟨r0, r1, r2⟩ := HKS.out _ J4.out
                go_wp2_with fail
                generalize v4.alloc (chgO B0 B1 B2 X2 ⟨#[]⟩ false) = v5 at *
                generalize v4.heap.size = g10 at *
                have H8 := Lib.hid h8
                have H10 := Lib.hid h10
                have W5 := Lib.hid (HWj.out.kept J4.out)
                clear h8 h10
                refine (HFD.out v5 W5.out.c.tabs W5.out.c.mx).mono ?_
                rintro e v6 ⟨rfl, hk6⟩
                have J6 : Hid (Kept (fun _ => False) wj (v6.alloc (chgO D0 D1 D2 X3 ⟨#[]⟩ false))) := (J4.out.trans hk6).alloc _
                have h8 := H8.out.kept (hk6.alloc (chgO D0 D1 D2 X3 ⟨#[]⟩ false))
                have h10 := H10.out.kept (hk6.alloc (chgO D0 D1 D2 X3 ⟨#[]⟩ false))
                have h12 : ChB (v6.alloc (chgO D0 D1 D2 X3 ⟨#[]⟩ false)) v6.heap.size D0 D1 D2 := ⟨X3, _, _, heap_alloc_new v6 _⟩
                clear hk6 r0 r1 r2
                go_wp2_with fail
                generalize v6.alloc (chgO D0 D1 D2 X3 ⟨#[]⟩ false) = v7 at *
                generalize v6.heap.size = g12 at *
                have H10 := Lib.hid h10
                have H12 := Lib.hid h12
                have W7 := Lib.hid (HWj.out.kept J6.out)
                obtain ⟨d0, d1, d2⟩ := h8.cells
                obtain ⟨d3, d4, d5⟩ := h10.cells
                clear h8 h10 h12
                go_wp2_with (go_at_call 9; refine (lnum_any _ _).mono ?_; rintro e w' ⟨rfl, hw⟩; have hw2 := hw.symm; subst hw2)
                refine (HMB.out v7 W7.out.c.tabs).mono ?_
                rintro e v8 ⟨rfl, hk8⟩
                have W8 := Lib.hid (W7.out.kept hk8)
                have J8 := Lib.hid (J6.out.trans hk8)
                have H10 := Lib.hid (H10.out.kept hk8)
                have h12 := H12.out.kept hk8
                obtain ⟨e0, e1, e2⟩ := h12.cells
                clear d0 d1 d2 d3 d4 d5 hk8
                go_wp2_with fail
                refine (HMD.out v8 W8.out.c.tabs).mono ?_
                rintro e v9 ⟨rfl, hk9⟩
                have W9 := Lib.hid (W8.out.kept hk9)
                have J9 := Lib.hid (J8.out.trans hk9)
                have h10 := H10.out.kept hk9
                have h12 := h12.kept hk9
                clear e0 e1 e2 hk9
                go_upto_region 19 with fail
                have HQ : Hid (∀ W, Kept (fun _ => False) v9 W → (W.cell? ⟨g10, 0, none⟩ = some (.int .i64 B0) ∧ W.cell? ⟨g10, 1, none⟩ = some (.int .i64 B1) ∧ W.cell? ⟨g10, 2, none⟩ = some (.string B2)) ∧ W.cell? ⟨g12, 0, none⟩ = some (.int .i64 D0) ∧ W.cell? ⟨g12, 1, none⟩ = some (.int .i64 D1) ∧ W.cell? ⟨g12, 2, none⟩ = some (.string D2)) := fun W h => ⟨(h10.kept h).cells, (h12.kept h).cells⟩
                clear h10 h12
                have HC : Hid (Kept (fun _ => False) v9 v9.drew) := (Kept.refl (fun _ => False) v9).drew
                have KC := HQ.out _ HC.out
                go_cut [14, 15] from 127 to 134 (fun s14 s15 wx => s14 = .string x ∧ s15 = .string z ∧ Kept (fun _ => False) v9 wx)
                case first =>
                  as_aux_lemma =>
                    go_region_held3 (fun (W : World) => (W.cell? ⟨g10, 0, none⟩ = some (.int .i64 B0) ∧ W.cell? ⟨g10, 1, none⟩ = some (.int .i64 B1) ∧ W.cell? ⟨g10, 2, none⟩ = some (.string B2)) ∧ W.cell? ⟨g12, 0, none⟩ = some (.int .i64 D0) ∧ W.cell? ⟨g12, 1, none⟩ = some (.int .i64 D1) ∧ W.cell? ⟨g12, 2, none⟩ = some (.string D2))
                      (with_reducible exact KC)
                      ((go_at_call 11; (first | with_reducible refine (HAB.out _).mono ?_ | with_reducible refine (HAD.out _).mono ?_); rintro e vv ⟨rfl, hkv⟩; have HC := Lib.hid (HC.out.trans hkv); have KC := HQ.out _ HC.out; clear hkv))
                    all_goals
                      go_wp2_with fail
                      go_meet
                      exact ⟨rfl, rfl, HC.out⟩
                case rest =>
                  as_aux_lemma =>
                    obtain ⟨rfl, rfl, hk10⟩ := hcut
                    obtain ⟨v10, hv10⟩ : ∃ v, v = wc := ⟨_, rfl⟩
                    subst hv10
                    clear KC HC HQ
                    have J10 := Lib.hid (J9.out.trans hk10)
                    have W10 := Lib.hid (W9.out.kept hk10)
                    clear hk10
                    obtain ⟨r0, r1, r2⟩ := HKS.out _ J10.out
                    go_wp2_with fail
                    refine (HFX.out v10 W10.out.c.tabs W10.out.c.mx).mono ?_
                    rintro e v11 ⟨rfl, hk11⟩
                    have J12 : Hid (Kept (fun _ => False) wj (v11.alloc (chgO Y0 Y1 Y2 X4 ⟨#[]⟩ false))) := (J10.out.trans hk11).alloc _
                    have h16 : ChB (v11.alloc (chgO Y0 Y1 Y2 X4 ⟨#[]⟩ false)) v11.heap.size Y0 Y1 Y2 := ⟨X4, _, _, heap_alloc_new v11 _⟩
                    clear hk11 r0 r1 r2
                    go_wp2_with fail
                    generalize v11.alloc (chgO Y0 Y1 Y2 X4 ⟨#[]⟩ false) = v12 at *
                    generalize v11.heap.size = g16 at *
                    have H16 := Lib.hid h16
                    have W12 := Lib.hid (HWj.out.kept J12.out)
                    obtain ⟨d0, d1, d2⟩ := h16.cells
                    clear h16
                    go_wp2_with (go_at_call 9; refine (lnum_any _ _).mono ?_; rintro e w' ⟨rfl, hw⟩; have hw2 := hw.symm; subst hw2)
                    refine (HMY.out v12 W12.out.c.tabs).mono ?_
                    rintro e v13 ⟨rfl, hk13⟩
                    have J13 := Lib.hid (J12.out.trans hk13)
                    have h16 := H16.out.kept hk13
                    clear d0 d1 d2 hk13
                    obtain ⟨d0, d1, d2⟩ := h16.cells
                    clear h16
                    go_wp2_with fail
                    refine (HAY.out v13).mono ?_
                    rintro e v14 ⟨rfl, hk14⟩
                    have J14 := Lib.hid (J13.out.trans hk14)
                    have W14 := Lib.hid (HWj.out.kept J14.out)
                    clear d0 d1 d2 hk14
                    go_upto_region 23 with fail
                    have hlz := rs_len z
                    have hlz2 : (rs z).length ≤ 6000 := by omega
                    obtain ⟨cz, v15, hcz, hcvz, hk15, _, hRz⟩ := conv_rs z v14.drew (by omega)
                    obtain ⟨ccC, vC, hccC, hcvC, hkC, _, hRC⟩ := conv_rs z (v14.alloc (rngO 0 0 false)).drew (by omega)
                    obtain ⟨tz, htz⟩ : ∃ n, v14.drew.heap.size = n := ⟨_, rfl⟩
                    obtain ⟨tC, htC⟩ : ∃ n, (v14.alloc (rngO 0 0 false)).drew.heap.size = n := ⟨_, rfl⟩
                    rw [htz] at hcvz hRz
                    rw [htC] at hcvC hRC
                    clear htz htC
                    obtain ⟨BG, hBG⟩ : ∃ BG, Rw.beg (rs z) a = BG := ⟨_, rfl⟩
                    obtain ⟨EN, hEN⟩ : ∃ EN, Rw.en (rs z) a = EN := ⟨_, rfl⟩
                    have hkB : Kept (fun _ => False) v15 (v15.alloc (rngO 0 0 false)) := (Kept.refl _ v15).alloc _
                    have cBt := b15_rows (some ⟨tz, 0, none⟩) (rs z).length cz (rs z) a v15 hRz haz hlz2
                    have cBtB := b15_rows (some ⟨tz, 0, none⟩) (rs z).length cz (rs z) a (v15.alloc (rngO 0 0 false)) (hRz.kept hkB (fun _ _ => id)) haz hlz2
                    have cBtC := b15_rows (some ⟨tC, 0, none⟩) (rs z).length ccC (rs z) a vC hRC haz hlz2
                    rw [hBG, hEN] at cBt cBtB cBtC
                    have HBG := Lib.hid hBG
                    have HEN := Lib.hid hEN
                    clear hBG hEN
                    obtain ⟨k0, _, _⟩ := HKS.out _ J14.out.drew
                    have hrlt : rb < v14.heap.size := World.block_lt_of_cell? v14.drew ⟨rb, j * 3, none⟩ k0
                    have K0 : v14.drew.cell? ⟨rb, j * 3, none⟩ = some (.int .i64 (a : Int)) := k0
                    have K0C : (v14.alloc (rngO 0 0 false)).drew.cell? ⟨rb, j * 3, none⟩ = some (.int .i64 (a : Int)) := cell_kept ((Kept.refl (fun _ => False) v14).alloc (rngO 0 0 false)).drew K0 id
                    have K1 := cell_kept hk15 K0 id
                    have K1B := cell_kept hkB K1 id
                    have K1C := cell_kept hkC K0C id
                    have hBB : (v15.alloc (rngO 0 0 false)).heap[v15.heap.size]? = some (rngO 0 0 false) := heap_alloc_new v15 _
                    have hCC : vC.heap[v14.heap.size]? = some (rngO 0 0 false) := (hkC.block v14.heap.size (by simp [World.drew]) id).trans (heap_alloc_new v14 _)
                    have hs15 : v14.heap.size ≤ v15.heap.size := hk15.size
                    generalize (rs z).length = lz at *
                    clear hRz hRC k0
                    go_cut [18] from 162 to 174 (fun s18 wx => ∃ g18, s18 = .pointer (some ⟨g18, 0, none⟩) ∧ wx.heap[g18]? = some (rngO (BG : Nat) (EN : Nat) true) ∧ Kept (fun _ => False) v14 wx)
                    case first =>
                      as_aux_lemma =>
                        refine wp_region_held_drew (S := (fun (W : World) => W.cell? ⟨rb, j * 3, none⟩ = some (.int .i64 (a : Int)))) (by kernel_rfl) K0 (fun _ => ?_)
                        refine take_yes (i := 0) (d := 162) (v := .string z) rfl rfl (by kernel_rfl) (by kernel_rfl) (by kernel_rfl) (fun _ _ _ h => h) (Or.inl ⟨by rfl, fun w hS => by (have s0 : w.cell? ⟨rb, j * 3, none⟩ = some (.int .i64 (a : Int)) := hS); go_simp⟩) K0 ?_
                        simp only [Act.put, List.setIfInBounds_toArray, List.set_cons_zero, List.set_cons_succ]
                        refine take_yes (i := 2) (d := 164) (v := .slice (some ⟨rb, 0, none⟩) 15 rc) rfl rfl (by kernel_rfl) (by kernel_rfl) (by kernel_rfl) (fun _ _ _ h => h) (Or.inl ⟨by rfl, fun w hS => by (have s0 : w.cell? ⟨rb, j * 3, none⟩ = some (.int .i64 (a : Int)) := hS); go_simp⟩) K0 ?_
                        simp only [Act.put, List.setIfInBounds_toArray, List.set_cons_zero, List.set_cons_succ]
                        refine take_yes (i := 3) (d := 165) (v := .int .i64 (j : Int)) rfl rfl (by kernel_rfl) (by kernel_rfl) (by kernel_rfl) (fun _ _ _ h => h) (Or.inl ⟨by rfl, fun w hS => by (have s0 : w.cell? ⟨rb, j * 3, none⟩ = some (.int .i64 (a : Int)) := hS); go_simp⟩) K0 ?_
                        simp only [Act.put, List.setIfInBounds_toArray, List.set_cons_zero, List.set_cons_succ]
                        refine take_yes (i := 4) (d := 166) (v := .pointer (some ⟨rb, j * 3, none⟩)) rfl rfl (by kernel_rfl) (by kernel_rfl) (by kernel_rfl) (fun _ _ _ h => h) (Or.inl ⟨by rfl, fun w hS => by (have s0 : w.cell? ⟨rb, j * 3, none⟩ = some (.int .i64 (a : Int)) := hS); go_simp⟩) K0 ?_
                        simp only [Act.put, List.setIfInBounds_toArray, List.set_cons_zero, List.set_cons_succ]
                        refine take_yes (i := 5) (d := 167) (v := .pointer (some ⟨rb, j * 3, none⟩)) rfl rfl (by kernel_rfl) (by kernel_rfl) (by kernel_rfl) (fun _ _ _ h => h) (Or.inl ⟨by rfl, fun w hS => by (have s0 : w.cell? ⟨rb, j * 3, none⟩ = some (.int .i64 (a : Int)) := hS); go_simp⟩) K0 ?_
                        simp only [Act.put, List.setIfInBounds_toArray, List.set_cons_zero, List.set_cons_succ]
                        refine take_yes (i := 6) (d := 168) (v := .int .i64 (a : Int)) rfl rfl (by kernel_rfl) (by kernel_rfl) (by kernel_rfl) (fun _ _ _ h => h) (Or.inl ⟨by rfl, fun w hS => by (have s0 : w.cell? ⟨rb, j * 3, none⟩ = some (.int .i64 (a : Int)) := hS); go_simp⟩) K0 ?_
                        simp only [Act.put, List.setIfInBounds_toArray, List.set_cons_zero, List.set_cons_succ]
                        refine take_yes (i := 7) (d := 169) (v := .slice (some ⟨rb, 0, none⟩) 15 rc) rfl rfl (by kernel_rfl) (by kernel_rfl) (by kernel_rfl) (fun _ _ _ h => h) (Or.inl ⟨by rfl, fun w hS => by (have s0 : w.cell? ⟨rb, j * 3, none⟩ = some (.int .i64 (a : Int)) := hS); go_simp⟩) K0 ?_
                        simp only [Act.put, List.setIfInBounds_toArray, List.set_cons_zero, List.set_cons_succ]
                        refine take_yes (i := 8) (d := 170) (v := .int .i64 (j : Int)) rfl rfl (by kernel_rfl) (by kernel_rfl) (by kernel_rfl) (fun _ _ _ h => h) (Or.inl ⟨by rfl, fun w hS => by (have s0 : w.cell? ⟨rb, j * 3, none⟩ = some (.int .i64 (a : Int)) := hS); go_simp⟩) K0 ?_
                        simp only [Act.put, List.setIfInBounds_toArray, List.set_cons_zero, List.set_cons_succ]
                        refine take_yes (i := 9) (d := 171) (v := .pointer (some ⟨rb, j * 3, none⟩)) rfl rfl (by kernel_rfl) (by kernel_rfl) (by kernel_rfl) (fun _ _ _ h => h) (Or.inl ⟨by rfl, fun w hS => by (have s0 : w.cell? ⟨rb, j * 3, none⟩ = some (.int .i64 (a : Int)) := hS); go_simp⟩) K0 ?_
                        simp only [Act.put, List.setIfInBounds_toArray, List.set_cons_zero, List.set_cons_succ]
                        refine take_yes (i := 10) (d := 172) (v := .pointer (some ⟨rb, j * 3, none⟩)) rfl rfl (by kernel_rfl) (by kernel_rfl) (by kernel_rfl) (fun _ _ _ h => h) (Or.inl ⟨by rfl, fun w hS => by (have s0 : w.cell? ⟨rb, j * 3, none⟩ = some (.int .i64 (a : Int)) := hS); go_simp⟩) K0 ?_
                        simp only [Act.put, List.setIfInBounds_toArray, List.set_cons_zero, List.set_cons_succ]
                        refine take_yes (i := 11) (d := 173) (v := .int .i64 (a : Int)) rfl rfl (by kernel_rfl) (by kernel_rfl) (by kernel_rfl) (fun _ _ _ h => h) (Or.inl ⟨by rfl, fun w hS => by (have s0 : w.cell? ⟨rb, j * 3, none⟩ = some (.int .i64 (a : Int)) := hS); go_simp⟩) K0 ?_
                        simp only [Act.put, List.setIfInBounds_toArray, List.set_cons_zero, List.set_cons_succ]
                        refine wpAnyH_ready (rs := [1, 13]) (by kernel_rfl) (by simp) ?_
                        refine AllReadyH.cons rfl (fun K hK => ?_) (AllReadyH.cons rfl (fun K hK => ?_) AllReadyH.nil)
                        · go_simp
                          refine hK.out _ _ K1 (fun _ => ?_)
                          clear hK K
                          try simp only [Act.put, List.setIfInBounds_toArray, List.set_cons_zero, List.set_cons_succ]
                          refine wpAnyH_ready (rs := [12, 13]) (by kernel_rfl) (by simp) ?_
                          refine AllReadyH.cons rfl (fun K hK => ?_) (AllReadyH.cons rfl (fun K hK => ?_) AllReadyH.nil)
                          · go_simp
                            go_at_call 12
                            refine cBt.mono ?_
                            rintro e v16 ⟨rfl, hk16⟩
                            have K2 := cell_kept hk16 K1 id
                            have K3 := fun o => cell_kept ((Kept.refl (fun _ => False) v16).alloc o) K2 id
                            have HF : Hid (∃ g18, g18 = v16.heap.size ∧ (v16.alloc (rngO (BG : Nat) (EN : Nat) true)).heap[g18]? = some (rngO (BG : Nat) (EN : Nat) true) ∧ Kept (fun _ => False) v14 (v16.alloc (rngO (BG : Nat) (EN : Nat) true))) := ⟨_, rfl, heap_alloc_new v16 _, (((Kept.refl (fun _ => False) v14).drew.trans hk15).trans hk16).alloc _⟩
                            refine hK.out _ _ K2 (fun _ => ?_)
                            clear hK K
                            try simp only [Act.put, List.setIfInBounds_toArray, List.set_cons_zero, List.set_cons_succ]
                            refine wpAnyH_ready (rs := [13]) (by kernel_rfl) (by simp) ?_
                            refine AllReadyH.cons rfl (fun K hK => ?_) AllReadyH.nil
                            go_simp
                            refine hK.out _ _ (K3 _) (fun _ => ?_)
                            clear hK K
                            try simp only [Act.put, List.setIfInBounds_toArray, List.set_cons_zero, List.set_cons_succ]
                            refine wpAnyH_ready (rs := [14]) (by kernel_rfl) (by simp) ?_
                            refine AllReadyH.cons rfl (fun K hK => ?_) AllReadyH.nil
                            go_simp
                            refine hK.out _ _ (K3 _) (fun _ => ?_)
                            clear hK K
                            try simp only [Act.put, List.setIfInBounds_toArray, List.set_cons_zero, List.set_cons_succ]
                            refine wpAnyH_done (by kernel_rfl) ?_ _
                            go_wp2_with fail
                            go_meet
                            obtain ⟨g18, rfl, h1, h2⟩ := HF.out
                            exact ⟨_, rfl, h1, h2⟩
                          · go_simp
                            refine hK.out _ _ K1B (fun _ => ?_)
                            clear hK K
                            try simp only [Act.put, List.setIfInBounds_toArray, List.set_cons_zero, List.set_cons_succ]
                            refine wpAnyH_ready (rs := [12]) (by kernel_rfl) (by simp) ?_
                            refine AllReadyH.cons rfl (fun K hK => ?_) AllReadyH.nil
                            go_simp
                            go_at_call 12
                            refine cBtB.mono ?_
                            rintro e v16 ⟨rfl, hk16⟩
                            have K2 := cell_kept hk16 K1B id
                            have h18 := (hk16.block _ (heap_lt hBB) id).trans hBB
                            have K4 := fun u0 u1 u2 => cell_kept (Kept.three (Kept.refl (fun q => q = v15.heap.size) v16) rfl u0 u1 u2) K2 (fun (e : rb = v15.heap.size) => (by omega))
                            obtain ⟨f0, f1, f2⟩ := rng_facts h18
                            obtain ⟨y0, y1, y2⟩ := rng_free h18
                            have HF : Hid (∀ u0 u1 u2, Kept (fun _ => False) v14 (((v16.setCell ⟨v15.heap.size, 0, none⟩ u0).setCell ⟨v15.heap.size, 1, none⟩ u1).setCell ⟨v15.heap.size, 2, none⟩ u2)) := (fun u0 u1 u2 => ((((Kept.refl (fun _ => False) v14).drew.trans hk15).trans hkB).trans hk16).fresh (Kept.three (Kept.refl (fun q => q = v15.heap.size) v16) rfl u0 u1 u2) (fun q hq (e : q = v15.heap.size) => (by omega)))
                            refine hK.out _ _ K2 (fun _ => ?_)
                            clear hK K
                            try simp only [Act.put, List.setIfInBounds_toArray, List.set_cons_zero, List.set_cons_succ]
                            refine wpAnyH_ready (rs := [14]) (by kernel_rfl) (by simp) ?_
                            refine AllReadyH.cons rfl (fun K hK => ?_) AllReadyH.nil
                            go_simp
                            refine hK.out _ _ (K4 _ _ _) (fun _ => ?_)
                            clear hK K
                            try simp only [Act.put, List.setIfInBounds_toArray, List.set_cons_zero, List.set_cons_succ]
                            refine wpAnyH_done (by kernel_rfl) ?_ _
                            go_wp2_with fail
                            go_meet
                            exact ⟨_, rfl, rng_three h18 _ _ _, HF.out _ _ _⟩
                        · go_simp
                          refine hK.out _ _ K0C (fun _ => ?_)
                          clear hK K
                          try simp only [Act.put, List.setIfInBounds_toArray, List.set_cons_zero, List.set_cons_succ]
                          refine wpAnyH_ready (rs := [1]) (by kernel_rfl) (by simp) ?_
                          refine AllReadyH.cons rfl (fun K hK => ?_) AllReadyH.nil
                          go_simp
                          refine hK.out _ _ K1C (fun _ => ?_)
                          clear hK K
                          try simp only [Act.put, List.setIfInBounds_toArray, List.set_cons_zero, List.set_cons_succ]
                          refine wpAnyH_ready (rs := [12]) (by kernel_rfl) (by simp) ?_
                          refine AllReadyH.cons rfl (fun K hK => ?_) AllReadyH.nil
                          go_simp
                          go_at_call 12
                          refine cBtC.mono ?_
                          rintro e v16 ⟨rfl, hk16⟩
                          have K2 := cell_kept hk16 K1C id
                          have h18 := (hk16.block _ (heap_lt hCC) id).trans hCC
                          have K4 := fun u0 u1 u2 => cell_kept (Kept.three (Kept.refl (fun q => q = v14.heap.size) v16) rfl u0 u1 u2) K2 (fun (e : rb = v14.heap.size) => (by omega))
                          obtain ⟨f0, f1, f2⟩ := rng_facts h18
                          obtain ⟨y0, y1, y2⟩ := rng_free h18
                          have HF : Hid (∀ u0 u1 u2, Kept (fun _ => False) v14 (((v16.setCell ⟨v14.heap.size, 0, none⟩ u0).setCell ⟨v14.heap.size, 1, none⟩ u1).setCell ⟨v14.heap.size, 2, none⟩ u2)) := (fun u0 u1 u2 => (((Kept.refl (fun _ => False) v14).alloc (rngO 0 0 false)).drew.trans hkC |>.trans hk16).fresh (Kept.three (Kept.refl (fun q => q = v14.heap.size) v16) rfl u0 u1 u2) (fun q hq (e : q = v14.heap.size) => (by omega)))
                          refine hK.out _ _ K2 (fun _ => ?_)
                          clear hK K
                          try simp only [Act.put, List.setIfInBounds_toArray, List.set_cons_zero, List.set_cons_succ]
                          refine wpAnyH_ready (rs := [14]) (by kernel_rfl) (by simp) ?_
                          refine AllReadyH.cons rfl (fun K hK => ?_) AllReadyH.nil
                          go_simp
                          refine hK.out _ _ (K4 _ _ _) (fun _ => ?_)
                          clear hK K
                          try simp only [Act.put, List.setIfInBounds_toArray, List.set_cons_zero, List.set_cons_succ]
                          refine wpAnyH_done (by kernel_rfl) ?_ _
                          go_wp2_with fail
                          go_meet
                          exact ⟨_, rfl, rng_three h18 _ _ _, HF.out _ _ _⟩
                    case rest =>
                      as_aux_lemma =>
                        obtain ⟨g18, rfl, hg18, hk16⟩ := hcut
                        obtain ⟨v16, hv16⟩ : ∃ v, v = wc := ⟨_, rfl⟩
                        subst hv16
                        clear K0 K0C K1 K1B K1C cBt cBtB cBtC hk15 hkB hkC hcvz hcvC hBB hCC
                        have J16 := Lib.hid (J14.out.trans hk16)
                        have W16 := Lib.hid (HWj.out.kept J16.out)
                        have H18 := Lib.hid hg18
                        clear hk16 hg18
                        have cE := fun q => rend_any (some ⟨tb, 0, none⟩) t.length cap t a (v16.drewN q) (W16.out.rn.drewN q) (by have := HRG.out.1; have := HRG.out.2.1; omega) (by have := HL.out; omega)
                        have HCE := Lib.hid cE
                        clear cE
                        obtain ⟨r0, r1, r2⟩ := HKS.out _ J16.out
                        go_upto_region 24 with fail
                        cases ln with
                        | false =>
                          go_quiet ((go_at_call 13; exact Calls.quiet_of_same (HCE.out _)))
                          go_wp2_with fail
                          exact ⟨⟨j + 1, by omega, by go_num, HKV.out.trans (J16.out.drewN _)⟩, by simp [intOf]; omega⟩
                        | true =>
                          obtain ⟨ET, hET⟩ : ∃ ET, Rw.en t a = ET := ⟨_, rfl⟩
                          have HET := Lib.hid hET
                          rw [hET] at HCE
                          clear hET
                          by_cases hbe : ET < b
                          · have b6 : decide ((ET : Int) < (b : Int)) = true := decide_eq_true (by omega)
                            have b7 : decide (ET < b) = true := decide_eq_true hbe
                            go_quiet ((go_at_call 13; exact Calls.quiet_of_same (HCE.out _)))
                            go_wp2_with fail
                            exact ⟨⟨j + 1, by omega, by go_num, HKV.out.trans (J16.out.drewN _)⟩, by simp [intOf]; omega⟩
                          · have b6 : decide ((ET : Int) < (b : Int)) = false := decide_eq_false (by omega)
                            have b7 : decide (ET < b) = false := decide_eq_false hbe
                            have heb : Rw.en (rs s) a = b := by
                              rw [HTT.out, HET.out]
                              obtain ⟨u1, u2, u3⟩ := HRG.out
                              have u4 := (u3 rfl).2
                              rcases Nat.lt_or_ge b ET with h | h
                              · exfalso
                                have hle := Rw.en_le t a (by omega)
                                rw [HET.out] at hle
                                have h10 := Rw.en_at t b (by omega)
                                rw [u4] at h10
                                exact Rw.en_none t a b u1 (by rw [HET.out]; exact h) h10
                              · omega
                            obtain ⟨e5, V0, V1, X5, V2, hb5, he5, fV, mV, aV⟩ := HBK.out rfl heb
                            rw [HBG.out] at hb5
                            rw [HEN.out] at he5
                            have hb6 := hb5.symm
                            subst hb6
                            subst he5
                            have HFV := Lib.hid fV
                            have HMV := Lib.hid mV
                            have HAV := Lib.hid aV
                            clear fV mV aV
                            obtain ⟨c0', c1', c2'⟩ := rng_facts H18.out
                            go_quiet ((go_at_call 13; exact Calls.quiet_of_same (HCE.out _)))
                            go_wp2_with fail
                            refine (HFV.out _ (show Tabs (v16.drewN _) from W16.out.c.tabs) (show Mx (v16.drewN _) from W16.out.c.mx)).mono ?_
                            rintro e v17 ⟨rfl, hk17⟩
                            have J18 : Hid (Kept (fun _ => False) wj (v17.alloc (chgO V0 V1 V2 X5 ⟨#[]⟩ false))) := ((J16.out.drewN _).trans hk17).alloc _
                            have h19 : ChB (v17.alloc (chgO V0 V1 V2 X5 ⟨#[]⟩ false)) v17.heap.size V0 V1 V2 := ⟨X5, _, _, heap_alloc_new v17 _⟩
                            clear hk17 r0 r1 r2 c0' c1' c2' b6 b7
                            go_upto_region 26 with fail
                            generalize v17.alloc (chgO V0 V1 V2 X5 ⟨#[]⟩ false) = v18 at *
                            generalize v17.heap.size = g19 at *
                            have W18 := Lib.hid (HWj.out.kept J18.out)
                            have HQ : Hid (∀ W, Kept (fun _ => False) v18 W → (W.cell? ⟨g19, 0, none⟩ = some (.int .i64 V0) ∧ W.cell? ⟨g19, 1, none⟩ = some (.int .i64 V1) ∧ W.cell? ⟨g19, 2, none⟩ = some (.string V2)) ∧ W.cell? ⟨rb, j * 3, none⟩ = some (.int .i64 (a : Int)) ∧ W.cell? ⟨rb, j * 3 + 1, none⟩ = some (.int .i64 (b : Int))) := fun W h => ⟨(h19.kept h).cells, (HKS.out _ (J18.out.trans h)).1, (HKS.out _ (J18.out.trans h)).2.1⟩
                            have HC : Hid (Kept (fun _ => False) v18 v18.drew) := (Kept.refl (fun _ => False) v18).drew
                            have KC := HQ.out _ HC.out
                            clear h19
                            have HTW : Hid (∀ W, Kept (fun _ => False) v18 W → Tabs W) := fun W h => W18.out.c.tabs.kept h id id
                            by_cases hab : a < b
                            · have b8 : decide ((a : Int) < (b : Int)) = true := decide_eq_true (by omega)
                              have b9 : decide (a < b) = true := decide_eq_true hab
                              as_aux_lemma =>
                                go_region_held3 (fun (W : World) => (W.cell? ⟨g19, 0, none⟩ = some (.int .i64 V0) ∧ W.cell? ⟨g19, 1, none⟩ = some (.int .i64 V1) ∧ W.cell? ⟨g19, 2, none⟩ = some (.string V2)) ∧ W.cell? ⟨rb, j * 3, none⟩ = some (.int .i64 (a : Int)) ∧ W.cell? ⟨rb, j * 3 + 1, none⟩ = some (.int .i64 (b : Int)))
                                  (with_reducible exact KC)
                                  ((first
                                    | (go_at_call 9; refine (lnum_any _ _).mono ?_; rintro e w' ⟨rfl, hw⟩; have hw2 := hw.symm; subst hw2)
                                    | (go_at_call 10; refine (HMV.out _ (HTW.out _ HC.out)).mono ?_; rintro e vv ⟨rfl, hkv⟩; have HC := Lib.hid (HC.out.trans hkv); have KC := HQ.out _ HC.out; clear hkv)
                                    | (go_at_call 11; refine (HAV.out _).mono ?_; rintro e vv ⟨rfl, hkv⟩; have HC := Lib.hid (HC.out.trans hkv); have KC := HQ.out _ HC.out; clear hkv)))
                                all_goals
                                  go_wp2_with fail
                                  exact ⟨⟨j + 1, by omega, by go_num, HKV.out.trans (J18.out.trans HC.out)⟩, by simp [intOf]; omega⟩
                            · have b8 : decide ((a : Int) < (b : Int)) = false := decide_eq_false (by omega)
                              have b9 : decide (a < b) = false := decide_eq_false hab
                              as_aux_lemma =>
                                refine wp_region_held_drew (S := (fun (W : World) => (W.cell? ⟨g19, 0, none⟩ = some (.int .i64 V0) ∧ W.cell? ⟨g19, 1, none⟩ = some (.int .i64 V1) ∧ W.cell? ⟨g19, 2, none⟩ = some (.string V2)) ∧ W.cell? ⟨rb, j * 3, none⟩ = some (.int .i64 (a : Int)) ∧ W.cell? ⟨rb, j * 3 + 1, none⟩ = some (.int .i64 (b : Int)))) (by kernel_rfl) KC (fun _ => ?_)
                                refine take_yes (i := 0) (d := 202) (v := .int .i64 0) rfl rfl (by kernel_rfl) (by kernel_rfl) (by kernel_rfl) (fun _ _ _ h => h) (Or.inl ⟨by rfl, fun w hS => by obtain ⟨⟨s0, s1, s2⟩, s3, s4⟩ := hS; go_simp⟩) KC ?_
                                simp only [Act.put, List.setIfInBounds_toArray, List.set_cons_zero, List.set_cons_succ]
                                refine wpAnyH_ready (rs := [1]) (by kernel_rfl) (by simp) ?_
                                refine AllReadyH.cons rfl (fun K hK => ?_) AllReadyH.nil
                                go_simp
                                go_at_call 9
                                refine (lnum_any _ _).mono ?_
                                rintro e w' ⟨rfl, hw⟩
                                have hw2 := hw.symm
                                subst hw2
                                refine hK.out _ _ KC (fun _ => ?_)
                                clear hK K
                                try simp only [Act.put, List.setIfInBounds_toArray, List.set_cons_zero, List.set_cons_succ]
                                refine take_yes (i := 2) (d := 204) (v := .bool false) rfl rfl (by kernel_rfl) (by kernel_rfl) (by kernel_rfl) (fun _ _ _ h => h) (Or.inl ⟨by rfl, fun w hS => by obtain ⟨⟨s0, s1, s2⟩, s3, s4⟩ := hS; go_simp⟩) KC ?_
                                simp only [Act.put, List.setIfInBounds_toArray, List.set_cons_zero, List.set_cons_succ]
                                refine take_yes (i := 3) (d := 205) (v := .bool false) rfl rfl (by kernel_rfl) (by kernel_rfl) (by kernel_rfl) (fun _ _ _ h => h) (Or.inl ⟨by rfl, fun w hS => by obtain ⟨⟨s0, s1, s2⟩, s3, s4⟩ := hS; go_simp⟩) KC ?_
                                simp only [Act.put, List.setIfInBounds_toArray, List.set_cons_zero, List.set_cons_succ]
                                refine take_yes (i := 4) (d := 206) (v := .string z) rfl rfl (by kernel_rfl) (by kernel_rfl) (by kernel_rfl) (fun _ _ _ h => h) (Or.inl ⟨by rfl, fun w hS => by obtain ⟨⟨s0, s1, s2⟩, s3, s4⟩ := hS; go_simp⟩) KC ?_
                                simp only [Act.put, List.setIfInBounds_toArray, List.set_cons_zero, List.set_cons_succ]
                                refine take_yes (i := 5) (d := 207) (v := .pointer (some ⟨g19, 0, none⟩)) rfl rfl (by kernel_rfl) (by kernel_rfl) (by kernel_rfl) (fun _ _ _ h => h) (Or.inl ⟨by rfl, fun w hS => by obtain ⟨⟨s0, s1, s2⟩, s3, s4⟩ := hS; go_simp⟩) KC ?_
                                simp only [Act.put, List.setIfInBounds_toArray, List.set_cons_zero, List.set_cons_succ]
                                refine take_yes (i := 6) (d := 208) (v := patV V0 V1 V2) rfl rfl (by kernel_rfl) (by kernel_rfl) (by kernel_rfl) (fun _ _ _ h => h) (Or.inl ⟨by rfl, fun w hS => by obtain ⟨⟨s0, s1, s2⟩, s3, s4⟩ := hS; go_simp⟩) KC ?_
                                simp only [Act.put, List.setIfInBounds_toArray, List.set_cons_zero, List.set_cons_succ]
                                refine wpAnyH_ready (rs := [7]) (by kernel_rfl) (by simp) ?_
                                refine AllReadyH.cons rfl (fun K hK => ?_) AllReadyH.nil
                                go_simp
                                go_at_call 10
                                refine (HMV.out _ (HTW.out _ HC.out)).mono ?_
                                rintro e vv ⟨rfl, hkv⟩
                                have HC2 := Lib.hid (HC.out.trans hkv)
                                have KD := HQ.out _ HC2.out
                                clear hkv
                                refine hK.out _ _ KD (fun _ => ?_)
                                clear hK K
                                try simp only [Act.put, List.setIfInBounds_toArray, List.set_cons_zero, List.set_cons_succ]
                                refine take_yes (i := 8) (d := 210) (v := .bool false) rfl rfl (by kernel_rfl) (by kernel_rfl) (by kernel_rfl) (fun _ _ _ h => h) (Or.inl ⟨by rfl, fun w hS => by obtain ⟨⟨s0, s1, s2⟩, s3, s4⟩ := hS; go_simp⟩) KD ?_
                                simp only [Act.put, List.setIfInBounds_toArray, List.set_cons_zero, List.set_cons_succ]
                                refine take_yes (i := 9) (d := 211) (v := .bool false) rfl rfl (by kernel_rfl) (by kernel_rfl) (by kernel_rfl) (fun _ _ _ h => h) (Or.inl ⟨by rfl, fun w hS => by obtain ⟨⟨s0, s1, s2⟩, s3, s4⟩ := hS; go_simp⟩) KD ?_
                                simp only [Act.put, List.setIfInBounds_toArray, List.set_cons_zero, List.set_cons_succ]
                                refine take_yes (i := 10) (d := 212) (v := .bool false) rfl rfl (by kernel_rfl) (by kernel_rfl) (by kernel_rfl) (fun _ _ _ h => h) (Or.inl ⟨by rfl, fun w hS => by obtain ⟨⟨s0, s1, s2⟩, s3, s4⟩ := hS; go_simp⟩) KD ?_
                                simp only [Act.put, List.setIfInBounds_toArray, List.set_cons_zero, List.set_cons_succ]
                                refine take_yes (i := 11) (d := 213) (v := .slice (some ⟨rb, 0, none⟩) 15 rc) rfl rfl (by kernel_rfl) (by kernel_rfl) (by kernel_rfl) (fun _ _ _ h => h) (Or.inl ⟨by rfl, fun w hS => by obtain ⟨⟨s0, s1, s2⟩, s3, s4⟩ := hS; go_simp⟩) KD ?_
                                simp only [Act.put, List.setIfInBounds_toArray, List.set_cons_zero, List.set_cons_succ]
                                refine take_yes (i := 12) (d := 214) (v := .int .i64 (j : Int)) rfl rfl (by kernel_rfl) (by kernel_rfl) (by kernel_rfl) (fun _ _ _ h => h) (Or.inl ⟨by rfl, fun w hS => by obtain ⟨⟨s0, s1, s2⟩, s3, s4⟩ := hS; go_simp⟩) KD ?_
                                simp only [Act.put, List.setIfInBounds_toArray, List.set_cons_zero, List.set_cons_succ]
                                refine take_yes (i := 13) (d := 215) (v := .pointer (some ⟨rb, j * 3, none⟩)) rfl rfl (by kernel_rfl) (by kernel_rfl) (by kernel_rfl) (fun _ _ _ h => h) (Or.inl ⟨by rfl, fun w hS => by obtain ⟨⟨s0, s1, s2⟩, s3, s4⟩ := hS; go_simp⟩) KD ?_
                                simp only [Act.put, List.setIfInBounds_toArray, List.set_cons_zero, List.set_cons_succ]
                                refine take_yes (i := 14) (d := 216) (v := .pointer (some ⟨rb, j * 3 + 1, none⟩)) rfl rfl (by kernel_rfl) (by kernel_rfl) (by kernel_rfl) (fun _ _ _ h => h) (Or.inl ⟨by rfl, fun w hS => by obtain ⟨⟨s0, s1, s2⟩, s3, s4⟩ := hS; go_simp⟩) KD ?_
                                simp only [Act.put, List.setIfInBounds_toArray, List.set_cons_zero, List.set_cons_succ]
                                refine take_yes (i := 15) (d := 217) (v := .int .i64 (b : Int)) rfl rfl (by kernel_rfl) (by kernel_rfl) (by kernel_rfl) (fun _ _ _ h => h) (Or.inl ⟨by rfl, fun w hS => by obtain ⟨⟨s0, s1, s2⟩, s3, s4⟩ := hS; go_simp⟩) KD ?_
                                simp only [Act.put, List.setIfInBounds_toArray, List.set_cons_zero, List.set_cons_succ]
                                refine take_yes (i := 16) (d := 218) (v := .slice (some ⟨rb, 0, none⟩) 15 rc) rfl rfl (by kernel_rfl) (by kernel_rfl) (by kernel_rfl) (fun _ _ _ h => h) (Or.inl ⟨by rfl, fun w hS => by obtain ⟨⟨s0, s1, s2⟩, s3, s4⟩ := hS; go_simp⟩) KD ?_
                                simp only [Act.put, List.setIfInBounds_toArray, List.set_cons_zero, List.set_cons_succ]
                                refine take_yes (i := 17) (d := 219) (v := .int .i64 (j : Int)) rfl rfl (by kernel_rfl) (by kernel_rfl) (by kernel_rfl) (fun _ _ _ h => h) (Or.inl ⟨by rfl, fun w hS => by obtain ⟨⟨s0, s1, s2⟩, s3, s4⟩ := hS; go_simp⟩) KD ?_
                                simp only [Act.put, List.setIfInBounds_toArray, List.set_cons_zero, List.set_cons_succ]
                                refine take_yes (i := 18) (d := 220) (v := .pointer (some ⟨rb, j * 3, none⟩)) rfl rfl (by kernel_rfl) (by kernel_rfl) (by kernel_rfl) (fun _ _ _ h => h) (Or.inl ⟨by rfl, fun w hS => by obtain ⟨⟨s0, s1, s2⟩, s3, s4⟩ := hS; go_simp⟩) KD ?_
                                simp only [Act.put, List.setIfInBounds_toArray, List.set_cons_zero, List.set_cons_succ]
                                refine take_yes (i := 19) (d := 221) (v := .pointer (some ⟨rb, j * 3, none⟩)) rfl rfl (by kernel_rfl) (by kernel_rfl) (by kernel_rfl) (fun _ _ _ h => h) (Or.inl ⟨by rfl, fun w hS => by obtain ⟨⟨s0, s1, s2⟩, s3, s4⟩ := hS; go_simp⟩) KD ?_
                                simp only [Act.put, List.setIfInBounds_toArray, List.set_cons_zero, List.set_cons_succ]
                                refine take_yes (i := 20) (d := 222) (v := .int .i64 (a : Int)) rfl rfl (by kernel_rfl) (by kernel_rfl) (by kernel_rfl) (fun _ _ _ h => h) (Or.inl ⟨by rfl, fun w hS => by obtain ⟨⟨s0, s1, s2⟩, s3, s4⟩ := hS; go_simp⟩) KD ?_
                                simp only [Act.put, List.setIfInBounds_toArray, List.set_cons_zero, List.set_cons_succ]
                                refine take_yes (i := 21) (d := 223) (v := .bool false) rfl rfl (by kernel_rfl) (by kernel_rfl) (by kernel_rfl) (fun _ _ _ h => h) (Or.inl ⟨by rfl, fun w hS => by obtain ⟨⟨s0, s1, s2⟩, s3, s4⟩ := hS; go_simp⟩) KD ?_
                                simp only [Act.put, List.setIfInBounds_toArray, List.set_cons_zero, List.set_cons_succ]
                                refine take_yes (i := 22) (d := 224) (v := .bool false) rfl rfl (by kernel_rfl) (by kernel_rfl) (by kernel_rfl) (fun _ _ _ h => h) (Or.inl ⟨by rfl, fun w hS => by obtain ⟨⟨s0, s1, s2⟩, s3, s4⟩ := hS; go_simp⟩) KD ?_
                                simp only [Act.put, List.setIfInBounds_toArray, List.set_cons_zero, List.set_cons_succ]
                                refine take_no (i := 23) (d := 225) rfl rfl (by kernel_rfl) (by kernel_rfl) (by kernel_rfl) (fun _ _ _ h => h) (by rfl) KD ?_
                                simp only [Act.put, List.setIfInBounds_toArray, List.set_cons_zero, List.set_cons_succ]
                                refine take_no (i := 24) (d := 226) rfl rfl (by kernel_rfl) (by kernel_rfl) (by kernel_rfl) (fun _ _ _ h => h) (by rfl) KD ?_
                                simp only [Act.put, List.setIfInBounds_toArray, List.set_cons_zero, List.set_cons_succ]
                                refine take_no (i := 25) (d := 227) rfl rfl (by kernel_rfl) (by kernel_rfl) (by kernel_rfl) (fun _ _ _ h => h) (by rfl) KD ?_
                                simp only [Act.put, List.setIfInBounds_toArray, List.set_cons_zero, List.set_cons_succ]
                                refine take_no (i := 26) (d := 228) rfl rfl (by kernel_rfl) (by kernel_rfl) (by kernel_rfl) (fun _ _ _ h => h) (by rfl) KD ?_
                                simp only [Act.put, List.setIfInBounds_toArray, List.set_cons_zero, List.set_cons_succ]
                                refine take_no (i := 27) (d := 229) rfl rfl (by kernel_rfl) (by kernel_rfl) (by kernel_rfl) (fun _ _ _ h => h) (by rfl) KD ?_
                                simp only [Act.put, List.setIfInBounds_toArray, List.set_cons_zero, List.set_cons_succ]
                                refine take_no (i := 28) (d := 230) rfl rfl (by kernel_rfl) (by kernel_rfl) (by kernel_rfl) (fun _ _ _ h => h) (by rfl) KD ?_
                                simp only [Act.put, List.setIfInBounds_toArray, List.set_cons_zero, List.set_cons_succ]
                                refine take_yes (i := 29) (d := 231) (v := .bool false) rfl rfl (by kernel_rfl) (by kernel_rfl) (by kernel_rfl) (fun _ _ _ h => h) (Or.inl ⟨by rfl, fun w hS => by obtain ⟨⟨s0, s1, s2⟩, s3, s4⟩ := hS; go_simp⟩) KD ?_
                                simp only [Act.put, List.setIfInBounds_toArray, List.set_cons_zero, List.set_cons_succ]
                                refine take_yes (i := 30) (d := 232) (v := .bool false) rfl rfl (by kernel_rfl) (by kernel_rfl) (by kernel_rfl) (fun _ _ _ h => h) (Or.inl ⟨by rfl, fun w hS => by obtain ⟨⟨s0, s1, s2⟩, s3, s4⟩ := hS; go_simp⟩) KD ?_
                                simp only [Act.put, List.setIfInBounds_toArray, List.set_cons_zero, List.set_cons_succ]
                                refine wpAnyH_done (by kernel_rfl) ?_ _
                                all_goals
                                  go_wp2_with fail
                                  exact ⟨⟨j + 1, by omega, by go_num, HKV.out.trans (J18.out.trans HC2.out)⟩, by simp [intOf]; omega⟩
              · have cRn := rrange_any (some ⟨tb, 0, none⟩) t.length cap t lo hi' ln false wj HWj.out.rn (by have := HL.out; omega) ⟨fun h => Bool.noConfusion h, fun h => absurd h hg⟩
                clear hg
                go_wp2_with fail
                refine cRn.mono ?_
                rintro e v1 ⟨rfl, hk1⟩
                go_wp2_with fail
                go_roundw
                case rel => exact ⟨j + 1, by omega, by go_num, HKV.out.trans hk1⟩
                case measure => simp [intOf]; omega
            · obtain rfl : j = 15 := by omega
              have b4 : decide ((15 : Int) < 15) = false := by decide
              go_wp2_with fail
              go_roundw
              case rel => exact ⟨i + 1, by omega, by omega, by go_num, HK4.out.trans HKV.out⟩
              case measure => simp [intOf]; omega
    · have hlast : (i = n0 ∧ i < 3) ∨ (i < n0 ∧ i = 3) ∨ (i = n0 ∧ i = 3) := by omega
      have cW := chwakes_any wi HHi.out.tabs
      rcases hlast with ⟨h1, h2⟩ | ⟨h1, h2⟩ | ⟨h1, h2⟩
      case' inl | inr.inr => have b1 : decide (i < n0) = false := by simp; omega
      case' inr.inl =>
        have b1 : decide (i < n0) = true := by simp; omega
        have b2 : decide (i < 3) = false := by simp; omega
        have b3 : decide ((i : Int) < 3) = false := by simp; omega
      all_goals
        clear h1 h2
        go_wp2_with (go_at_call 14; refine cW.mono ?_; rintro e w9 ⟨rfl, hk9⟩)
        go_ret
        exact ⟨rfl, HKi.out.trans hk9⟩
end Go.Proofs.YtpgoikecignldaaDoor
