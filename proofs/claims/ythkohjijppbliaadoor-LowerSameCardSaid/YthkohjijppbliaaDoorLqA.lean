/-
  LOWER: the law LowerSame.
-/
import Derived.Test.YthkohjijppbliaaDoorLMe
set_option linter.unusedVariables false
namespace Go.Proofs.YthkohjijppbliaaDoor
open Go Go.RowKit

set_option maxRecDepth 100000 in
set_option maxHeartbeats 16000000 in
theorem lowerSame_any (p : AskL) (w : World) (hp : AskLOk w p) (hT : Tabs w) : Calls Tryd.prog 4 #[.agg p.cells] w fun e w' => e = .returned (.bool true) ∧ Kept (fun _ => False) w w' := by
  have hK0 : Hid (Kept (fun _ => False) w (w.alloc (.cells p.cells 49))) := (Kept.refl _ w).alloc _
  have hP0 : Hid ((w.alloc (.cells p.cells 49)).heap[w.heap.size]? = some (.cells p.cells 49 (0, 0))) := heap_alloc_new w _
  have cH := heavy27_any p (w.alloc (.cells p.cells 49)) (hp.kept hK0.out)
  have HX := Lib.hid hp
  have HT := Lib.hid hT
  have HMK := Lib.hid make_four
  clear hp hT
  obtain ⟨⟨st, ck, dv, L, sA, sn, sc, seen, wA, wn, wc, wl, lA, ln, lc, ll⟩, B, m, e, ps, O, on, oc, os⟩ := p
  simp only [AskL.cells] at hK0 hP0 cH ⊢
  unfold HvL at cH
  simp only at cH
  go_enter Tryd.func4, Tryd.ntmps4
  go_upto_region 1 with fail
  generalize hpb : w.heap.size = pb at hP0 ⊢
  clear hpb
  generalize w.alloc _ = wa at *
  have p0 : wa.cell? ⟨pb, 0, none⟩ = some (.int .i64 st) := cell_of_row _ _ _ _ _ _ hP0.out
  have p1 : wa.cell? ⟨pb, 1, none⟩ = some (.int .i64 ck) := cell_of_row _ _ _ _ _ _ hP0.out
  have p2 : wa.cell? ⟨pb, 2, none⟩ = some dv := cell_of_row _ _ _ _ _ _ hP0.out
  have p3 : wa.cell? ⟨pb, 3, none⟩ = some (.slice sA sn sc) := cell_of_row _ _ _ _ _ _ hP0.out
  have p4 : wa.cell? ⟨pb, 4, none⟩ = some (.slice wA wn wc) := cell_of_row _ _ _ _ _ _ hP0.out
  have p5 : wa.cell? ⟨pb, 5, none⟩ = some (.slice lA ln lc) := cell_of_row _ _ _ _ _ _ hP0.out
  have p6 : wa.cell? ⟨pb, 6, none⟩ = some (.slice B m e) := cell_of_row _ _ _ _ _ _ hP0.out
  have p7 : wa.cell? ⟨pb, 7, none⟩ = some (.slice O on oc) := cell_of_row _ _ _ _ _ _ hP0.out
  go_wp2_with fail
  refine cH.mono ?_
  clear cH
  rintro ee w1 ⟨⟨b, rfl, hb⟩, hk1⟩
  have HK1 := Lib.hid (hK0.out.trans hk1)
  have HP1 := Lib.hid ((hk1.block _ (heap_lt hP0.out) id).trans hP0.out)
  have HB := Lib.hid hb
  clear hb hk1 hK0 hP0 p0 p1 p2 p3 p4 p5 p6 p7
  cases b
  case true =>
    go_wp2_with fail
    go_ret
    exact ⟨rfl, HK1.out⟩
  case false =>
    have HPS := Lib.hid ((HB.out rfl).2.2)
    clear HB
    have cF := some_first w1
    go_upto_region 6 with (go_at_call 17; refine cF.mono ?_; clear cF; rintro ee w2 ⟨⟨v, rfl, hv⟩, hk2⟩)
    obtain ⟨A0, c0, rfl⟩ := hv.form
    have HK2 := Lib.hid (HK1.out.trans hk2)
    have HP2 := Lib.hid ((hk2.block _ (heap_lt HP1.out) id).trans HP1.out)
    have HV := Lib.hid hv
    have hmk := HMK.out w2
    clear hv hk2 HK1 HP1
    obtain ⟨hka, hga, hva⟩ := a_facts w2 (.slice A0 (EL someT).length c0)
    go_upto_region 7 with fail
    simp only [SiteS.O, SiteS.cs] at hka hga hva
    generalize (w2.alloc (.cells #[.int .i64 0, .int .i64 0, .int .i64 0, .int .i64 0] 3)).alloc _ = w5 at *
    have HKA := Lib.hid hka
    have HGA := Lib.hid hga
    have HVA := Lib.hid hva
    have HV5 := Lib.hid (HV.out.kept hka)
    have HP5 := Lib.hid ((hka.block _ (heap_lt HP2.out) id).trans HP2.out)
    have HK5 := Lib.hid (HK2.out.trans hka)
    have HGS : Hid (w.heap.size ≤ w2.heap.size ∧ pb < w2.heap.size) := ⟨HK2.out.size, heap_lt HP2.out⟩
    have HVL : Hid (∀ k, (Value.slice A0 (EL someT).length c0).ownBlock = some k → k < w2.heap.size) := fun k hk => (HV.out.lt k hk).2
    clear hka hga hva hmk HK2 HP2 HV
    obtain ⟨s, hs⟩ : ∃ s, w2.heap.size = s := ⟨_, rfl⟩
    have HSS := Lib.hid hs
    simp only [hs] at HGA HVA HVL HGS ⊢
    clear hs
    have cC := fun W (hk : Kept (fun _ => False) w5 W) => copyelems_any _ (EL someT) W (HV5.out.kept hk).se (by decide)
    have HD := Lib.hid (Kept.refl (fun _ => False) w5).drew
    go_cut [6] from 29 to 32 (fun v wx => SecB w5 wx v)
    case first =>
      have hmk := make_four
      have Z1 : Hid ((w5.alloc (.cells zSite 46)).heap[w5.heap.size]? = some (.cells zSite 46)) := heap_alloc_new w5 _
      have Z2 : Hid (((w5.alloc (.cells #[.int .i64 0, .int .i64 0, .int .i64 0, .int .i64 0] 3)).alloc (.cells zSite 46)).heap[w5.heap.size + 1]? = some (.cells zSite 46)) := by
        have h : ((w5.alloc (.cells #[.int .i64 0, .int .i64 0, .int .i64 0, .int .i64 0] 3)).alloc (.cells zSite 46)).heap[(w5.alloc (.cells #[.int .i64 0, .int .i64 0, .int .i64 0, .int .i64 0] 3)).heap.size]? = some (.cells zSite 46) := heap_alloc_new _ _
        have hz : (w5.alloc (.cells #[.int .i64 0, .int .i64 0, .int .i64 0, .int .i64 0] 3)).heap.size = w5.heap.size + 1 := by simp
        rw [hz] at h
        exact h
      have Z3 : Hid (((w5.alloc (.cells zSite 46)).alloc (.cells #[.int .i64 0, .int .i64 0, .int .i64 0, .int .i64 0] 3)).heap[w5.heap.size]? = some (.cells zSite 46)) := ((Kept.refl (fun _ => False) (w5.alloc (.cells zSite 46))).alloc (.cells #[.int .i64 0, .int .i64 0, .int .i64 0, .int .i64 0] 3)).block _ (heap_lt Z1.out) id |>.trans Z1.out
      have V3 : Hid (Vm ((w5.alloc (.cells zSite 46)).alloc (.cells #[.int .i64 0, .int .i64 0, .int .i64 0, .int .i64 0] 3)) (w5.heap.size + 1) 4 [0, 0, 0, 0]) := by
        have h := vm_four (w5.alloc (.cells zSite 46))
        have hz : (w5.alloc (.cells zSite 46)).heap.size = w5.heap.size + 1 := by simp
        rw [hz] at h
        exact h
      have V1 : Hid (Vm (w5.alloc (.cells #[.int .i64 0, .int .i64 0, .int .i64 0, .int .i64 0] 3)) w5.heap.size 4 [0, 0, 0, 0]) := vm_four w5
      simp only [zSite] at Z1 Z2 Z3 V3
      go_region_law (first | (go_simp; go_at_call 18; refine (cC _ (by first | exact HD.out | exact HD.out.alloc _ | exact (HD.out.alloc _).alloc _)).mono ?_; rintro ee w6 ⟨⟨v', rfl, hv'⟩, hk6⟩; obtain ⟨A6, c6, rfl⟩ := hv'.form; have HV6 := Lib.hid hv'; have HK6 := Lib.hid hk6; (first | (have hz6 := (hk6.block _ (heap_lt Z1.out) id).trans Z1.out; obtain ⟨⟨x0, x1, x2, x3, x4, x5⟩, y0, y1, y2, y3, y4, y5⟩ := six_facts hz6; obtain ⟨⟨u0, u1, u2, u3, u4, u5⟩, z0, z1, z2, z3, z4, z5⟩ := six_facts ((((Kept.refl (fun _ => False) w6).alloc (.cells #[.int .i64 0, .int .i64 0, .int .i64 0, .int .i64 0] 3)).block _ (heap_lt hz6) id).trans hz6); clear hz6) | (have hz6 := (hk6.block _ (heap_lt Z2.out) id).trans Z2.out; obtain ⟨⟨x0, x1, x2, x3, x4, x5⟩, y0, y1, y2, y3, y4, y5⟩ := six_facts hz6; obtain ⟨⟨u0, u1, u2, u3, u4, u5⟩, z0, z1, z2, z3, z4, z5⟩ := six_facts ((((Kept.refl (fun _ => False) w6).alloc (.cells #[.int .i64 0, .int .i64 0, .int .i64 0, .int .i64 0] 3)).block _ (heap_lt hz6) id).trans hz6); clear hz6) | (have hz6 := (hk6.block _ (heap_lt Z3.out) id).trans Z3.out; obtain ⟨⟨x0, x1, x2, x3, x4, x5⟩, y0, y1, y2, y3, y4, y5⟩ := six_facts hz6; obtain ⟨⟨u0, u1, u2, u3, u4, u5⟩, z0, z1, z2, z3, z4, z5⟩ := six_facts ((((Kept.refl (fun _ => False) w6).alloc (.cells #[.int .i64 0, .int .i64 0, .int .i64 0, .int .i64 0] 3)).block _ (heap_lt hz6) id).trans hz6); clear hz6) | (have hz6 := heap_alloc_new w6 (.cells #[.int .i64 0, .int .i64 0, .slice none 0 0, .slice none 0 0, .slice none 0 0, .slice none 0 0] 46); obtain ⟨⟨u0, u1, u2, u3, u4, u5⟩, z0, z1, z2, z3, z4, z5⟩ := six_facts ((((Kept.refl (fun _ => False) (w6.alloc (.cells #[.int .i64 0, .int .i64 0, .slice none 0 0, .slice none 0 0, .slice none 0 0, .slice none 0 0] 46))).alloc (.cells #[.int .i64 0, .int .i64 0, .int .i64 0, .int .i64 0] 3)).block _ (heap_lt hz6) id).trans hz6); clear hz6)); clear hv' hk6))
      all_goals
        go_wp2_with fail
        go_meet
      all_goals
        have HKX : Kept (fun _ => False) w5 w6 := by first | exact (Kept.refl _ w5).drew.trans HK6.out | exact ((Kept.refl _ w5).alloc _).drew.trans HK6.out | exact (((Kept.refl _ w5).alloc _).alloc _).drew.trans HK6.out
        have HOX : Oe w6 w5.heap.size (.slice A6 (EL someT).length c6) (EL someT) := HV6.out.mono (by first | exact Nat.le_refl _ | exact ((Kept.refl (fun _ => False) w5).alloc _).size | exact (((Kept.refl (fun _ => False) w5).alloc _).alloc _).size)
        have HSX := HK6.out.size
        simp at HSX
      · exact secB1 HKX HOX
      · exact secB2 HKX HOX
      · exact secB3 HKX HOX (V1.out.kept ((Kept.refl (fun _ => False) _).drew.trans HK6.out) id) (Nat.le_refl _)
      · exact secB4 HKX HOX (V1.out.kept ((((Kept.refl (fun _ => False) _).alloc _).drew).trans HK6.out) id) (Nat.le_refl _) ((HK6.out.block _ (heap_lt Z2.out) id).trans Z2.out) (by omega) (by omega) (fun k hk e => by have h1 := (HV6.out.lt k hk).1; simp at h1; omega)
      · exact secB4 (HKX.alloc _) (HOX.kept ((Kept.refl _ _).alloc _)) (vm_four w6) HKX.size ((((Kept.refl (fun _ => False) w6).alloc (.cells #[.int .i64 0, .int .i64 0, .int .i64 0, .int .i64 0] 3)).block _ (heap_lt ((HK6.out.block _ (heap_lt Z1.out) id).trans Z1.out)) id).trans ((HK6.out.block _ (heap_lt Z1.out) id).trans Z1.out)) (by omega) (by omega) (fun k hk e => by have h1 := (HV6.out.lt k hk).1; simp at h1; omega)
      · exact secB4 HKX HOX (V3.out.kept ((Kept.refl (fun _ => False) _).drew.trans HK6.out) id) (by omega) ((HK6.out.block _ (heap_lt Z3.out) id).trans Z3.out) (by omega) (by omega) (fun k hk e => by have h1 := (HV6.out.lt k hk).1; simp at h1; omega)
    case rest =>
      obtain ⟨gb, y8, rfl, hgb, hk8, hpr⟩ := sec_pair HGA.out HVA.out HV5.out HVL.out hcut
      obtain ⟨w8, hw8⟩ : ∃ w8, w8 = wc := ⟨_, rfl⟩
      subst hw8
      have HPR := Lib.hid hpr
      have HK8 := Lib.hid (HK5.out.trans hk8)
      have HP8 := Lib.hid ((hk8.block _ (heap_lt HP5.out) id).trans HP5.out)
      have HGB : Hid (w.heap.size ≤ gb ∧ w.heap.size ≤ s + 1 ∧ pb < s + 1 ∧ s + 1 < gb) := by
        have h1 := HK5.out.size
        have h2 := heap_lt HGA.out
        have h3 := HGS.out
        exact ⟨by omega, by omega, by omega, by omega⟩
      clear hgb hk8 hpr hcut cC HD HP5 HK5 HGA HVA HV5 HVL HKA
      go_wp2_with fail
      go_loopw [7] (fun i wr => ∃ k : Nat, i = .int .i64 k ∧ k ≤ m ∧ k ≤ 6 ∧ (∃ x y, Pair wr (s + 1) gb x y) ∧ Kept (fun _ => False) w wr ∧ wr.heap[pb]? = some (.cells #[.int .i64 st, .int .i64 ck, dv, .slice sA sn sc, .slice wA wn wc, .slice lA ln lc, .slice B m e, .slice O on oc] 49 (0, 0))) (fun i _ => 6 - (intOf i).toNat)
      case atStart => exact ⟨0, rfl, Nat.zero_le _, by omega, ⟨_, _, HPR.out⟩, HK8.out, HP8.out⟩
      case round =>
        obtain ⟨k, rfl, hkm, hk6, ⟨x, y, hpr⟩, hkr, hpk⟩ := hrel
        have HPR2 := Lib.hid hpr
        have HKR := Lib.hid hkr
        have HPK := Lib.hid hpk
        clear hpr hkr hpk
        have p6 : wr.cell? ⟨pb, 6, none⟩ = some (.slice B m e) := cell_of_row _ _ _ _ _ _ HPK.out
        by_cases hlt : k < m
        · have b1 : decide (k < m) = true := decide_eq_true hlt
          have b2 : decide ((k : Int) < (m : Int)) = true := decide_eq_true (by omega)
          by_cases hl6 : k < 6
          · have b3 : decide ((k : Int) < 6) = true := decide_eq_true (by omega)
            have b4 : decide (k < 6) = true := decide_eq_true hl6
            obtain ⟨ad, q, hB, hs, c0, c1, c2, i1, i2, _⟩ := (HX.out.kept HKR.out).ps.at_ hlt
            simp only at hB
            subst hB
            have HQS := Lib.hid (HPS.out q (List.mem_of_getElem? hs))
            obtain ⟨qa, qd, qs⟩ := q
            simp only at c0 c1 c2 i1 i2 HQS
            have t1 : (0 : Int) ≤ (k : Int) := by omega
            have t2 : (k : Int) < (m : Int) := by omega
            clear hs
            go_upto_region 12 with fail
            have hkq : Kept (fun _ => False) wr (wr.alloc (patO qa qd qs)) := (Kept.refl _ wr).alloc _
            have HG1 : Hid ((wr.alloc (patO qa qd qs)).heap[wr.heap.size]? = some (patO qa qd qs)) := heap_alloc_new wr _
            have HPR3 := Lib.hid (HPR2.out.keep hkq)
            have HKQ := Lib.hid (HKR.out.trans hkq)
            have HPK3 := Lib.hid ((hkq.block _ (heap_lt HPK.out) id).trans HPK.out)
            obtain ⟨gq, hgq⟩ : ∃ gq, wr.heap.size = gq := ⟨_, rfl⟩
            have HGE : Hid (wr.heap.size = gq) := hgq
            have HWR := Lib.hid hkq
            have HGQ : Hid (gb < gq) := by show _ < _; rw [← hgq]; exact heap_lt HPR2.out.b
            simp only [hgq] at HG1 ⊢
            simp only [patO] at hkq HWR HG1 HPR3 HKQ HPK3
            generalize wr.alloc _ = wq at *
            clear hkq c0 c1 c2 p6
            have hox := HPR3.out.two.ox
            have hxl : x.L.length ≤ 2000 := hox.els.1
            have hxr : ∀ e ∈ x.L, Cd.ruOk e.r := fun e he => (hox.els.2.1 e he).2
            have HXV : Hid (Vld (txL x.L)) := txL_vld hox.els
            obtain ⟨x0, x1, x2, x3, x4, x5⟩ := site_cells HPR3.out.a
            obtain ⟨TX, hTX⟩ : ∃ TX, runesBytes (txL x.L) = TX := ⟨_, rfl⟩
            have HTX := Lib.hid hTX
            have HTS : Hid (TX.size ≤ 8000 ∧ (rs TX).length = (txL x.L).length ∧ (txL x.L).length ≤ 2000) := by
              show _ ∧ _
              have h1 := bytes_le (txL x.L)
              have h2 := txL_len x.L
              rw [← hTX, rs_txt HXV.out, txt_size]
              exact ⟨by omega, rfl, by omega⟩
            have cX := rtext_any x.dv x.L wq HPR3.out.sa.ok.doc (by omega) (fun e he => by have h := hxr e he; unfold Cd.ruOk at h; omega)
            rw [hTX] at cX
            obtain ⟨LT, hLT⟩ : ∃ LT, (txL x.L).length = LT := ⟨_, rfl⟩
            have HLT := Lib.hid hLT
            have cL := fun W => rlen_any TX W (by have := HTS.out.1; omega)
            rw [HTS.out.2.1, hLT] at cL
            clear hox hxr hTX hLT
            go_upto_region 14 with (first
              | (go_at_call 19; refine cX.mono ?_; clear cX; rintro ee w9 ⟨rfl, hk9⟩; have HK9 := Lib.hid hk9; clear hk9)
              | (go_at_call 20; refine (cL _).mono ?_; clear cL; rintro ee w10 ⟨rfl, hk10⟩; have HK10 := Lib.hid (HK9.out.trans hk10); clear hk10))
            have HG2 := Lib.hid ((HK10.out.block _ (heap_lt HG1.out) id).trans HG1.out)
            clear x0 x1 x2 x3 x4 x5
            have hl0 : LT ≤ 2000 := by have h1 := HTS.out.2.2; have h2 := HLT.out; omega
            obtain ⟨⟨u0, u1, u2⟩, v0, v1, v2⟩ := three_facts HG2.out
            have cW := fun W => within_any qa ((LT : Int) + 1) (by omega) (by omega) W
            go_upto_region 15 with (go_at_call 21; refine (cW _).mono ?_; clear cW; rintro ee w11 ⟨k1, hk1, rfl, hw⟩; have hw2 := hw.symm; subst hw2; clear hw)
            have HG3 : Hid ((w10.setCell ⟨gq, 0, none⟩ (.int .i64 (k1 : Int))).heap[gq]? = some (.cells #[.int .i64 (k1 : Int), .int .i64 qd, .string qs] 55 (0, 0))) := heap_set HG2.out _
            have HK11 : Hid (Kept (fun z => z = gq) wq (w10.setCell ⟨gq, 0, none⟩ (.int .i64 (k1 : Int)))) := (HK10.out.mono (T := fun z => z = gq) (fun z _ e => e.elim)).setCell (p := ⟨gq, 0, none⟩) rfl _
            clear u0 u1 u2 v0 v1 v2
            generalize w10.setCell ⟨gq, 0, none⟩ (.int .i64 (k1 : Int)) = w11 at *
            obtain ⟨⟨u0, u1, u2⟩, v0, v1, v2⟩ := three_facts HG3.out
            have cW := fun W => within_any qd ((LT : Int) - (k1 : Int) + 1) (by omega) (by omega) W
            go_upto_region 16 with (go_at_call 21; refine (cW _).mono ?_; clear cW; rintro ee w12 ⟨k2, hk2, rfl, hw⟩; have hw2 := hw.symm; subst hw2; clear hw)
            have HG4 : Hid ((w11.setCell ⟨gq, 1, none⟩ (.int .i64 (k2 : Int))).heap[gq]? = some (.cells #[.int .i64 (k1 : Int), .int .i64 (k2 : Int), .string qs] 55 (0, 0))) := heap_set HG3.out _
            have HK12 : Hid (Kept (fun z => z = gq) wq (w11.setCell ⟨gq, 1, none⟩ (.int .i64 (k2 : Int)))) := HK11.out.setCell (p := ⟨gq, 1, none⟩) rfl _
            clear u0 u1 u2 v0 v1 v2
            generalize w11.setCell ⟨gq, 1, none⟩ (.int .i64 (k2 : Int)) = w12 at *
            obtain ⟨⟨u0, u1, u2⟩, v0, v1, v2⟩ := three_facts HG4.out
            have hk12 : k1 + k2 ≤ LT := by omega
            have hk13 : Kept (fun _ => False) wr w12 := HWR.out.fresh HK12.out (fun z hz e => by have e : z = gq := e; have := HGE.out; omega)
            have HPR4 := Lib.hid (HPR2.out.keep hk13)
            have HK13 := Lib.hid (HKR.out.trans hk13)
            have HPK4 := Lib.hid ((hk13.block _ (heap_lt HPK.out) id).trans HPK.out)
            have cD := down_all x k1 k2 qs w12 HPR4.out.sa.ok (HT.out.kept HK13.out id id) HQS.out HPR4.out.two.ox (by omega)
            obtain ⟨x0, x1, x2, x3, x4, x5⟩ := site_cells HPR4.out.a
            clear hk13
            go_wp2_with fail
            refine cD.mono ?_
            clear cD
            rintro ee w14 ⟨hd, hk14⟩
            have HPR5 := Lib.hid (HPR4.out.keep hk14)
            have HK14 := Lib.hid (HK13.out.trans hk14)
            have HPK5 := Lib.hid ((hk14.block _ (heap_lt HPK4.out) id).trans HPK4.out)
            have HG5 := Lib.hid ((hk14.block _ (heap_lt HG4.out) id).trans HG4.out)
            clear hk14 x0 x1 x2 x3 x4 x5 u0 u1 u2 v0 v1 v2
            rcases hd with ⟨c, hc, rfl⟩ | ⟨R, hR, hRv, hf, T, bl, y2, rfl, hto, h4, hops, hyP, hnew⟩
            · have hc0 : (c != 0) = true := by rcases hc with rfl | rfl <;> rfl
              have hc1 : (c == 0) = false := by rcases hc with rfl | rfl <;> rfl
              have cN := fun W => num27_any c W
              clear hc
              go_wp2_with (go_at_call 23; refine (cN _).mono ?_; rintro ee w15 ⟨rfl, rfl⟩)
              go_roundw
              case rel => exact ⟨k + 1, by go_num, by omega, by omega, ⟨x, y, HPR5.out.keep ((Kept.refl _ _).alloc _)⟩, HK14.out.alloc _, (((Kept.refl (fun _ => False) _).alloc _).block _ (heap_lt HPK5.out) id).trans HPK5.out⟩
              case measure => simp [intOf]; omega
            · have cN := fun W => num27_any 0 W
              obtain ⟨TA, tc, rfl⟩ := own_form' hto.tg.own
              obtain ⟨yst, yck, ydv, yL, ysA, ysn, ysc, yseen, ywA, ywn, ywc, ywl, ylA, yln, ylc, yll⟩ := y2
              obtain ⟨yA, yc, hydv⟩ := hnew.doc.form
              simp only at hydv
              subst hydv
              simp only [SiteS.V, SiteS.cs] at *
              have HTO := Lib.hid hto
              have H4 := Lib.hid h4
              have HOPS := Lib.hid hops
              have HYP := Lib.hid hyP
              have HNEW := Lib.hid hnew
              have HF := Lib.hid hf
              have HRR := Lib.hid hR
              have HRV := Lib.hid hRv
              clear hto h4 hops hyP hnew hf hR hRv
              have hbl : bl.length = k2 + R.length := by
                have h1 := congrArg List.length HOPS.out
                rw [List.length_map, dnOps_len HF.out] at h1
                exact h1
              have HBL := Lib.hid hbl
              obtain ⟨nb, hnb⟩ : ∃ nb, bl.length = nb := ⟨_, rfl⟩
              have HNB := Lib.hid hnb
              simp only [hnb] at HTO ⊢
              clear hbl hnb
              go_upto_region 18 with (go_at_call 23; refine (cN _).mono ?_; clear cN; rintro ee w15 ⟨rfl, rfl⟩)
              have hk16 : Kept (fun _ => False) w14 (w14.alloc (SiteS.O ⟨yst, yck, .slice yA yL.length yc, yL, ysA, ysn, ysc, yseen, ywA, ywn, ywc, ywl, ylA, yln, ylc, yll⟩)) := (Kept.refl _ w14).alloc _
              have HY2 : Hid ((w14.alloc (SiteS.O ⟨yst, yck, .slice yA yL.length yc, yL, ysA, ysn, ysc, yseen, ywA, ywn, ywc, ywl, ylA, yln, ylc, yll⟩)).heap[w14.heap.size]? = some (SiteS.O ⟨yst, yck, .slice yA yL.length yc, yL, ysA, ysn, ysc, yseen, ywA, ywn, ywc, ywl, ylA, yln, ylc, yll⟩)) := heap_alloc_new w14 _
              have HPR6 := Lib.hid (HPR5.out.keep hk16)
              have HNEW6 := Lib.hid (HNEW.out.keep hk16)
              have HTO6 := Lib.hid (HTO.out.keep hk16)
              have HK16 := Lib.hid (HK14.out.trans hk16)
              have HPK6 := Lib.hid ((hk16.block _ (heap_lt HPK5.out) id).trans HPK5.out)
              have HG6 := Lib.hid ((hk16.block _ (heap_lt HG5.out) id).trans HG5.out)
              clear hk16
              simp only [SiteS.O, SiteS.cs] at HY2 HPR6 HNEW6 HTO6 HK16 HPK6
              obtain ⟨g12, hg12⟩ : ∃ g12, w14.heap.size = g12 := ⟨_, rfl⟩
              have HG12 := Lib.hid hg12
              simp only [hg12] at HY2 ⊢
              generalize w14.alloc _ = w16 at *
              clear hg12
              go_wp2_with fail
              go_loopw [14] (fun i wi => ∃ j : Nat, i = .int .i64 j ∧ j ≤ nb ∧ (∃ yy : SiteS, wi.heap[gb]? = some yy.O ∧ Stay wi (fun z => z = s + 1 ∨ z = gb) yy ∧ Inn x.P k1 k2 R j yy.P) ∧ Kept (fun z => z = gb) w16 wi) (fun i _ => nb - (intOf i).toNat)
              case atStart => exact ⟨0, rfl, Nat.zero_le _, ⟨y, HPR6.out.b, HPR6.out.sb, HPR6.out.two.inn⟩, Kept.refl _ _⟩
              case round =>
                obtain ⟨wi, hwi⟩ : ∃ wi, wi = wr := ⟨_, rfl⟩
                subst hwi
                obtain ⟨j, rfl, hjn, ⟨yy, hyb, hys, hin⟩, hki⟩ := hrel
                have HYB := Lib.hid hyb
                have HYS := Lib.hid hys
                have HIN := Lib.hid hin
                have HKI := Lib.hid hki
                clear hyb hys hin hki
                have hnb9 : nb ≤ 4000 := by
                  have h1 := HNB.out
                  have h2 := HBL.out
                  have h3 := HF.out.rm.doc
                  omega
                by_cases hjl : j < nb
                · have b5 : decide (j < nb) = true := decide_eq_true hjl
                  have b6 : decide ((j : Int) < (nb : Int)) = true := decide_eq_true (by omega)
                  have t1 : (0 : Int) ≤ (j : Int) := by omega
                  have t2 : (j : Int) < (nb : Int) := by omega
                  have hgx : gb < w12.heap.size := by
                    have h1 := heap_lt HPR4.out.b
                    exact h1
                  have HTOI := Lib.hid (HTO6.out.keepS HKI.out (fun z hz e => by have e : z = gb := e; omega))
                  obtain ⟨ad, b, hTA, hbj, hop9, hopk⟩ := ((HTOI.out.opsM HNB.out).1).at_ hjl
                  subst hTA
                  have hoj : (dnOps x.P k1 k2 R)[j]? = some b.o := by rw [← HOPS.out, List.getElem?_map, hbj]; rfl
                  have HOJ := Lib.hid hoj
                  obtain ⟨k1', k2', k3', k4'⟩ := HIN.out.can HF.out hoj
                  have hTi : Tabs wi := HT.out.kept ((HK16.out.fresh HKI.out (fun z hz e => by have e : z = gb := e; have := HGB.out; omega))) id id
                  have cU : ∀ W, Kept (fun _ => False) wi W → Calls Tryd.prog 24 #[yy.V, opV b] W fun e w' => UpOk W w' yy.P b.o e ∧ Kept (fun _ => False) W w' := fun W hk => up_ok yy b W (HYS.out W hk.any) (hopk.kept hk (fun _ _ => id)) (hTi.kept hk id id) HIN.out.oy k1' k2' k3' (by have h := k4'; simp only [SiteS.P, List.length_map] at h; exact h)
                  have HKIW := Lib.hid (HK16.out.fresh HKI.out (fun z hz e => by have e : z = gb := e; have := HGB.out; omega))
                  have HGBI : Hid (gb < wi.heap.size ∧ s + 1 < wi.heap.size) := by
                    have h1 := heap_lt HYB.out
                    have h2 := HGB.out
                    exact ⟨h1, by omega⟩
                  have HO9 := Lib.hid hop9
                  obtain ⟨o0, o1, o2, o3, o4, o5, o6, o7, o8⟩ := hop9
                  obtain ⟨y0, y1, y2, y3, y4, y5⟩ := site_cells HYB.out
                  obtain ⟨⟨kd, t, si, t0, s0, rn, ost, onn, oseen⟩, oA, on, oc⟩ := b
                  obtain ⟨zst, zck, zdv, zL, zsA, zsn, zsc, zseen, zwA, zwn, zwc, zwl, zlA, zln, zlc, zll⟩ := yy
                  simp only [SiteS.V, SiteS.cs, opV] at cU y0 y1 y2 y3 y4 y5 o0 o1 o2 o3 o4 o5 o6 o7 o8
                  clear k1' k2' k3' k4' hopk hTi hbj hoj hgx
                  go_upto_region 21 with fail
                  go_cut [16, 17] from 79 to 98 (fun v u wx => UpB wi wx (SiteS.P ⟨zst, zck, zdv, zL, zsA, zsn, zsc, zseen, zwA, zwn, zwc, zwl, zlA, zln, zlc, zll⟩) ⟨kd, t, si, t0, s0, rn, ost, onn, oseen⟩ v u)
                  case first =>
                    have ZPSp : Hid (((wi.alloc (.cells #[.int .i64 0, .int .i64 0, .string ⟨#[]⟩] 55)).alloc (.cells #[.int .i64 0, .int .i64 0, .slice none 0 0, .slice none 0 0, .slice none 0 0, .slice none 0 0] 46)).heap[wi.heap.size]? = some (.cells #[.int .i64 0, .int .i64 0, .string ⟨#[]⟩] 55)) := heap_old (heap_alloc_new _ _) _
                    have ZPSs : Hid (((wi.alloc (.cells #[.int .i64 0, .int .i64 0, .string ⟨#[]⟩] 55)).alloc (.cells #[.int .i64 0, .int .i64 0, .slice none 0 0, .slice none 0 0, .slice none 0 0, .slice none 0 0] 46)).heap[wi.heap.size + 1]? = some (.cells #[.int .i64 0, .int .i64 0, .slice none 0 0, .slice none 0 0, .slice none 0 0, .slice none 0 0] 46)) := heap_new1 _ _ _
                    have ZSPs : Hid (((wi.alloc (.cells #[.int .i64 0, .int .i64 0, .slice none 0 0, .slice none 0 0, .slice none 0 0, .slice none 0 0] 46)).alloc (.cells #[.int .i64 0, .int .i64 0, .string ⟨#[]⟩] 55)).heap[wi.heap.size]? = some (.cells #[.int .i64 0, .int .i64 0, .slice none 0 0, .slice none 0 0, .slice none 0 0, .slice none 0 0] 46)) := heap_old (heap_alloc_new _ _) _
                    have ZSPp : Hid (((wi.alloc (.cells #[.int .i64 0, .int .i64 0, .slice none 0 0, .slice none 0 0, .slice none 0 0, .slice none 0 0] 46)).alloc (.cells #[.int .i64 0, .int .i64 0, .string ⟨#[]⟩] 55)).heap[wi.heap.size + 1]? = some (.cells #[.int .i64 0, .int .i64 0, .string ⟨#[]⟩] 55)) := heap_new1 _ _ _
                    have ZP : Hid ((wi.alloc (.cells #[.int .i64 0, .int .i64 0, .string ⟨#[]⟩] 55)).heap[wi.heap.size]? = some (.cells #[.int .i64 0, .int .i64 0, .string ⟨#[]⟩] 55)) := heap_alloc_new _ _
                    have ZS : Hid ((wi.alloc (.cells #[.int .i64 0, .int .i64 0, .slice none 0 0, .slice none 0 0, .slice none 0 0, .slice none 0 0] 46)).heap[wi.heap.size]? = some (.cells #[.int .i64 0, .int .i64 0, .slice none 0 0, .slice none 0 0, .slice none 0 0, .slice none 0 0] 46)) := heap_alloc_new _ _
                    have HD0 := Lib.hid (Kept.refl (fun _ => False) wi).drew
                    have HD1 := Lib.hid ((Kept.refl (fun _ => False) wi).alloc (.cells #[.int .i64 0, .int .i64 0, .string ⟨#[]⟩] 55)).drew
                    have HD2 := Lib.hid ((Kept.refl (fun _ => False) wi).alloc (.cells #[.int .i64 0, .int .i64 0, .slice none 0 0, .slice none 0 0, .slice none 0 0, .slice none 0 0] 46)).drew
                    have HD3 := Lib.hid (((Kept.refl (fun _ => False) wi).alloc (.cells #[.int .i64 0, .int .i64 0, .string ⟨#[]⟩] 55)).alloc (.cells #[.int .i64 0, .int .i64 0, .slice none 0 0, .slice none 0 0, .slice none 0 0, .slice none 0 0] 46)).drew
                    have HD4 := Lib.hid (((Kept.refl (fun _ => False) wi).alloc (.cells #[.int .i64 0, .int .i64 0, .slice none 0 0, .slice none 0 0, .slice none 0 0, .slice none 0 0] 46)).alloc (.cells #[.int .i64 0, .int .i64 0, .string ⟨#[]⟩] 55)).drew
                    have KFF : Hid (∀ W, Kept (fun z => wi.heap.size ≤ z) wi W → W.cell? ⟨gb, 0, none⟩ = some (.int .i64 zst) ∧ W.cell? ⟨gb, 1, none⟩ = some (.int .i64 zck) ∧ W.cell? ⟨gb, 2, none⟩ = some zdv ∧ W.cell? ⟨gb, 3, none⟩ = some (.slice zsA zsn zsc) ∧ W.cell? ⟨gb, 4, none⟩ = some (.slice zwA zwn zwc) ∧ W.cell? ⟨gb, 5, none⟩ = some (.slice zlA zln zlc) ∧ W.cell? (ad.add (j * 9)) = some (.int .i64 kd) ∧ W.cell? ⟨(ad.add (j * 9)).block, (ad.add (j * 9)).off + 1, none⟩ = some (.int .i64 t) ∧ W.cell? ⟨(ad.add (j * 9)).block, (ad.add (j * 9)).off + 2, none⟩ = some (.int .i64 si) ∧ W.cell? ⟨(ad.add (j * 9)).block, (ad.add (j * 9)).off + 3, none⟩ = some (.int .i64 t0) ∧ W.cell? ⟨(ad.add (j * 9)).block, (ad.add (j * 9)).off + 4, none⟩ = some (.int .i64 s0) ∧ W.cell? ⟨(ad.add (j * 9)).block, (ad.add (j * 9)).off + 5, none⟩ = some (.int .i64 rn) ∧ W.cell? ⟨(ad.add (j * 9)).block, (ad.add (j * 9)).off + 6, none⟩ = some (.int .i64 ost) ∧ W.cell? ⟨(ad.add (j * 9)).block, (ad.add (j * 9)).off + 7, none⟩ = some (.int .i64 onn) ∧ W.cell? ⟨(ad.add (j * 9)).block, (ad.add (j * 9)).off + 8, none⟩ = some (.slice oA on oc)) := by
                      show ∀ W, _
                      intro W hk
                      have h9 := HO9.out.kept hk (fun e => by have h1 := World.block_lt_of_cell? _ _ HO9.out.c0; omega)
                      obtain ⟨a0, a1, a2, a3, a4, a5⟩ := site_cells ((hk.block gb HGBI.out.1 (fun e => by have h1 := HGBI.out.1; have e : wi.heap.size ≤ gb := e; omega)).trans HYB.out)
                      exact ⟨a0, a1, a2, a3, a4, a5, h9.c0, h9.c1, h9.c2, h9.c3, h9.c4, h9.c5, h9.c6, h9.c7, h9.c8⟩
                    have KA := Lib.hid (Kept.refl (fun z => wi.heap.size ≤ z) wi)
                    clear o0 o1 o2 o3 o4 o5 o6 o7 o8 y0 y1 y2 y3 y4 y5
                    go_region_held3 (fun (W : World) => W.cell? ⟨gb, 0, none⟩ = some (.int .i64 zst) ∧ W.cell? ⟨gb, 1, none⟩ = some (.int .i64 zck) ∧ W.cell? ⟨gb, 2, none⟩ = some zdv ∧ W.cell? ⟨gb, 3, none⟩ = some (.slice zsA zsn zsc) ∧ W.cell? ⟨gb, 4, none⟩ = some (.slice zwA zwn zwc) ∧ W.cell? ⟨gb, 5, none⟩ = some (.slice zlA zln zlc) ∧ W.cell? (ad.add (j * 9)) = some (.int .i64 kd) ∧ W.cell? ⟨(ad.add (j * 9)).block, (ad.add (j * 9)).off + 1, none⟩ = some (.int .i64 t) ∧ W.cell? ⟨(ad.add (j * 9)).block, (ad.add (j * 9)).off + 2, none⟩ = some (.int .i64 si) ∧ W.cell? ⟨(ad.add (j * 9)).block, (ad.add (j * 9)).off + 3, none⟩ = some (.int .i64 t0) ∧ W.cell? ⟨(ad.add (j * 9)).block, (ad.add (j * 9)).off + 4, none⟩ = some (.int .i64 s0) ∧ W.cell? ⟨(ad.add (j * 9)).block, (ad.add (j * 9)).off + 5, none⟩ = some (.int .i64 rn) ∧ W.cell? ⟨(ad.add (j * 9)).block, (ad.add (j * 9)).off + 6, none⟩ = some (.int .i64 ost) ∧ W.cell? ⟨(ad.add (j * 9)).block, (ad.add (j * 9)).off + 7, none⟩ = some (.int .i64 onn) ∧ W.cell? ⟨(ad.add (j * 9)).block, (ad.add (j * 9)).off + 8, none⟩ = some (.slice oA on oc))
                      (exact KFF.out _ (by repeat' (first | with_reducible exact KB.out | with_reducible exact KB.out.drew | with_reducible exact KA.out.drew | with_reducible exact KA.out | with_reducible refine Kept.setCell ?_ ?_ _ | with_reducible refine Kept.alloc ?_ _ | with_reducible refine Kept.drew ?_ | (dsimp only; omega))))
                      (first | (go_at_call 24; (with_reducible refine (cU _ HD3.out).mono ?_); rintro ee w6 ⟨⟨n', m', s', y', rfl, hn6, hu6⟩, hk6⟩; obtain ⟨ust, uck, udv, uL, usA, usn, usc, useen, uwA, uwn, uwc, uwl, ulA, uln, ulc, ull⟩ := y'; obtain ⟨uA, uc, hdv⟩ := hn6.doc.form; simp only at hdv; subst hdv; have HN6 := Lib.hid hn6; have HU6 := Lib.hid hu6; have HK6 := Lib.hid hk6; have HDX := Lib.hid (HD3.out); have KB := Lib.hid ((HD3.out.trans hk6).any (S := fun z => wi.heap.size ≤ z)); have hsz := HK6.out.size; simp at hsz; simp only [SiteS.V, SiteS.cs]; clear hn6 hu6; have hp6 := ((hk6.block _ (heap_lt ZPSp.out) id).trans ZPSp.out); have hs6 := ((hk6.block _ (heap_lt ZPSs.out) id).trans ZPSs.out); have HSA := Lib.hid hs6; obtain ⟨⟨⟨⟨u10, u11, u12⟩, v10, v11, v12⟩, ⟨x10, x11, x12, x13, x14, x15⟩, y10, y11, y12, y13, y14, y15⟩, hF1, hG1⟩ := both_facts hp6 hs6 (by omega) (.int .i64 n') (.int .i64 m') (.string s') (.int .i64 ust) (.int .i64 uck) (.slice uA uL.length uc) (.slice usA usn usc) (.slice uwA uwn uwc) (.slice ulA uln ulc); obtain ⟨⟨p10, p11, p12⟩, q10, q11, q12⟩ := hF1 _ rfl; obtain ⟨⟨r10, r11, r12, r13, r14, r15⟩, s10, s11, s12, s13, s14, s15⟩ := hG1 _ rfl; clear hF1 hG1; clear hp6 hs6; clear hk6) | (go_at_call 24; (with_reducible refine (cU _ HD4.out).mono ?_); rintro ee w6 ⟨⟨n', m', s', y', rfl, hn6, hu6⟩, hk6⟩; obtain ⟨ust, uck, udv, uL, usA, usn, usc, useen, uwA, uwn, uwc, uwl, ulA, uln, ulc, ull⟩ := y'; obtain ⟨uA, uc, hdv⟩ := hn6.doc.form; simp only at hdv; subst hdv; have HN6 := Lib.hid hn6; have HU6 := Lib.hid hu6; have HK6 := Lib.hid hk6; have HDX := Lib.hid (HD4.out); have KB := Lib.hid ((HD4.out.trans hk6).any (S := fun z => wi.heap.size ≤ z)); have hsz := HK6.out.size; simp at hsz; simp only [SiteS.V, SiteS.cs]; clear hn6 hu6; have hs6 := ((hk6.block _ (heap_lt ZSPs.out) id).trans ZSPs.out); have hp6 := ((hk6.block _ (heap_lt ZSPp.out) id).trans ZSPp.out); have HSA := Lib.hid hs6; obtain ⟨⟨⟨⟨u10, u11, u12⟩, v10, v11, v12⟩, ⟨x10, x11, x12, x13, x14, x15⟩, y10, y11, y12, y13, y14, y15⟩, hF1, hG1⟩ := both_facts hp6 hs6 (by omega) (.int .i64 n') (.int .i64 m') (.string s') (.int .i64 ust) (.int .i64 uck) (.slice uA uL.length uc) (.slice usA usn usc) (.slice uwA uwn uwc) (.slice ulA uln ulc); obtain ⟨⟨p10, p11, p12⟩, q10, q11, q12⟩ := hF1 _ rfl; obtain ⟨⟨r10, r11, r12, r13, r14, r15⟩, s10, s11, s12, s13, s14, s15⟩ := hG1 _ rfl; clear hF1 hG1; clear hp6 hs6; clear hk6) | (go_at_call 24; (with_reducible refine (cU _ HD1.out).mono ?_); rintro ee w6 ⟨⟨n', m', s', y', rfl, hn6, hu6⟩, hk6⟩; obtain ⟨ust, uck, udv, uL, usA, usn, usc, useen, uwA, uwn, uwc, uwl, ulA, uln, ulc, ull⟩ := y'; obtain ⟨uA, uc, hdv⟩ := hn6.doc.form; simp only at hdv; subst hdv; have HN6 := Lib.hid hn6; have HU6 := Lib.hid hu6; have HK6 := Lib.hid hk6; have HDX := Lib.hid (HD1.out); have KB := Lib.hid ((HD1.out.trans hk6).any (S := fun z => wi.heap.size ≤ z)); have hsz := HK6.out.size; simp at hsz; simp only [SiteS.V, SiteS.cs]; clear hn6 hu6; have hp6 := ((hk6.block _ (heap_lt ZP.out) id).trans ZP.out); have hlt6 := heap_lt hp6; have HSA := Lib.hid (heap_alloc_new w6 (.cells #[.int .i64 0, .int .i64 0, .slice none 0 0, .slice none 0 0, .slice none 0 0, .slice none 0 0] 46)); obtain ⟨⟨⟨⟨u10, u11, u12⟩, v10, v11, v12⟩, ⟨x10, x11, x12, x13, x14, x15⟩, y10, y11, y12, y13, y14, y15⟩, hF1, hG1⟩ := both_facts (heap_old hp6 (.cells #[.int .i64 0, .int .i64 0, .slice none 0 0, .slice none 0 0, .slice none 0 0, .slice none 0 0] 46)) HSA.out (by omega) (.int .i64 n') (.int .i64 m') (.string s') (.int .i64 ust) (.int .i64 uck) (.slice uA uL.length uc) (.slice usA usn usc) (.slice uwA uwn uwc) (.slice ulA uln ulc); obtain ⟨⟨p10, p11, p12⟩, q10, q11, q12⟩ := hF1 _ rfl; obtain ⟨⟨r10, r11, r12, r13, r14, r15⟩, s10, s11, s12, s13, s14, s15⟩ := hG1 _ rfl; clear hF1 hG1; obtain ⟨⟨u30, u31, u32⟩, v30, v31, v32⟩ := three_facts (heap_old hp6 (.cells #[.int .i64 ust, .int .i64 uck, .slice uA uL.length uc, .slice usA usn usc, .slice uwA uwn uwc, .slice ulA uln ulc] 46)); clear hp6 hlt6; clear hk6) | (go_at_call 24; (with_reducible refine (cU _ HD2.out).mono ?_); rintro ee w6 ⟨⟨n', m', s', y', rfl, hn6, hu6⟩, hk6⟩; obtain ⟨ust, uck, udv, uL, usA, usn, usc, useen, uwA, uwn, uwc, uwl, ulA, uln, ulc, ull⟩ := y'; obtain ⟨uA, uc, hdv⟩ := hn6.doc.form; simp only at hdv; subst hdv; have HN6 := Lib.hid hn6; have HU6 := Lib.hid hu6; have HK6 := Lib.hid hk6; have HDX := Lib.hid (HD2.out); have KB := Lib.hid ((HD2.out.trans hk6).any (S := fun z => wi.heap.size ≤ z)); have hsz := HK6.out.size; simp at hsz; simp only [SiteS.V, SiteS.cs]; clear hn6 hu6; have hs6 := ((hk6.block _ (heap_lt ZS.out) id).trans ZS.out); have HSB := Lib.hid hs6; obtain ⟨⟨x30, x31, x32, x33, x34, x35⟩, y30, y31, y32, y33, y34, y35⟩ := six_facts (heap_old hs6 (.cells #[.int .i64 n', .int .i64 m', .string s'] 55)); clear hs6; clear hk6) | (go_at_call 24; (with_reducible refine (cU _ HD0.out).mono ?_); rintro ee w6 ⟨⟨n', m', s', y', rfl, hn6, hu6⟩, hk6⟩; obtain ⟨ust, uck, udv, uL, usA, usn, usc, useen, uwA, uwn, uwc, uwl, ulA, uln, ulc, ull⟩ := y'; obtain ⟨uA, uc, hdv⟩ := hn6.doc.form; simp only at hdv; subst hdv; have HN6 := Lib.hid hn6; have HU6 := Lib.hid hu6; have HK6 := Lib.hid hk6; have HDX := Lib.hid (HD0.out); have KB := Lib.hid ((HD0.out.trans hk6).any (S := fun z => wi.heap.size ≤ z)); have hsz := HK6.out.size; simp at hsz; simp only [SiteS.V, SiteS.cs]; clear hn6 hu6; clear hk6))
                    all_goals
                      go_wp2_with fail
                      go_meet
                      clear cU
                    · exact up_cut HDX.out HK6.out HN6.out HU6.out (((Kept.refl _ w6).alloc _).alloc _) (by omega) (heap_new1 _ _ _)
                    · exact up_cut HDX.out HK6.out HN6.out HU6.out (((Kept.refl _ w6).alloc _).alloc _) (by omega) (heap_old (heap_alloc_new w6 _) _)
                    · exact up_cut HDX.out HK6.out HN6.out HU6.out (Kept.six (Kept.three ((Kept.refl _ w6).alloc _) (.inl ⟨Nat.le_refl _, by first | (simp; done) | (simp; omega)⟩) _ _ _) (.inr (Nat.le_refl _)) _ _ _ _ _ _) (by omega) (six_set (heap_far3 HSA.out (by omega) _ _ _) _ _ _ _ _ _)
                    · exact up_cut HDX.out HK6.out HN6.out HU6.out (Kept.six (Kept.three (Kept.refl _ w6) (.inl ⟨Nat.le_refl _, by first | (simp; done) | (simp; omega)⟩) _ _ _) (.inl ⟨by omega, by first | (simp; done) | (simp; omega)⟩) _ _ _ _ _ _) (by omega) (six_set (heap_far3 HSA.out (by omega) _ _ _) _ _ _ _ _ _)
                    · exact up_cut HDX.out HK6.out HN6.out HU6.out (Kept.six ((Kept.refl _ w6).alloc _) (.inl ⟨Nat.le_refl _, by first | (simp; done) | (simp; omega)⟩) _ _ _ _ _ _) (by omega) (six_set (heap_old HSB.out _) _ _ _ _ _ _)
                    · exact up_cut HDX.out HK6.out HN6.out HU6.out (Kept.six (Kept.three (Kept.refl _ w6) (.inl ⟨by omega, by first | (simp; done) | (simp; omega)⟩) _ _ _) (.inl ⟨Nat.le_refl _, by first | (simp; done) | (simp; omega)⟩) _ _ _ _ _ _) (by omega) (six_set (heap_far3 HSA.out (by omega) _ _ _) _ _ _ _ _ _)
                  case rest =>
                    obtain ⟨g, y3, rfl, rfl, hkx, hg16, hnew3, hup3, hgi⟩ := hcut
                    obtain ⟨w17, hw17⟩ : ∃ w17, w17 = wc := ⟨_, rfl⟩
                    subst hw17
                    have hyb17 := (hkx.block gb HGBI.out.1 id).trans HYB.out
                    have HIN2 := Lib.hid (HIN.out.next HF.out HOJ.out hup3)
                    have HUP3 := Lib.hid hup3
                    have HN3 := Lib.hid hnew3
                    have HKX := Lib.hid hkx
                    have HG3 : Hid (wi.heap.size ≤ g) := hgi
                    have HYB17 := Lib.hid hyb17
                    have HG16 := Lib.hid hg16
                    obtain ⟨yA3, yc3, hydv3⟩ := hnew3.doc.form
                    clear hkx hg16 hnew3 hup3 hgi hyb17 cU
                    obtain ⟨qst, qck, qdv, qL, qsA, qsn, qsc, qseen, qwA, qwn, qwc, qwl, qlA, qln, qlc, qll⟩ := y3
                    simp only at hydv3
                    subst hydv3
                    have cN := fun W => num27_any 0 W
                    obtain ⟨x0, x1, x2, x3, x4, x5⟩ := site_cells HG16.out
                    obtain ⟨⟨_, _, _, _, _, _⟩, y0, y1, y2, y3, y4, y5⟩ := six_facts HYB17.out
                    simp only at x0 x1 x2 x3 x4 x5
                    have HYB18 := Lib.hid (site_over (y := ⟨qst, qck, .slice yA3 qL.length yc3, qL, qsA, qsn, qsc, qseen, qwA, qwn, qwc, qwl, qlA, qln, qlc, qll⟩) HYB17.out)
                    have HK18 := Lib.hid (Kept.six (Kept.refl (fun z => z = gb) w17) rfl (.int .i64 qst) (.int .i64 qck) (.slice yA3 qL.length yc3) (.slice qsA qsn qsc) (.slice qwA qwn qwc) (.slice qlA qln qlc))
                    go_upto_region 24 with (go_at_call 23; refine (cN _).mono ?_; clear cN; rintro ee w18 ⟨rfl, rfl⟩)
                    go_wp2_with fail
                    go_roundw
                    case rel =>
                      have h1 := HGBI.out
                      exact ⟨j + 1, by go_num, by omega, ⟨_, HYB18.out, stay_new ((HN3.out.keepS HK18.out (fun z hz e => by have e : z = gb := e; omega))) HIN2.out.oy (fun z hz e => by omega), HIN2.out⟩, (HKI.out.trans HKX.out.any).trans HK18.out⟩
                    case measure => simp [intOf]; omega
                · have b5 : decide (j < nb) = false := decide_eq_false hjl
                  have b6 : decide ((j : Int) < (nb : Int)) = false := decide_eq_false (by omega)
                  have hjn2 : j = k2 + R.length := by
                    have h1 := HNB.out
                    have h2 := HBL.out
                    omega
                  have HTWO : Hid (Two (dnS x.P k1 k2 R) yy.P) := by
                    have h1 := HIN.out
                    rw [hjn2] at h1
                    exact h1.two HF.out
                  clear hjn2
                  have hgx : gb < w12.heap.size := heap_lt HPR4.out.b
                  have hgb2 : gb < g12 := by
                    have h1 := heap_lt HPR5.out.b
                    have h2 := HG12.out
                    omega
                  have HTI : Hid (Tabs wi) := HT.out.kept ((HK16.out.fresh HKI.out (fun z hz e => by have e : z = gb := e; have := HGB.out; omega))) id id
                  have HKIW := Lib.hid (HK16.out.fresh HKI.out (fun z hz e => by have e : z = gb := e; have := HGB.out; omega))
                  have hnei : s + 1 ≠ gb := by have := HGB.out; omega
                  have HYI := Lib.hid ((HKI.out.block g12 (heap_lt HY2.out) (fun e => by have e : g12 = gb := e; omega)).trans HY2.out)
                  have HAI := Lib.hid ((HKI.out.block (s + 1) (heap_lt HPR6.out.a) hnei).trans HPR6.out.a)
                  have HQI := Lib.hid ((HKI.out.block gq (heap_lt HG6.out) (fun e => by have e : gq = gb := e; have := HGQ.out; omega)).trans HG6.out)
                  have HPI := Lib.hid ((HKI.out.block pb (heap_lt HPK6.out) (fun e => by have e : pb = gb := e; have := HGB.out; omega)).trans HPK6.out)
                  have HNI := Lib.hid (HNEW6.out.keepS HKI.out (fun z hz e => by have e : z = gb := e; omega))
                  obtain ⟨⟨x0, x1, x2, x3, x4, x5⟩, _⟩ := six_facts HYI.out
                  obtain ⟨⟨z0, z1, z2, z3, z4, z5⟩, y0, y1, y2, y3, y4, y5⟩ := six_facts HAI.out
                  have hk6 : Kept (fun z => z = s + 1) wi ((((((wi.setCell ⟨s + 1, 0, none⟩ (.int .i64 yst)).setCell ⟨s + 1, 1, none⟩ (.int .i64 yck)).setCell ⟨s + 1, 2, none⟩ (.slice yA yL.length yc)).setCell ⟨s + 1, 3, none⟩ (.slice ysA ysn ysc)).setCell ⟨s + 1, 4, none⟩ (.slice ywA ywn ywc)).setCell ⟨s + 1, 5, none⟩ (.slice ylA yln ylc)) := Kept.six (Kept.refl (fun z => z = s + 1) wi) rfl _ _ _ _ _ _
                  have HAJ := Lib.hid (site_over (y := ⟨yst, yck, .slice yA yL.length yc, yL, ysA, ysn, ysc, yseen, ywA, ywn, ywc, ywl, ylA, yln, ylc, yll⟩) HAI.out)
                  have HK6 := Lib.hid hk6
                  clear hk6
                  go_upto_region 26 with fail
                  clear x0 x1 x2 x3 x4 x5 y0 y1 y2 y3 y4 y5 z0 z1 z2 z3 z4 z5
                  simp only at HAJ
                  generalize ((((((wi.setCell ⟨s + 1, 0, none⟩ (.int .i64 yst)).setCell ⟨s + 1, 1, none⟩ (.int .i64 yck)).setCell ⟨s + 1, 2, none⟩ (.slice yA yL.length yc)).setCell ⟨s + 1, 3, none⟩ (.slice ysA ysn ysc)).setCell ⟨s + 1, 4, none⟩ (.slice ywA ywn ywc)).setCell ⟨s + 1, 5, none⟩ (.slice ylA yln ylc)) = wj at HAJ HK6 ⊢
                  have hyl : yL = dnDoc x.P k1 k2 R := congrArg SiteP.L HYP.out
                  have hpj : Pair wj (s + 1) gb ⟨yst, yck, .slice yA yL.length yc, yL, ysA, ysn, ysc, yseen, ywA, ywn, ywc, ywl, ylA, yln, ylc, yll⟩ yy :=
                    ⟨HAJ.out, (HK6.out.block gb (heap_lt HYB.out) (fun e => hnei (e : gb = s + 1).symm)).trans HYB.out,
                      stay_new (HNI.out.keepS HK6.out (fun z hz e => by have e : z = s + 1 := e; have := HGB.out; omega)) (by rw [HYP.out]; exact dnS_ok HF.out) (fun z hz e => by have := HGB.out; rcases e with e | e <;> omega),
                      HYS.out.keep (HK6.out.mono (fun z _ e => .inl e)), by rw [HYP.out]; exact HTWO.out⟩
                  have hyL : yy.L = yL := hpj.two.el
                  have hl2 : yL.length ≤ 100000 := by have h1 := hpj.two.ox.els.1; have h2 : (SiteP.L (SiteS.P ⟨yst, yck, .slice yA yL.length yc, yL, ysA, ysn, ysc, yseen, ywA, ywn, ywc, ywl, ylA, yln, ylc, yll⟩)).length = yL.length := rfl; omega
                  have hru : ∀ e ∈ yL, 0 ≤ e.r ∧ e.r ≤ 1114111 := fun e he => by
                    have h := (hpj.two.ox.els.2.1 e he).2
                    unfold Cd.ruOk at h
                    omega
                  have hde : Se wj yy.dv yL := by have h := hpj.sb.ok.doc; rw [hyL] at h; exact h
                  have HDA := Lib.hid hpj.sa.ok.doc
                  have HDE := Lib.hid hde
                  have HPJ := Lib.hid hpj
                  obtain ⟨TY, hTY⟩ : ∃ TY, runesBytes (txL yL) = TY := ⟨_, rfl⟩
                  have HTY := Lib.hid hTY
                  have hap : runesBytes ((rs TX).take k1) ++ qs ++ runesBytes ((rs TX).drop (k1 + k2)) = TY := by
                    rw [← hTY, hyl]
                    exact lower_text HF.out HXV.out HTX.out HRR.out
                  have cE : ∀ W, Kept (fun _ => False) wj W → Calls Tryd.prog 13 #[.slice yA yL.length yc, yy.dv] W fun e w' => e = .returned (.bool true) ∧ Kept (fun _ => False) wj w' := fun W hk =>
                    (eqelems_yes _ _ yL W (HDA.out.kept hk) (HDE.out.kept hk) hl2).mono (fun e w' h => ⟨h.1, hk.trans h.2⟩)
                  have cT : ∀ W, Kept (fun _ => False) wj W → Calls Tryd.prog 19 #[.slice yA yL.length yc] W fun e w' => e = .returned (.string TY) ∧ Kept (fun _ => False) wj w' := fun W hk =>
                    (rtext_any _ yL W (HDA.out.kept hk) hl2 hru).mono (fun e w' h => ⟨by rw [h.1, hTY], hk.trans h.2⟩)
                  have cA : ∀ W, Kept (fun _ => False) wj W → Calls Tryd.prog 25 #[.string TX, .agg #[.int .i64 (k1 : Int), .int .i64 (k2 : Int), .string qs]] W fun e w' => e = .returned (.string TY) ∧ Kept (fun _ => False) wj w' := fun W hk =>
                    (rapply_any TX k1 k2 qs W (by have := HTS.out.1; omega) (by have h1 := HTS.out.2.1; have h2 := HLT.out; omega) (by have := HQS.out; omega)).mono (fun e w' h => ⟨by rw [h.1, hap], hk.trans h.2⟩)
                  have KFF : Hid (∀ W, Kept (fun _ => False) wj W → W.cell? ⟨s + 1, 2, none⟩ = some (.slice yA yL.length yc) ∧ W.cell? ⟨gb, 2, none⟩ = some yy.dv ∧ W.cell? ⟨gq, 0, none⟩ = some (.int .i64 (k1 : Int)) ∧ W.cell? ⟨gq, 1, none⟩ = some (.int .i64 (k2 : Int)) ∧ W.cell? ⟨gq, 2, none⟩ = some (.string qs)) := by
                    show ∀ W, _
                    intro W hk
                    obtain ⟨_, _, a2, _⟩ := site_cells ((hk.block _ (heap_lt HPJ.out.a) id).trans HPJ.out.a)
                    obtain ⟨_, _, b2, _⟩ := site_cells ((hk.block _ (heap_lt HPJ.out.b) id).trans HPJ.out.b)
                    have hq := (HK6.out.block gq (heap_lt HQI.out) (fun e => by have e : gq = s + 1 := e; have := HGQ.out; have := HGB.out; omega)).trans HQI.out
                    obtain ⟨⟨q0, q1, q2⟩, _⟩ := three_facts ((hk.block _ (heap_lt hq) id).trans hq)
                    exact ⟨a2, b2, q0, q1, q2⟩
                  have KD := Lib.hid (Kept.refl (fun _ => False) wj).drew
                  have HPK7 : Hid (Kept (fun _ => False) w wj ∧ wj.heap[pb]? = some (.cells #[.int .i64 st, .int .i64 ck, dv, .slice sA sn sc, .slice wA wn wc, .slice lA ln lc, .slice (some ad) m e, .slice O on oc] 49 (0, 0))) :=
                    ⟨HKIW.out.fresh HK6.out (fun z hz e => by have e : z = s + 1 := e; have := HGB.out; omega), (HK6.out.block pb (heap_lt HPI.out) (fun e => by have e : pb = s + 1 := e; have := HGB.out; omega)).trans HPI.out⟩
                  have HY3 : Hid (∃ y4, y4 = (⟨yst, yck, .slice yA yL.length yc, yL, ysA, ysn, ysc, yseen, ywA, ywn, ywc, ywl, ylA, yln, ylc, yll⟩ : SiteS) ∧ Pair wj (s + 1) gb y4 yy) := ⟨_, rfl, hpj⟩
                  clear hpj hyL hl2 hru hde hTY hap hyl HDA HDE HAJ HYI HAI HQI HNI HPJ
                  go_region_held3 (fun (W : World) => W.cell? ⟨s + 1, 2, none⟩ = some (.slice yA yL.length yc) ∧ W.cell? ⟨gb, 2, none⟩ = some yy.dv ∧ W.cell? ⟨gq, 0, none⟩ = some (.int .i64 (k1 : Int)) ∧ W.cell? ⟨gq, 1, none⟩ = some (.int .i64 (k2 : Int)) ∧ W.cell? ⟨gq, 2, none⟩ = some (.string qs))
                    (exact KFF.out _ (by first | with_reducible exact KT.out | with_reducible exact KA.out | with_reducible exact KE.out | with_reducible exact KD.out))
                    (first
                      | (go_at_call 13; (with_reducible refine (cE _ KD.out).mono ?_); rintro ee w20 ⟨rfl, hk20⟩; have KE := Lib.hid hk20; clear hk20)
                      | (go_at_call 19; (with_reducible refine (cT _ (by first | with_reducible exact KE.out | with_reducible exact KA.out)).mono ?_); rintro ee w21 ⟨rfl, hk21⟩; have KT := Lib.hid hk21; clear hk21)
                      | (go_at_call 25; (with_reducible refine (cA _ (by first | with_reducible exact KE.out | with_reducible exact KT.out)).mono ?_); rintro ee w22 ⟨rfl, hk22⟩; have KA := Lib.hid hk22; clear hk22))
                  all_goals
                    go_wp2_with fail
                    go_roundw
                    case rel =>
                      obtain ⟨y4, _, hpj⟩ := HY3.out
                      first
                        | exact ⟨k + 1, by go_num, by omega, by omega, ⟨y4, yy, hpj.keep KA.out⟩, HPK7.out.1.trans KA.out, (KA.out.block _ (heap_lt HPK7.out.2) id).trans HPK7.out.2⟩
                        | exact ⟨k + 1, by go_num, by omega, by omega, ⟨y4, yy, hpj.keep KT.out⟩, HPK7.out.1.trans KT.out, (KT.out.block _ (heap_lt HPK7.out.2) id).trans HPK7.out.2⟩
                    case measure => simp [intOf]; omega
          · have b3 : decide ((k : Int) < 6) = false := decide_eq_false (by omega)
            have b4 : decide (k < 6) = false := decide_eq_false (by omega)
            go_wp2_with (first
              | (go_at_call 5; refine (heavy24_none _).mono ?_; rintro ee w9 ⟨rfl, hk9⟩; have HK9 := Lib.hid (HKR.out.trans hk9); clear hk9)
              | (go_at_call 26; refine (wakes27 _ (HT.out.kept HK9.out id id)).mono ?_; rintro ee w10 ⟨rfl, hk10⟩; have HK10 := Lib.hid (HK9.out.trans hk10); clear hk10))
            go_ret
            exact ⟨rfl, HK10.out⟩
        · have b1 : decide (k < m) = false := decide_eq_false hlt
          have b2 : decide ((k : Int) < (m : Int)) = false := decide_eq_false (by omega)
          go_wp2_with (first
            | (go_at_call 5; refine (heavy24_none _).mono ?_; rintro ee w9 ⟨rfl, hk9⟩; have HK9 := Lib.hid (HKR.out.trans hk9); clear hk9)
            | (go_at_call 26; refine (wakes27 _ (HT.out.kept HK9.out id id)).mono ?_; rintro ee w10 ⟨rfl, hk10⟩; have HK10 := Lib.hid (HK9.out.trans hk10); clear hk10))
          go_ret
          exact ⟨rfl, HK10.out⟩
end Go.Proofs.YthkohjijppbliaaDoor
