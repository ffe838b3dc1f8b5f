/-
  LOWER: work.remove.
-/
import Derived.Test.YthkohjijppbliaaDoorLpG
import Derived.Test.YthkohjijppbliaaDoorLpJ
set_option linter.unusedVariables false
namespace Go.Proofs.YthkohjijppbliaaDoor
open Go Go.RowKit

theorem Wb.setCk {w : World} {B g s sc : Nat} {st ck : Int} {dv : Value} {seen : List Int} {wv lv T : Value} {bl : List OpS} (h : Wb w B g s sc st ck dv seen wv lv T bl) (z : Int) : Wb (w.setCell ⟨g, 1, none⟩ (.int .i64 z)) B g s sc st z dv seen wv lv T bl := by
  have hk : Kept (fun q => q = g) w (w.setCell ⟨g, 1, none⟩ (.int .i64 z)) := (Kept.refl (fun q => q = g) w).setCell (p := ⟨g, 1, none⟩) rfl _
  have h1 := h.sB
  have h2 := h.gB
  refine ⟨heap_set h.h _, h.vm.kept hk (fun e => by have e : s = g := e; omega), h.ops.keepS hk (fun q hq e => by have e : q = g := e; omega), h.n4, (fun q hq => by
    obtain ⟨b, cur, h3, h4, hz⟩ := h.ty q hq
    have h5 := h.ops.far q hq _ h3
    exact ⟨b, cur, h3, (hk.block b (heap_lt h4) (fun e => by have e : b = g := e; have h5 : B ≤ b := h5; omega)).trans h4, hz⟩), h.sB, h.gB, Nat.le_trans h.BB hk.size⟩
theorem flatE_dead : ∀ {L : List ElemS} {k : Nat} {e : ElemS}, L[k]? = some e → flatE (L.set k { e with d := true }) = (flatE L).set (k * 4 + 3) (.bool true)
  | [], k, e, h => by simp at h
  | q :: L, 0, e, h => by
    simp only [List.getElem?_cons_zero, Option.some.injEq] at h
    subst h
    rfl
  | q :: L, k + 1, e, h => by
    have ih := flatE_dead (L := L) (k := k) (e := e) (by simpa using h)
    rw [List.set_cons_succ]
    have e1 : ∀ (x : ElemS) (M : List ElemS), flatE (x :: M) = x.vs ++ flatE M := fun x M => by simp [flatE]
    rw [e1, e1, ih, show (k + 1) * 4 + 3 = (k * 4 + 3) + 4 by omega]
    rfl
theorem Em.dead {w : World} {g cap : Nat} {L : List ElemS} (h : Em w g cap L) {k : Nat} {e : ElemS} (he : L[k]? = some e) : Em (w.setCell ⟨g, k * 4 + 3, none⟩ (.bool true)) g cap (L.set k { e with d := true }) := by
  obtain ⟨cur, h1, h2, h3⟩ := h.h
  refine ⟨⟨cur.setIfInBounds (k * 4 + 3) (.bool true), heap_set h1 _, by rw [Array.size_setIfInBounds]; exact h2, ?_⟩, by rw [List.length_set]; exact h.le⟩
  rw [Array.toList_setIfInBounds, List.length_set, List.take_set, h3, flatE_dead he]
theorem el_at {w : World} {g cap : Nat} {L : List ElemS} (h : Em w g cap L) {k : Nat} {e : ElemS} (he : L[k]? = some e) :
    w.cell? ⟨g, k * 4, none⟩ = some (.int .i64 e.t) ∧ w.cell? ⟨g, k * 4 + 1, none⟩ = some (.int .i64 e.si) ∧ w.cell? ⟨g, k * 4 + 2, none⟩ = some (.int .i64 e.r) ∧ w.cell? ⟨g, k * 4 + 3, none⟩ = some (.bool e.d) ∧ w.frozen? ⟨g, k * 4 + 3, none⟩ = false := by
  obtain ⟨cur, h1, _⟩ := h.h
  exact ⟨h.cell (j := k * 4) (flatE_get (f := 0) he rfl), h.cell (flatE_get (f := 1) he rfl), h.cell (flatE_get (f := 2) he rfl), h.cell (flatE_get (f := 3) he rfl), frozen_of h1⟩
theorem Em.kept {S : Nat → Prop} {w w' : World} {g cap : Nat} {L : List ElemS} (h : Em w g cap L) (hk : Kept S w w') (hs : ¬ S g) : Em w' g cap L := by
  obtain ⟨cur, h1, h2⟩ := h.h
  exact ⟨⟨cur, (hk.block g (heap_lt h1) hs).trans h1, h2⟩, h.le⟩
theorem kill_dead {e : ElemS} {l : List ElemS} {n : Nat} (h : e.d = true) : kill (e :: l) n = e :: kill l n := by
  conv => lhs; unfold kill
  rw [if_pos h]
theorem kill_live {e : ElemS} {l : List ElemS} {n : Nat} (h : e.d = false) : kill (e :: l) (n + 1) = { e with d := true } :: kill l n := by
  conv => lhs; unfold kill
  rw [if_neg (by rw [h]; decide)]
theorem dels_dead {e : ElemS} {l : List ElemS} {n : Nat} (h : e.d = true) : dels (e :: l) n = dels l n := by
  conv => lhs; unfold dels
  rw [if_pos h]
theorem dels_live {e : ElemS} {l : List ElemS} {n : Nat} (h : e.d = false) : dels (e :: l) (n + 1) = e :: dels l n := by
  conv => lhs; unfold dels
  rw [if_neg (by rw [h]; decide)]
theorem txL_drop_some {L : List ElemS} {k : Nat} (h : 0 < (txL (L.drop k)).length) : k < L.length := by
  by_cases hk : k < L.length
  · exact hk
  · rw [List.drop_of_length_le (by omega)] at h
    simp [txL] at h
theorem seenAt_ok {seen : List Int} {k0 j : Nat} {y : Int} (hv : Cd.vecOk seen) (hy : seen[k0]? = some y) (hj : y + (j : Int) ≤ 2000) : (seenAt seen k0 j).length = 4 ∧ (∀ x ∈ seenAt seen k0 j, I64 x) ∧ (seenAt seen k0 j)[k0]? = some (y + (j : Int)) ∧ Cd.vecOk (seenAt seen k0 j) := by
  have hl := hv.1
  have hk := (List.getElem?_eq_some_iff.1 hy).1
  have hgd : seen.getD k0 0 = y := by rw [List.getD_eq_getElem?_getD, hy]; rfl
  have hy0 := hv.2 y (List.mem_of_getElem? hy)
  have hmem : ∀ x ∈ seenAt seen k0 j, 0 ≤ x ∧ x ≤ 2000 := by
    intro x hx
    unfold seenAt at hx
    rcases List.mem_or_eq_of_mem_set hx with h | h
    · exact hv.2 x h
    · rw [h, hgd]; omega
  refine ⟨by rw [seenAt_len, hl], fun x hx => ?_, by rw [seenAt_get seen k0 j hk, hgd], by rw [seenAt_len]; exact hl, hmem⟩
  have := hmem x hx
  exact ⟨by omega, by omega⟩
set_option maxRecDepth 100000 in
set_option maxHeartbeats 16000000 in
theorem wrem_any (B g s sc d dc Bd : Nat) (st ck : Int) (L : List ElemS) (seen : List Int) (wv lv T : Value) (bl : List OpS) (low n k0 : Nat) (y : Int) (w : World) (h : Wb w B g s sc st ck (.slice (some ⟨d, 0, none⟩) L.length dc) seen wv lv T bl)
    (hd : Em w d dc L) (hds : d < s) (hlow : low ≤ L.length) (hn : n ≤ (txL (L.drop low)).length) (hid : ∀ e ∈ L, I64 e.t ∧ I64 e.si) (hst : 1 ≤ st ∧ st ≤ 4) (hk0 : (st - 1).toNat = k0) (hck : 0 ≤ ck ∧ ck + n ≤ 10000) (hv : Cd.vecOk seen) (hy : seen[k0]? = some y) (hyn : y + n ≤ 2000) (hbl : bl.length + n ≤ 50000) (hL : L.length ≤ 2000) :
    Calls Tryd.prog 52 #[.pointer (some ⟨g, 0, none⟩), .int .i64 low, .int .i64 n] w fun e w' => e = .returned (.tuple #[]) ∧
      (∃ (T' : Value) (bl' : List OpS), Wb w' B g s sc st (ck + n) (.slice (some ⟨d, 0, none⟩) L.length dc) (seenAt seen k0 n) wv lv T' (bl ++ bl') ∧ bl'.map (·.o) = delOps st seen (dels (L.drop low) n) ∧ (∀ z, T'.ownBlock = some z → z < w.heap.size → T.ownBlock = some z) ∧ Em w' d dc (L.take low ++ kill (L.drop low) n)) ∧
      Kept (fun z => z = g ∨ z = s ∨ z = d ∨ T.ownBlock = some z) w w' := by
  obtain ⟨N, hN⟩ : ∃ N, L.length = N := ⟨_, rfl⟩
  rw [hN] at h ⊢
  have HN := Lib.hid hN
  have HW := Lib.hid h
  have HD := Lib.hid hd
  have HV := Lib.hid hv
  have HY := Lib.hid hy
  have HID := Lib.hid hid
  have HK0 := Lib.hid hk0
  have hnb : n ≤ 2000 := by
    have h1 := txL_len (L.drop low)
    rw [List.length_drop] at h1
    omega
  have HTN := Lib.hid hn
  have hln : low ≤ N := by omega
  have hNb : N ≤ 2000 := by omega
  clear h hd hv hy hid hk0 hn hN
  go_enter Tryd.func52, Tryd.ntmps52
  go_wp2_with fail
  go_loopw [2, 6] (fun u v wr => ∃ (k q : Nat) (P D : List ElemS) (T' : Value) (bl' : List OpS), v = .int .i64 k ∧ u = .int .i64 q ∧ k ≤ N ∧ P.length = k ∧ L.take low ++ kill (L.drop low) n = P ++ kill (L.drop k) q ∧ dels (L.drop low) n = D ++ dels (L.drop k) q ∧ D.length + q = n ∧ q ≤ (txL (L.drop k)).length ∧
    Wb wr B g s sc st (ck + (D.length : Int)) (.slice (some ⟨d, 0, none⟩) N dc) (seenAt seen k0 D.length) wv lv T' (bl ++ bl') ∧ bl'.map (·.o) = delOps st seen D ∧ (∀ z, T'.ownBlock = some z → z < w.heap.size → T.ownBlock = some z) ∧ Em wr d dc (P ++ L.drop k) ∧ Kept (fun z => z = g ∨ z = s ∨ z = d ∨ T.ownBlock = some z) w wr) (fun _ v _ => N - (intOf v).toNat)
  case atStart =>
    refine ⟨low, n, L.take low, [], T, [], rfl, rfl, hln, by rw [List.length_take, HN.out]; omega, rfl, rfl, by simp, HTN.out, ?_, rfl, fun z h _ => h, by rw [List.take_append_drop]; exact HD.out, Kept.refl _ _⟩
    simp only [List.length_nil, List.append_nil]
    rw [seenAt_zero]
    have e : ck + ((0 : Nat) : Int) = ck := by omega
    rw [e]
    exact HW.out
  case round =>
    obtain ⟨k, q, P, D, T', bl', rfl, rfl, hk, hPl, hkl, hdl, hDq, hqt, hwb, hbo, hTT, hem, hkept⟩ := hrel
    have HPL := Lib.hid hPl
    have HKL := Lib.hid hkl
    have HDL := Lib.hid hdl
    have HWR := Lib.hid hwb
    have HBO := Lib.hid hbo
    have HTT := Lib.hid hTT
    have HEM := Lib.hid hem
    have HKR := Lib.hid hkept
    have HQT := Lib.hid hqt
    clear hPl hkl hdl hwb hbo hTT hem hkept hqt
    by_cases hq0 : 0 < q
    · have b1 : decide (q > 0) = true := decide_eq_true hq0
      have b2 : decide ((q : Int) > 0) = true := decide_eq_true (by omega)
      have b3 : decide (0 < (q : Int)) = true := decide_eq_true (by omega)
      have b4 : decide (0 < q) = true := decide_eq_true hq0
      have hlt : k < N := by
        have := txL_drop_some (L := L) (k := k) (by have := HQT.out; omega)
        have := HN.out
        omega
      obtain ⟨e, he⟩ : ∃ e, L[k]? = some e := ⟨_, List.getElem?_eq_getElem (by have := HN.out; omega)⟩
      have hdr : L.drop k = e :: L.drop (k + 1) := by
        obtain ⟨hl, hg⟩ := List.getElem?_eq_some_iff.1 he
        rw [← hg]; exact List.drop_eq_getElem_cons hl
      have hek : (P ++ L.drop k)[k]? = some e := by rw [hdr, List.getElem?_append_right (by rw [HPL.out]; exact Nat.le_refl _), HPL.out, Nat.sub_self]; rfl
      obtain ⟨c0, c1, c2, c3, f3⟩ := el_at HEM.out hek
      obtain ⟨⟨p0, p1, p2, p3, p4, p5, p6⟩, q0, q1, q2, q3, q4, q5, q6⟩ := HWR.out.cs
      have t1 : (0 : Int) ≤ (k : Int) := by omega
      have t2 : (k : Int) < (N : Int) := by omega
      have HEK := Lib.hid hek
      have HDR := Lib.hid hdr
      have HIE := Lib.hid (HID.out e (List.mem_of_getElem? he))
      clear he hek hdr
      obtain ⟨et, es, er, ed⟩ := e
      simp only at c0 c1 c2 c3
      cases ed with
      | true =>
        have HX : Hid (L.take low ++ kill (L.drop low) n = (P ++ [⟨et, es, er, true⟩]) ++ kill (L.drop (k + 1)) q ∧ dels (L.drop low) n = D ++ dels (L.drop (k + 1)) q ∧ q ≤ (txL (L.drop (k + 1))).length ∧ P ++ L.drop k = (P ++ [⟨et, es, er, true⟩]) ++ L.drop (k + 1)) := by
          show _ ∧ _ ∧ _ ∧ _
          have h1 := HKL.out
          have h2 := HDL.out
          have h3 := HQT.out
          rw [HDR.out] at h1 h2 h3 ⊢
          rw [kill_dead rfl] at h1
          rw [dels_dead rfl] at h2
          rw [txL_cons] at h3
          simp only [if_true, List.nil_append] at h3
          exact ⟨by rw [h1]; simp, h2, h3, by simp⟩
        go_wp2_with fail
        go_roundw
        case rel =>
          refine ⟨k + 1, q, P ++ [⟨et, es, er, true⟩], D, T', bl', by go_num, rfl, by omega, by rw [List.length_append, HPL.out]; rfl, HX.out.1, HX.out.2.1, hDq, HX.out.2.2.1, HWR.out, HBO.out, HTT.out, ?_, HKR.out⟩
          rw [← HX.out.2.2.2]
          exact HEM.out
        case measure => simp [intOf] <;> omega
      | false =>
        obtain ⟨q', rfl⟩ : ∃ q', q = q' + 1 := ⟨q - 1, by omega⟩
        have HX : Hid (L.take low ++ kill (L.drop low) n = (P ++ [⟨et, es, er, true⟩]) ++ kill (L.drop (k + 1)) q' ∧ dels (L.drop low) n = (D ++ [⟨et, es, er, false⟩]) ++ dels (L.drop (k + 1)) q' ∧ q' ≤ (txL (L.drop (k + 1))).length ∧ (P ++ L.drop k).set k ⟨et, es, er, true⟩ = (P ++ [⟨et, es, er, true⟩]) ++ L.drop (k + 1)) := by
          show _ ∧ _ ∧ _ ∧ _
          have h1 := HKL.out
          have h2 := HDL.out
          have h3 := HQT.out
          rw [HDR.out] at h1 h2 h3 ⊢
          rw [kill_live rfl] at h1
          rw [dels_live rfl] at h2
          rw [txL_cons] at h3
          simp only [Bool.false_eq_true, if_false] at h3
          refine ⟨by rw [h1]; simp, by rw [h2]; simp, by simp at h3; omega, ?_⟩
          rw [List.set_append_right _ _ (by rw [HPL.out]; exact Nat.le_refl _), HPL.out, Nat.sub_self]
          simp
        obtain ⟨m, hm⟩ : ∃ m, D.length = m := ⟨_, rfl⟩
        have HM := Lib.hid hm
        simp only [hm] at HWR hDq p1
        clear hm
        obtain ⟨C, hC⟩ : ∃ C, ck + (m : Int) = C := ⟨_, rfl⟩
        have HC := Lib.hid hC
        simp only [hC] at HWR p1
        have wC : IntKind.i64.wrap (C + 1) = C + 1 := IntWalk.i64_in _ ⟨by omega, by omega⟩
        have wq : IntKind.i64.wrap (((q' + 1 : Nat) : Int) - 1) = (q' : Int) := by rw [show ((q' + 1 : Nat) : Int) - 1 = (q' : Int) by omega]; exact IntWalk.i64_in _ ⟨by omega, by omega⟩
        have wq2 : IntKind.i64.wrap ((q' : Int) + 1 - 1) = (q' : Int) := by rw [show (q' : Int) + 1 - 1 = (q' : Int) by omega]; exact IntWalk.i64_in _ ⟨by omega, by omega⟩
        clear hC
        go_upto_region 6 with fail
        clear c0 c1 c2 c3 f3 p0 p1 p2 p3 p4 p5 p6 q0 q1 q2 q3 q4 q5 q6
        have hk1 : Kept (fun z => z = g) wr (wr.setCell ⟨g, 1, none⟩ (.int .i64 (C + 1))) := (Kept.refl (fun z => z = g) wr).setCell (p := ⟨g, 1, none⟩) rfl _
        have HW1 := Lib.hid (HWR.out.setCk (C + 1))
        have hsg := HWR.out.sB
        have HE1 := Lib.hid (HEM.out.kept hk1 (fun e => by have e : d = g := e; omega))
        have HK1 := Lib.hid (HKR.out.trans (hk1.mono (fun _ _ e => .inl e)))
        have HS1 := Lib.hid hk1.size
        clear hk1
        generalize wr.setCell ⟨g, 1, none⟩ (.int .i64 (C + 1)) = w1 at *
        obtain ⟨s1, s2, s3, s4⟩ := seenAt_ok (j := m) HV.out HY.out (by omega)
        have hy3 := (HV.out.2 y (List.mem_of_getElem? HY.out)).1
        have cA := wadd_any B g s sc st (C + 1) _ (seenAt seen k0 m) wv lv T' (bl ++ bl') 2 et es 0 0 0 k0 (y + (m : Int)) w1 HW1.out hst HK0.out s1 s2 s3 ⟨by omega, by omega⟩ ⟨⟨by omega, by omega⟩, HIE.out.1, HIE.out.2, ⟨by omega, by omega⟩, ⟨by omega, by omega⟩, ⟨by omega, by omega⟩⟩ (by
          have h1 := congrArg List.length HBO.out
          rw [List.length_map, delOps_len, HM.out] at h1
          rw [List.length_append]
          omega)
        have HSK : Hid ((seenAt seen k0 m).set k0 (y + (m : Int) + 1) = seenAt seen k0 (m + 1)) := by
          show _ = _
          have hkk := (List.getElem?_eq_some_iff.1 HY.out).1
          have h := seenAt_step seen k0 m hkk
          rw [List.getD_eq_getElem?_getD, s3] at h
          exact h
        clear s1 s2 s3 s4
        obtain ⟨c0, c1, c2, c3, f3⟩ := el_at HE1.out HEK.out
        simp only at c0 c1 c2 c3
        go_upto_region 7 with (go_at_call 78; refine cA.mono ?_; clear cA c0 c1 c2 c3 f3; rintro ee w2 ⟨rfl, ⟨T2, b2, hwb2, hbo2, hTT2⟩, hk2⟩; have HW2 := Lib.hid hwb2; have HB2 := Lib.hid hbo2; have HT2 := Lib.hid hTT2; have HK2 := Lib.hid hk2; clear hwb2 hbo2 hTT2 hk2)
        have HE2 := Lib.hid (HE1.out.kept HK2.out (fun e => by
          rcases e with e | e | e
          · omega
          · omega
          · have h1 := (HW1.out.ops.lt e).1
            have h2 := HW1.out.gB
            omega))
        obtain ⟨c0, c1, c2, c3, f3⟩ := el_at HE2.out HEK.out
        simp only at c0 c1 c2 c3
        go_upto_region 8 with fail
        clear c0 c1 c2 c3 f3
        have hk3 : Kept (fun z => z = d) w2 (w2.setCell ⟨d, k * 4 + 3, none⟩ (.bool true)) := (Kept.refl (fun z => z = d) w2).setCell (p := ⟨d, k * 4 + 3, none⟩) rfl _
        have HE3 := Lib.hid (HE2.out.dead HEK.out)
        have hgB := HW2.out.gB
        have HW3 := Lib.hid (HW2.out.keep hk3 (fun e => by have e : g = d := e; omega) (fun e => by have e : s = d := e; omega) (fun z hz e => by have e : z = d := e; have := (HW2.out.ops.lt hz).1; omega) (fun q hq a ha e => by have e : a.block = d := e; have := HW2.out.ops.far q hq a ha; omega))
        have HK3 := Lib.hid hk3
        clear hk3
        generalize w2.setCell ⟨d, k * 4 + 3, none⟩ (.bool true) = w3 at *
        go_wp2_with fail
        have hoo : (bl' ++ [b2]).map (·.o) = delOps st seen (D ++ [⟨et, es, er, false⟩]) := by
          rw [List.map_append, HBO.out, delOps_snoc, HM.out]
          congr 1
          rw [List.map_singleton, HB2.out]
          unfold delOp
          rw [HK0.out, List.getD_eq_getElem?_getD, HY.out]
          rfl
        go_roundw
        case rel =>
          refine ⟨k + 1, q', P ++ [⟨et, es, er, true⟩], D ++ [⟨et, es, er, false⟩], T2, bl' ++ [b2], by go_num, by go_num, by omega, by rw [List.length_append, HPL.out]; rfl, HX.out.1, HX.out.2.1, by rw [List.length_append, HM.out]; simp; omega, HX.out.2.2.1, ?_, hoo, ?_, ?_, ?_⟩
          · have e1 : (D ++ [(⟨et, es, er, false⟩ : ElemS)]).length = m + 1 := by rw [List.length_append, HM.out]; rfl
            rw [e1, ← HSK.out, ← List.append_assoc]
            have e2 : ck + ((m + 1 : Nat) : Int) = C + 1 := by have := HC.out; omega
            rw [e2]
            exact HW3.out
          · intro z hz hlt2
            have h1 := HK1.out.size
            exact HTT.out z (HT2.out z hz (by omega)) hlt2
          · rw [← HX.out.2.2.2]
            exact HE3.out
          · refine (HK1.out.over HK2.out (fun z hz e => ?_)).trans (HK3.out.mono (fun _ _ e => .inr (.inr (.inl e))))
            rcases e with e | e | e
            · exact .inl e
            · exact .inr (.inl e)
            · exact .inr (.inr (.inr (HTT.out z e hz)))
        case measure => simp [intOf] <;> omega
    · obtain rfl : q = 0 := by omega
      have b1 : decide ((0 : Nat) > 0) = false := by decide
      have HEQ1 : Hid (P ++ L.drop k = L.take low ++ kill (L.drop low) n) := by show _ = _; rw [HKL.out, kill_zero]
      have HEQ2 : Hid (dels (L.drop low) n = D) := by show _ = _; rw [HDL.out, dels_zero, List.append_nil]
      have hDn : D.length = n := by omega
      go_wp2_with fail
      refine bodyPost_end (results_none rfl _ _ _) rfl ⟨rfl, ⟨T', bl', ?_, ?_, HTT.out, ?_⟩, HKR.out⟩
      · rw [← hDn]; exact HWR.out
      · rw [HEQ2.out]; exact HBO.out
      · rw [← HEQ1.out]; exact HEM.out
end Go.Proofs.YthkohjijppbliaaDoor
