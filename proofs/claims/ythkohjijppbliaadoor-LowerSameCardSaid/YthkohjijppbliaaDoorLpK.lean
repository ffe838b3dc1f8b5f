/-
  LOWER: work.insert.
-/
import Derived.Test.YthkohjijppbliaaDoorLpH
import Derived.Test.YthkohjijppbliaaDoorLMf
set_option linter.unusedVariables false
namespace Go.Proofs.YthkohjijppbliaaDoor
open Go Go.RowKit

theorem bpos_rune {t : List Int} {j : Nat} {x : Int} (hv : Vld t) (h : t[j]? = some x) : ((Utf8.decode (runesBytes t) (bpos t j)).1 : Int) = x := by
  have h1 : Utf.runes ((runesBytes t).data.toList.drop (bpos t j)) = t.drop j := by
    rw [bpos_drop]
    have h2 : rs (runesBytes (t.drop j)) = t.drop j := rs_txt (hv.sub fun r hr => List.mem_of_mem_drop hr)
    unfold rs at h2
    rw [txt_list] at h2
    exact h2
  have h3 := (rune_step h1 (bpos_lt (List.getElem?_eq_some_iff.1 h).1)).1
  rw [h] at h3
  injection h3 with h3
  exact h3.symm
theorem Wb.away {S : Nat → Prop} {w w' : World} {B g s sc : Nat} {st ck : Int} {dv : Value} {seen : List Int} {wv lv T : Value} {bl : List OpS} (h : Wb w B g s sc st ck dv seen wv lv T bl) (hk : Kept S w w') (hg : ¬ S g) (hs : ¬ S s)
    (hS : ∀ z, S z → (∀ cur, w.heap[z]? ≠ some (.cells cur 3 (0, 0))) ∧ ∀ cur, w.heap[z]? ≠ some (.cells cur 42 (0, 0))) : Wb w' B g s sc st ck dv seen wv lv T bl :=
  h.keep hk hg hs (fun z hz e => by
    rcases h.ops.tg.own.2 with ⟨h1, _⟩ | ⟨q, cap, cur, h1, _, h2, _⟩
    · rw [h1] at hz; cases hz
    · rw [h1] at hz
      injection hz with hz
      have hz : q = z := hz
      subst hz
      exact (hS q e).2 cur h2) (fun q hq a ha e => by
    obtain ⟨b, cur, h1, h2, _⟩ := h.ty q hq
    rw [h1] at ha
    injection ha with ha
    subst ha
    exact (hS b e).1 cur h2)
/-- The block of a row is of elements. -/
theorem Oe.typed {w : World} {B : Nat} {v : Value} {L : List ElemS} (h : Oe w B v L) {z : Nat} (hz : v.ownBlock = some z) : B ≤ z ∧ ∃ cur : Array Value, w.heap[z]? = some (.cells cur 71 (0, 0)) := by
  rcases h.2 with ⟨h1, _⟩ | ⟨q, cap, cur, h1, h0, h2, _⟩
  · rw [h1] at hz; cases hz
  · rw [h1] at hz
    injection hz with hz
    have hz : q = z := hz
    subst hz
    exact ⟨h0, cur, h2⟩
theorem To.typed {w : World} {B : Nat} {T : Value} {bl : List OpS} (h : To w B T bl) {z : Nat} (hz : T.ownBlock = some z) : ∃ cur : Array Value, w.heap[z]? = some (.cells cur 42 (0, 0)) := by
  rcases h.tg.own.2 with ⟨h1, _⟩ | ⟨q, cap, cur, h1, _, h2, _⟩
  · rw [h1] at hz; cases hz
  · rw [h1] at hz
    injection hz with hz
    have hz : q = z := hz
    subst hz
    exact ⟨cur, h2⟩
theorem typ_ne {w : World} {a b : Nat} {ta tb : TypeId} {ca cb : Array Value} {fa fb : Nat × Nat} (ha : w.heap[a]? = some (.cells ca ta fa)) (hb : w.heap[b]? = some (.cells cb tb fb)) (h : ta ≠ tb) : a ≠ b := block_ne ha hb h
theorem Wb.setDv {w : World} {B g s sc : Nat} {st ck : Int} {dv : Value} {seen : List Int} {wv lv T : Value} {bl : List OpS} (h : Wb w B g s sc st ck dv seen wv lv T bl) (u : Value) : Wb (w.setCell ⟨g, 2, none⟩ u) B g s sc st ck u seen wv lv T bl := by
  have hk : Kept (fun q => q = g) w (w.setCell ⟨g, 2, none⟩ u) := (Kept.refl (fun q => q = g) w).setCell (p := ⟨g, 2, none⟩) rfl _
  have h1 := h.sB
  have h2 := h.gB
  refine ⟨heap_set h.h _, h.vm.kept hk (fun e => by have e : s = g := e; omega), h.ops.keepS hk (fun q hq e => by have e : q = g := e; omega), h.n4, (fun q hq => by
    obtain ⟨b, cur, h3, h4, hz⟩ := h.ty q hq
    have h5 := h.ops.far q hq _ h3
    exact ⟨b, cur, h3, (hk.block b (heap_lt h4) (fun e => by have e : b = g := e; have h5 : B ≤ b := h5; omega)).trans h4, hz⟩), h.sB, h.gB, Nat.le_trans h.BB hk.size⟩
set_option maxRecDepth 100000 in
set_option maxHeartbeats 16000000 in
theorem wins_any (B g s sc dc Bd : Nat) (A : Option Addr) (OD : Option Nat) (st ck : Int) (L : List ElemS) (seen : List Int) (wv lv T : Value) (bl : List OpS) (p k0 : Nat) (a t0 s0 y : Int) (R : List Int) (w : World) (h : Wb w B g s sc st ck (.slice A L.length dc) seen wv lv T bl)
    (hd : Oe w Bd (.slice A L.length dc) L) (hBd : Bd ≤ w.heap.size) (hod : (Value.slice A L.length dc).ownBlock = OD) (hds : ∀ z, OD = some z → z < s) (hp : p ≤ L.length) (ha : a + 1 = (p : Int)) (hid : p = 0 ∧ t0 = 0 ∧ s0 = 0 ∨ ∃ e, L[p - 1]? = some e ∧ e.t = t0 ∧ e.si = s0 ∧ 0 < p) (hti : I64 t0 ∧ I64 s0) (hst : 1 ≤ st ∧ st ≤ 4) (hk0 : (st - 1).toNat = k0) (hck : 0 ≤ ck ∧ ck + R.length ≤ 10000) (hv : Cd.vecOk seen) (hy : seen[k0]? = some y) (hyn : y + R.length ≤ 2000) (hbl : bl.length + R.length ≤ 50000) (hL : L.length + R.length ≤ 2000) (hR : Vld R) :
    Calls Tryd.prog 53 #[.pointer (some ⟨g, 0, none⟩), .int .i64 a, .string (runesBytes R)] w fun e w' => e = .returned (.tuple #[]) ∧
      (∃ (T' dv' : Value) (bl' : List OpS), Wb w' B g s sc st (ck + R.length) dv' (seenAt seen k0 R.length) wv lv T' (bl ++ bl') ∧ bl'.map (·.o) = insOps st ck seen t0 s0 0 R ∧ (∀ z, T'.ownBlock = some z → z < w.heap.size → T.ownBlock = some z) ∧ Oe w' Bd dv' (L.take p ++ comes st ck R ++ L.drop p)) ∧
      Kept (fun z => z = g ∨ z = s ∨ OD = some z ∨ T.ownBlock = some z) w w' := by
  obtain ⟨N, hN⟩ : ∃ N, L.length = N := ⟨_, rfl⟩
  rw [hN] at h hd hod
  have HOD := Lib.hid hod
  have HN := Lib.hid hN
  have HAP := Lib.hid ha
  have HV := Lib.hid hv
  have HY := Lib.hid hy
  have HID := Lib.hid hid
  have HTI := Lib.hid hti
  have HK0 := Lib.hid hk0
  have HVR := Lib.hid hR
  have HBD := Lib.hid hBd
  have HDS := Lib.hid hds
  have hNb : N ≤ 2000 := by omega
  obtain ⟨M, hM⟩ : ∃ M, R.length = M := ⟨_, rfl⟩
  have HM := Lib.hid hM
  have hpN : p ≤ N := by omega
  rw [hM] at hck hyn hbl hL ⊢
  rw [hN] at hL
  have hka : Kept (fun _ => False) w (w.alloc (.cells #[.int .i64 0, .int .i64 0] 39)) := (Kept.refl _ w).alloc _
  have HI : Hid ((w.alloc (.cells #[.int .i64 0, .int .i64 0] 39)).heap[w.heap.size]? = some (.cells #[.int .i64 0, .int .i64 0] 39 (0, 0))) := heap_alloc_new w _
  have HW := Lib.hid (h.keep0 hka)
  have HD := Lib.hid (hd.kept hka)
  have HKA := Lib.hid hka
  have HBW := Lib.hid h.BB
  have HOPS : Hid (∀ q ∈ bl, ∀ a, q.A = some a → a.block < w.heap.size) := fun q hq a ha => (h.ops.tg.ok q hq).lt (by rw [h.n4 q hq]; omega) ha
  have HTL := Lib.hid (fun z (hz : T.ownBlock = some z) => h.ops.lt hz)
  clear h hd hv hy hid hti hk0 hR hN hM hka hBd hod hds ha
  go_enter Tryd.func53, Tryd.ntmps53
  go_upto_region 1 with fail
  generalize w.alloc (.cells #[.int .i64 0, .int .i64 0] 39) = wa at *
  obtain ⟨ib, hib⟩ : ∃ ib, w.heap.size = ib := ⟨_, rfl⟩
  have HIB := Lib.hid hib
  simp only [hib] at HI ⊢
  clear hib
  have i0 : wa.cell? ⟨ib, 0, none⟩ = some (.int .i64 0) := cell_of_row _ _ _ _ _ _ HI.out
  have i1 : wa.cell? ⟨ib, 1, none⟩ = some (.int .i64 0) := cell_of_row _ _ _ _ _ _ HI.out
  have j0 : wa.frozen? ⟨ib, 0, none⟩ = false := frozen_of HI.out
  have j1 : wa.frozen? ⟨ib, 1, none⟩ = false := frozen_of HI.out
  obtain ⟨⟨p0, p1, p2, p3, p4, p5, p6⟩, q0, q1, q2, q3, q4, q5, q6⟩ := HW.out.cs
  obtain ⟨PB, hPB⟩ : ∃ PB : Bool, decide (0 ≤ a) = PB := ⟨_, rfl⟩
  have HPT : Hid (PB = true → 0 ≤ a) := fun h => by rw [h] at hPB; exact of_decide_eq_true hPB
  have HPF : Hid (PB = false → ¬ 0 ≤ a) := fun h => by rw [h] at hPB; exact of_decide_eq_false hPB
  have b00 : decide (a ≥ 0) = PB := hPB
  go_upto_if 12 with fail
  clear hPB b00
  go_cut [] from 13 to 21 (fun wx => wx.heap[ib]? = some (.cells #[.int .i64 t0, .int .i64 s0] 39 (0, 0)) ∧ Kept (fun z => z = ib) wa wx)
  case first =>
    cases PB with
    | false =>
      have ha := HAP.out
      have hnn := HPF.out rfl
      have HZ : Hid (t0 = 0 ∧ s0 = 0) := by
        rcases HID.out with ⟨_, h⟩ | ⟨e, _, _, _, h⟩
        · exact h
        · omega
      clear hnn ha
      go_wp2_with fail
      go_meet
      refine ⟨?_, Kept.refl _ _⟩
      rw [HZ.out.1, HZ.out.2]
      exact HI.out
    | true =>
      have ha := HAP.out
      have hnn := HPT.out rfl
      obtain ⟨k, rfl⟩ : ∃ k : Nat, a = (k : Int) := ⟨a.toNat, by omega⟩
      have hk : p - 1 = k := by omega
      obtain ⟨e, he, het, hes⟩ : ∃ e, L[p - 1]? = some e ∧ e.t = t0 ∧ e.si = s0 := by
        rcases HID.out with ⟨h, _⟩ | ⟨e, h1, h2, h3, _⟩
        · omega
        · exact ⟨e, h1, h2, h3⟩
      rw [hk] at he
      obtain ⟨d, hAd, hem⟩ : ∃ d, A = some ⟨d, 0, none⟩ ∧ Em wa d dc L := by
        rcases HD.out.em with ⟨_, h⟩ | ⟨d, c, h1, _, h2, _⟩
        · rw [h] at he; simp at he
        · injection h1 with h1 h3 h4
          subst h4
          exact ⟨d, h1, h2⟩
      subst hAd
      obtain ⟨c0, c1, c2, c3, f3⟩ := el_at hem he
      rw [het] at c0
      rw [hes] at c1
      have t1 : (0 : Int) ≤ (k : Int) := by omega
      have t2 : (k : Int) < (N : Int) := by omega
      clear hnn he het hes hk ha hem
      go_wp2_with fail
      go_meet
      exact ⟨heap_set (heap_set HI.out _) _, ((Kept.refl (fun z => z = ib) wa).setCell (p := ⟨ib, 0, none⟩) rfl _).setCell (p := ⟨ib, 1, none⟩) rfl _⟩
  case rest =>
    obtain ⟨hib, hkb⟩ := hcut
    obtain ⟨wb, hwb⟩ : ∃ wb, wb = wc := ⟨_, rfl⟩
    subst hwb
    have hgB := HW.out.gB
    have hsB := HW.out.sB
    have HIG : Hid (B ≤ ib) := by show _ ≤ _; have := HBW.out; have := HIB.out; omega
    have HIB2 := Lib.hid hib
    have HWB := Lib.hid (HW.out.keep hkb (fun e => by have e : g = ib := e; have := HIG.out; omega) (fun e => by have e : s = ib := e; have := HIG.out; omega) (fun z hz e => by
      have e : z = ib := e
      have h1 := (HTL.out z hz).2
      have h2 := HIB.out
      omega) (fun q hq a ha e => by
      have e : a.block = ib := e
      have h1 := HOPS.out q hq a ha
      have h2 := HIB.out
      omega))
    have HDB := Lib.hid (HD.out.keptS hkb (fun z hz e => by have e : z = ib := e; rw [HOD.out] at hz; have := HDS.out z hz; have := HIG.out; omega))
    have HKB : Hid (Kept (fun _ => False) w wb) := HKA.out.fresh hkb (fun q hq e => by have e : q = ib := e; have := HIB.out; omega)
    clear hib hkb i0 i1 j0 j1 p0 p1 p2 p3 p4 p5 p6 q0 q1 q2 q3 q4 q5 q6 HI HW HD HKA
    have HS0 : Hid ((wb.alloc (.stringIter (runesBytes R) 0)).heap[wb.heap.size]? = some (.stringIter (runesBytes R) 0)) := heap_alloc_new wb _
    have hks : Kept (fun _ => False) wb (wb.alloc (.stringIter (runesBytes R) 0)) := (Kept.refl _ wb).alloc _
    have HWC := Lib.hid (HWB.out.keep0 hks)
    have HDC2 := Lib.hid (HDB.out.kept hks)
    have HIC := Lib.hid ((hks.block ib (heap_lt HIB2.out) id).trans HIB2.out)
    have HKC := Lib.hid (HKB.out.trans hks)
    have HGI : Hid (ib < wb.heap.size) := heap_lt HIB2.out
    clear hks
    go_wp2_with fail
    unfold World.iter
    obtain ⟨sB, hsB2⟩ : ∃ sB, runesBytes R = sB := ⟨_, rfl⟩
    have HSB := Lib.hid hsB2
    simp only [hsB2] at HS0 HWC HDC2 HIC HKC ⊢
    clear hsB2
    generalize wb.alloc (.stringIter sB 0) = W at *
    obtain ⟨gi, hgi⟩ : ∃ gi, wb.heap.size = gi := ⟨_, rfl⟩
    have HGIX := Lib.hid hgi
    simp only [hgi] at HS0 HGI ⊢
    clear hgi
    have HXX : Hid (gi < W.heap.size) := heap_lt HS0.out
    go_loopw [7] (fun C wr => ∃ (j : Nat) (T' : Value) (bl' : List OpS) (tj sj : Int), j ≤ M ∧ Wb wr B g s sc st (ck + (j : Int)) (.slice A N dc) (seenAt seen k0 j) wv lv T' (bl ++ bl') ∧ bl'.map (·.o) = insOps st ck seen t0 s0 0 (R.take j) ∧ (∀ z, T'.ownBlock = some z → z < w.heap.size → T.ownBlock = some z) ∧ Oe wr (gi + 1) C (comes st ck (R.take j)) ∧
      wr.heap[ib]? = some (.cells #[.int .i64 tj, .int .i64 sj] 39 (0, 0)) ∧ (if j = 0 then t0 else ck + (j : Int)) = tj ∧ (if j = 0 then s0 else st) = sj ∧ Oe wr Bd (.slice A N dc) L ∧ wr.heap[gi]? = some (.stringIter sB (bpos R j)) ∧ Kept (fun z => z = g ∨ z = s ∨ OD = some z ∨ T.ownBlock = some z) w wr) (fun _ wr => sB.size - wr.iterPos gi)
    case atStart =>
      refine ⟨0, T, [], t0, s0, Nat.zero_le _, ?_, rfl, fun z h _ => h, ?_, HIC.out, rfl, rfl, HDC2.out, HS0.out, HKC.out.any⟩
      · rw [List.append_nil, seenAt_zero]
        have e : ck + ((0 : Nat) : Int) = ck := by omega
        rw [e]
        exact HWC.out
      · exact World.ownsRow_nil _ _ _ _
    case round =>
      obtain ⟨j, T', bl', tj, sj, hj, hwb, hbo, hTT, hoe, hib, htj, hsj, hem, hit, hkept⟩ := hrel
      have HWR := Lib.hid hwb
      have HBO := Lib.hid hbo
      have HTT := Lib.hid hTT
      have HOE := Lib.hid hoe
      have HIR := Lib.hid hib
      have HTJ := Lib.hid htj
      have HSJ := Lib.hid hsj
      have HEM := Lib.hid hem
      have HKR := Lib.hid hkept
      have hpos := iterPos_at hit
      have HPOS := Lib.hid hpos
      have HIT := Lib.hid hit
      clear hwb hbo hTT hoe hib htj hsj hem hit hkept hpos
      by_cases hjM : j < M
      · obtain ⟨x, hx⟩ : ∃ x, R[j]? = some x := ⟨_, List.getElem?_eq_getElem (by have := HM.out; omega)⟩
        have hp2 : bpos R j < sB.size := by rw [← HSB.out]; exact bpos_lt (by have := HM.out; omega)
        have hdc : ((Utf8.decode sB (bpos R j)).1 : Int) = x := by rw [← HSB.out]; exact bpos_rune HVR.out hx
        have hd2 : bpos R j + (Utf8.decode sB (bpos R j)).2 = bpos R (j + 1) := by rw [← HSB.out, bpos_decode HVR.out hx, bpos_step hx]
        have hnx : ∀ ty, (Instr.next (.pointer (some ⟨gi, 0, none⟩)) true ty).run Tryd.prog wr = _ := fun ty => run_next_at wr gi sB (bpos R j) ty HIT.out hp2
        rw [hd2, hdc] at hnx
        have hki : Kept (fun z => z = gi) wr (setIter wr gi sB (bpos R (j + 1))) := Kept.iter wr gi sB _
        have hgg := HWR.out.gB
        have hss := HWR.out.sB
        have HGB : Hid (B ≤ ib ∧ ib < gi) := by show _ ∧ _; have := HIG.out; have := HGI.out; omega
        have HW1 := Lib.hid (HWR.out.away hki (fun e => by have e : g = gi := e; have := HGB.out; omega) (fun e => by have e : s = gi := e; have := HGB.out; omega) (fun z hz => by
          have hz : z = gi := hz
          subst hz
          rw [HIT.out]
          exact ⟨fun cur h => (by injection h with h; cases h), fun cur h => (by injection h with h; cases h)⟩))
        have HE1 := Lib.hid (HEM.out.keptS hki (fun z hz e => by have e : z = gi := e; rw [HOD.out] at hz; have := HDS.out z hz; have := HGB.out; omega))
        have HO1 := Lib.hid (HOE.out.keptS hki (fun z hz e => by have e : z = gi := e; have := (HOE.out.lt z hz).1; omega))
        have HI1 := Lib.hid ((hki.block ib (heap_lt HIR.out) (fun e => by have e : ib = gi := e; have := HGB.out; omega)).trans HIR.out)
        have HT1 := Lib.hid (iter_same (s := sB) (pos := bpos R (j + 1)) HIT.out)
        have HK1 := Lib.hid (HKR.out.over hki (fun z hz e => by have e : z = gi := e; have := HIB.out; have := HGB.out; omega))
        have hrx := HVR.out x (List.mem_of_getElem? hx)
        have HXV : Hid (0 ≤ x ∧ x ≤ 1114111) := by
          show 0 ≤ x ∧ x ≤ 1114111
          unfold Utf8.valid at hrx
          simp at hrx
          omega
        have HRX := Lib.hid hx
        have HPZ : Hid (bpos R j < bpos R (j + 1) ∧ bpos R j < sB.size) := by
          have h1 := Lib.decode_width_pos sB (bpos R j) hp2
          show _ ∧ _
          omega
        have HP1 := Lib.hid (iterPos_at HT1.out)
        clear hki hx hp2 hdc hd2 hrx
        generalize setIter wr gi sB (bpos R (j + 1)) = w1 at *
        obtain ⟨C1, hC1⟩ : ∃ C1, ck + (j : Int) = C1 := ⟨_, rfl⟩
        have HC1 := Lib.hid hC1
        simp only [hC1] at HW1
        have wC : IntKind.i64.wrap (C1 + 1) = C1 + 1 := IntWalk.i64_in _ ⟨by omega, by omega⟩
        clear hC1
        obtain ⟨⟨p0, p1, p2, p3, p4, p5, p6⟩, q0, q1, q2, q3, q4, q5, q6⟩ := HW1.out.cs
        go_upto_region 8 with fail
        clear p0 p1 p2 p3 p4 p5 p6 q0 q1 q2 q3 q4 q5 q6
        have hk2 : Kept (fun z => z = g) w1 (w1.setCell ⟨g, 1, none⟩ (.int .i64 (C1 + 1))) := (Kept.refl (fun z => z = g) w1).setCell (p := ⟨g, 1, none⟩) rfl _
        have HW2 := Lib.hid (HW1.out.setCk (C1 + 1))
        have HE2 := Lib.hid (HE1.out.keptS hk2 (fun z hz e => by have e : z = g := e; rw [HOD.out] at hz; have := HDS.out z hz; omega))
        have HO2 := Lib.hid (HO1.out.keptS hk2 (fun z hz e => by have e : z = g := e; have := (HO1.out.lt z hz).1; have := HGB.out; omega))
        have HI2 := Lib.hid ((hk2.block ib (heap_lt HI1.out) (fun e => by have e : ib = g := e; have := HGB.out; omega)).trans HI1.out)
        have HT2 := Lib.hid ((hk2.block gi (heap_lt HT1.out) (fun e => by have e : gi = g := e; have := HGB.out; omega)).trans HT1.out)
        have HK2 := Lib.hid (HK1.out.trans (hk2.mono (fun _ _ e => .inl e)))
        clear hk2
        generalize w1.setCell ⟨g, 1, none⟩ (.int .i64 (C1 + 1)) = w2 at *
        obtain ⟨⟨p0, p1, p2, p3, p4, p5, p6⟩, q0, q1, q2, q3, q4, q5, q6⟩ := HW2.out.cs
        obtain ⟨nb, hnb⟩ : ∃ nb, w2.heap.size = nb := ⟨_, rfl⟩
        have hk3 : Kept (fun _ => False) w2 (w2.alloc (.cells #[.int .i64 0, .int .i64 0] 39)) := (Kept.refl _ w2).alloc _
        have HN3 : Hid ((w2.alloc (.cells #[.int .i64 0, .int .i64 0] 39)).heap[nb]? = some (.cells #[.int .i64 0, .int .i64 0] 39 (0, 0))) := by rw [← hnb]; exact heap_alloc_new w2 _
        have HW3 := Lib.hid (HW2.out.keep0 hk3)
        have HE3 := Lib.hid (HE2.out.kept hk3)
        have HO3 := Lib.hid (HO2.out.kept hk3)
        have HI3 := Lib.hid ((hk3.block ib (heap_lt HI2.out) id).trans HI2.out)
        have HT3 := Lib.hid ((hk3.block gi (heap_lt HT2.out) id).trans HT2.out)
        have HK3 := Lib.hid (HK2.out.trans hk3.any)
        have HNB : Hid (gi < nb) := by show _ < _; rw [← hnb]; exact heap_lt HT2.out
        obtain ⟨⟨r0, r1, r2, r3, r4, r5, r6⟩, v0, v1, v2, v3, v4, v5, v6⟩ := HW3.out.cs
        have n0 : (w2.alloc (.cells #[.int .i64 0, .int .i64 0] 39)).cell? ⟨nb, 0, none⟩ = some (.int .i64 0) := cell_of_row _ _ _ _ _ _ HN3.out
        have n1 : (w2.alloc (.cells #[.int .i64 0, .int .i64 0] 39)).cell? ⟨nb, 1, none⟩ = some (.int .i64 0) := cell_of_row _ _ _ _ _ _ HN3.out
        have m0 : (w2.alloc (.cells #[.int .i64 0, .int .i64 0] 39)).frozen? ⟨nb, 0, none⟩ = false := frozen_of HN3.out
        have m1 : (w2.alloc (.cells #[.int .i64 0, .int .i64 0] 39)).frozen? ⟨nb, 1, none⟩ = false := frozen_of HN3.out
        go_region
        clear r0 r1 r2 r3 r4 r5 r6 v0 v1 v2 v3 v4 v5 v6 n0 n1 m0 m1 p0 p1 p2 p3 p4 p5 p6 q0 q1 q2 q3 q4 q5 q6 HN3 HW3 HE3 HO3 HI3 HT3 HK3 hk3
        have hk3 : Kept (fun _ => False) w2 (w2.alloc (.cells #[.int .i64 (C1 + 1), .int .i64 st] 39)).drew := ((Kept.refl _ w2).alloc _).drew
        have HN3 : Hid ((w2.alloc (.cells #[.int .i64 (C1 + 1), .int .i64 st] 39)).drew.heap[nb]? = some (.cells #[.int .i64 (C1 + 1), .int .i64 st] 39 (0, 0))) := by rw [← hnb]; exact heap_alloc_new w2 _
        have HW3 := Lib.hid (HW2.out.keep0 hk3)
        have HE3 := Lib.hid (HE2.out.kept hk3)
        have HO3 := Lib.hid (HO2.out.kept hk3)
        have HI3 := Lib.hid ((hk3.block ib (heap_lt HI2.out) id).trans HI2.out)
        have HT3 := Lib.hid ((hk3.block gi (heap_lt HT2.out) id).trans HT2.out)
        have HK3 := Lib.hid (HK2.out.trans hk3.any)
        clear hk3 hnb
        generalize (w2.alloc (.cells #[.int .i64 (C1 + 1), .int .i64 st] 39)).drew = w3 at *
        obtain ⟨s1, s2, s3, s4⟩ := seenAt_ok (j := j) HV.out HY.out (by omega)
        have hy3 := (HV.out.2 y (List.mem_of_getElem? HY.out)).1
        have htj : I64 tj ∧ I64 sj := by
          have h1 := HTJ.out
          have h2 := HSJ.out
          have h3 := HTI.out
          by_cases hj0 : j = 0
          · rw [if_pos hj0] at h1 h2
            rw [← h1, ← h2]
            exact h3
          · rw [if_neg hj0] at h1 h2
            rw [← h1, ← h2]
            exact ⟨⟨by omega, by omega⟩, ⟨by omega, by omega⟩⟩
        have hxv := HXV.out
        have hC1 := HC1.out
        have cA := wadd_any B g s sc st (C1 + 1) _ (seenAt seen k0 j) wv lv T' (bl ++ bl') 1 (C1 + 1) st tj sj x k0 (y + (j : Int)) w3 HW3.out hst HK0.out s1 s2 s3 ⟨by omega, by omega⟩ ⟨⟨by omega, by omega⟩, ⟨by omega, by omega⟩, ⟨by omega, by omega⟩, htj.1, htj.2, ⟨by omega, by omega⟩⟩ (by
          have h1 := congrArg List.length HBO.out
          rw [List.length_map, insOps_len, List.length_take, HM.out] at h1
          rw [List.length_append]
          omega)
        have HSK : Hid ((seenAt seen k0 j).set k0 (y + (j : Int) + 1) = seenAt seen k0 (j + 1)) := by
          show _ = _
          have hkk := (List.getElem?_eq_some_iff.1 HY.out).1
          have h := seenAt_step seen k0 j hkk
          rw [List.getD_eq_getElem?_getD, s3] at h
          exact h
        have wx : IntKind.i64.wrap x = x := IntWalk.i64_in _ ⟨by omega, by omega⟩
        have n0 : w3.cell? ⟨nb, 0, none⟩ = some (.int .i64 (C1 + 1)) := cell_of_row _ _ _ _ _ _ HN3.out
        have n1 : w3.cell? ⟨nb, 1, none⟩ = some (.int .i64 st) := cell_of_row _ _ _ _ _ _ HN3.out
        have n2 : w3.cell? ⟨ib, 0, none⟩ = some (.int .i64 tj) := cell_of_row _ _ _ _ _ _ HI3.out
        have n3 : w3.cell? ⟨ib, 1, none⟩ = some (.int .i64 sj) := cell_of_row _ _ _ _ _ _ HI3.out
        clear s1 s2 s3 s4 htj
        go_upto_region 10 with (go_at_call 78; refine cA.mono ?_; clear cA n0 n1 n2 n3; rintro ee w4 ⟨rfl, ⟨T2, b2, hwb2, hbo2, hTT2⟩, hk4⟩; have HW4 := Lib.hid hwb2; have HB4 := Lib.hid hbo2; have HT4T := Lib.hid hTT2; have HK34 := Lib.hid hk4; clear hwb2 hbo2 hTT2 hk4)
        have HSE : Hid (∀ z, (z = g ∨ z = s ∨ T'.ownBlock = some z) → (z = g ∨ z = s ∨ ∃ cur : Array Value, w3.heap[z]? = some (.cells cur 42 (0, 0)))) := by
          show ∀ z, _
          intro z e
          rcases e with e | e | e
          · exact .inl e
          · exact .inr (.inl e)
          · exact .inr (.inr (HW3.out.ops.typed e))
        have HE4 := Lib.hid (HE3.out.keptS HK34.out (fun z hz e => by
          rw [HOD.out] at hz
          have hz := HDS.out z hz
          rcases e with e | e | e
          · omega
          · omega
          · have h1 := (HW3.out.ops.lt e).1
            omega))
        have HO4 := Lib.hid (HO3.out.keptS HK34.out (fun z hz e => by
          have h0 := HGB.out
          have h1 := (HO3.out.typed hz).1
          obtain ⟨cur, h2⟩ := (HO3.out.typed hz).2
          rcases HSE.out z e with e | e | ⟨cu2, e⟩
          · omega
          · omega
          · exact typ_ne h2 e (by decide) rfl))
        have HI4 := Lib.hid ((HK34.out.block ib (heap_lt HI3.out) (fun e => by
          have h0 := HGB.out
          rcases HSE.out ib e with e | e | ⟨cu2, e⟩
          · omega
          · omega
          · exact typ_ne HI3.out e (by decide) rfl)).trans HI3.out)
        have HN4 := Lib.hid ((HK34.out.block nb (heap_lt HN3.out) (fun e => by
          have h0 := HGB.out
          have h1 := HNB.out
          rcases HSE.out nb e with e | e | ⟨cu2, e⟩
          · omega
          · omega
          · exact typ_ne HN3.out e (by decide) rfl)).trans HN3.out)
        have HT4 := Lib.hid ((HK34.out.block gi (heap_lt HT3.out) (fun e => by
          have h0 := HGB.out
          rcases HSE.out gi e with e | e | ⟨cu2, e⟩
          · omega
          · omega
          · rw [HT3.out] at e
            injection e with e
            cases e)).trans HT3.out)
        have HK4 := Lib.hid (HK3.out.over HK34.out (fun z hz e => by
          rcases e with e | e | e
          · exact .inl e
          · exact .inr (.inl e)
          · exact .inr (.inr (.inr (HTT.out z e hz)))))
        have n0 : w4.cell? ⟨nb, 0, none⟩ = some (.int .i64 (C1 + 1)) := cell_of_row _ _ _ _ _ _ HN4.out
        have n1 : w4.cell? ⟨nb, 1, none⟩ = some (.int .i64 st) := cell_of_row _ _ _ _ _ _ HN4.out
        have hka4 : Kept (fun _ => False) w4 (w4.alloc (elemO ⟨C1 + 1, st, x, false⟩)) := (Kept.refl _ w4).alloc _
        have HKA4 := Lib.hid hka4
        have HO5 : Hid (Oe (w4.alloc (elemO ⟨C1 + 1, st, x, false⟩)) (gi + 1) u7 (comes st ck (R.take j))) := HO4.out.kept hka4
        have HE5O : Hid (Eg (w4.alloc (elemO ⟨C1 + 1, st, x, false⟩)) (some ⟨w4.heap.size, 0, none⟩) 1 [⟨C1 + 1, st, x, false⟩]) := one_el w4 _
        have HLE : Hid ((comes st ck (R.take j)).length + 1 ≤ 100000) := by
          show _ ≤ _
          rw [comes_len, List.length_take]
          omega
        have HBA : Hid (gi + 1 ≤ (w4.alloc (elemO ⟨C1 + 1, st, x, false⟩)).heap.size) := by
          have h1 := heap_lt HT4.out
          show _ ≤ _
          simp
          omega
        clear hka4
        simp only [elemO] at HO5 HE5O HBA HKA4
        go_upto_region 11 with (at_builtin; refine wpList_app_els rfl (.tmp 54) (.tmp 59) rfl (gi + 1) u7 _ rfl HO5.out (some ⟨w4.heap.size, 0, none⟩) 1 1 [⟨C1 + 1, st, x, false⟩] rfl HE5O.out (fun h => by cases h) HLE.out HBA.out ?_; clear n0 n1; intro T7 w7 hown7 hgrow7 hat7; have HO7 := Lib.hid hown7; have HG7 : Hid (Kept (fun z => u7.ownBlock = some z) w4 w7) := HKA4.out.any.trans ⟨hgrow7.os, hgrow7.tape, hgrow7.output, hgrow7.size, fun k hk hs => hgrow7.block k hk (fun e => hs e.symm)⟩; clear hown7 hgrow7 hat7)
        have HS7 : Hid (∀ z, u7.ownBlock = some z → gi + 1 ≤ z ∧ ∃ cur : Array Value, w4.heap[z]? = some (.cells cur 71 (0, 0))) := fun z hz => HO4.out.typed hz
        have HW7 := Lib.hid (HW4.out.away HG7.out (fun e => by have h1 := (HS7.out g e).1; have h0 := HGB.out; omega) (fun e => by have h1 := (HS7.out s e).1; have h0 := HGB.out; omega) (fun z hz => by
          obtain ⟨_, cur, h2⟩ := HS7.out z hz
          exact ⟨fun cu3 h3 => typ_ne h2 h3 (by decide) rfl, fun cu3 h3 => typ_ne h2 h3 (by decide) rfl⟩))
        have HE7 := Lib.hid (HE4.out.keptS HG7.out (fun z hz e => by rw [HOD.out] at hz; have := HDS.out z hz; have h1 := (HS7.out z e).1; have h0 := HGB.out; omega))
        have HI7 := Lib.hid ((HG7.out.block ib (heap_lt HI4.out) (fun e => by have h1 := (HS7.out ib e).1; have h0 := HGB.out; omega)).trans HI4.out)
        have HT7 := Lib.hid ((HG7.out.block gi (heap_lt HT4.out) (fun e => by have h1 := (HS7.out gi e).1; omega)).trans HT4.out)
        have HN7 := Lib.hid ((HG7.out.block nb (heap_lt HN4.out) (fun e => by
          obtain ⟨_, cur, h2⟩ := HS7.out nb e
          exact typ_ne h2 HN4.out (by decide) rfl)).trans HN4.out)
        have HK7 := Lib.hid (HK4.out.over HG7.out (fun z hz e => by have h1 := (HS7.out z e).1; have h0 := HGB.out; have h2 := HIB.out; omega))
        have n0 : w7.cell? ⟨nb, 0, none⟩ = some (.int .i64 (C1 + 1)) := cell_of_row _ _ _ _ _ _ HN7.out
        have n1 : w7.cell? ⟨nb, 1, none⟩ = some (.int .i64 st) := cell_of_row _ _ _ _ _ _ HN7.out
        have n2 : w7.cell? ⟨ib, 0, none⟩ = some (.int .i64 tj) := cell_of_row _ _ _ _ _ _ HI7.out
        have n3 : w7.cell? ⟨ib, 1, none⟩ = some (.int .i64 sj) := cell_of_row _ _ _ _ _ _ HI7.out
        have m2 : w7.frozen? ⟨ib, 0, none⟩ = false := frozen_of HI7.out
        have m3 : w7.frozen? ⟨ib, 1, none⟩ = false := frozen_of HI7.out
        have hk8 : Kept (fun z => z = ib) w7 ((w7.setCell ⟨ib, 0, none⟩ (.int .i64 (C1 + 1))).setCell ⟨ib, 1, none⟩ (.int .i64 st)) := ((Kept.refl (fun z => z = ib) w7).setCell (p := ⟨ib, 0, none⟩) rfl _).setCell (p := ⟨ib, 1, none⟩) rfl _
        have HI8 : Hid (((w7.setCell ⟨ib, 0, none⟩ (.int .i64 (C1 + 1))).setCell ⟨ib, 1, none⟩ (.int .i64 st)).heap[ib]? = some (.cells #[.int .i64 (C1 + 1), .int .i64 st] 39 (0, 0))) := heap_set (heap_set HI7.out _) _
        have HW8 := Lib.hid (HW7.out.away hk8 (fun e => by have e : g = ib := e; have h0 := HGB.out; omega) (fun e => by have e : s = ib := e; have h0 := HGB.out; omega) (fun z hz => by
          have hz : z = ib := hz
          subst hz
          exact ⟨fun cu3 h3 => typ_ne HI7.out h3 (by decide) rfl, fun cu3 h3 => typ_ne HI7.out h3 (by decide) rfl⟩))
        have HE8 := Lib.hid (HE7.out.keptS hk8 (fun z hz e => by have e : z = ib := e; rw [HOD.out] at hz; have := HDS.out z hz; have h0 := HGB.out; omega))
        have HO8 := Lib.hid (Oe.keptS HO7.out hk8 (fun z hz e => by have e : z = ib := e; have h1 := (Oe.lt HO7.out z hz).1; have h0 := HGB.out; omega))
        have HT8 := Lib.hid ((hk8.block gi (heap_lt HT7.out) (fun e => by have e : gi = ib := e; have h0 := HGB.out; omega)).trans HT7.out)
        have HK8 := Lib.hid (HK7.out.over hk8 (fun z hz e => by have e : z = ib := e; have h2 := HIB.out; omega))
        clear hk8 hxv hC1 hgg hss
        go_wp2_with fail
        have hoo : (bl' ++ [b2]).map (·.o) = insOps st ck seen t0 s0 0 (R.take (j + 1)) := by
          rw [List.map_append, HBO.out, insOps_take HRX.out]
          congr 1
          rw [List.map_singleton, HB4.out]
          unfold insOp
          have e1 : (C1 + 1 : Int) = ck + (j : Int) + 1 := by have := HC1.out; omega
          rw [HK0.out, List.getD_eq_getElem?_getD, HY.out, HTJ.out, HSJ.out, e1, Nat.zero_add]
          rfl
        go_roundw
        case rel =>
          refine ⟨j + 1, T2, bl' ++ [b2], C1 + 1, st, by omega, ?_, hoo, ?_, ?_, HI8.out, ?_, ?_, HE8.out, HT8.out, HK8.out⟩
          · rw [← HSK.out, ← List.append_assoc]
            have e2 : ck + ((j + 1 : Nat) : Int) = C1 + 1 := by have := HC1.out; omega
            rw [e2]
            exact HW8.out
          · intro z hz hlt2
            have h1 := HK3.out.size
            exact HTT.out z (HT4T.out z hz (by omega)) hlt2
          · rw [comes_take HRX.out]
            have e1 : ck + (j : Int) + 1 = C1 + 1 := by have := HC1.out; omega
            rw [e1]
            exact HO8.out
          · rw [if_neg (by omega)]
            have := HC1.out
            omega
          · rw [if_neg (by omega)]
        case measure =>
          have h1 := iterPos_at HT8.out
          have h2 := HPZ.out
          have h3 := HPOS.out
          rw [h1, h3]
          omega
      · obtain rfl : j = M := by omega
        have hend : bpos R j = sB.size := by rw [← HSB.out]; exact bpos_all (by have := HM.out; omega)
        have hnx : ∀ ty, (Instr.next (.pointer (some ⟨gi, 0, none⟩)) true ty).run Tryd.prog wr = _ := fun ty => run_next_done wr gi sB (bpos R j) ty HIT.out (by omega)
        have HTK : Hid (R.take j = R) := List.take_of_length_le (by have := HM.out; omega)
        have ha := HAP.out
        have wa1 : IntKind.i64.wrap (a + 1) = (p : Int) := by rw [ha]; exact IntWalk.i64_in _ ⟨by omega, by omega⟩
        have hB0 : B ≤ wr.heap.size := HWR.out.BB
        have hgg := HWR.out.gB
        have hss := HWR.out.sB
        have HGB : Hid (B ≤ ib ∧ ib < gi) := by show _ ∧ _; have := HIG.out; have := HGI.out; omega
        have hoeR := HOE.out
        rw [HTK.out] at hoeR
        have hne : ∀ z, (Value.slice A N dc).ownBlock = some z → u7.ownBlock = some z → False := fun z h1 h2 => by
          rw [HOD.out] at h1
          have h1 := HDS.out z h1
          have h3 := (hoeR.lt z h2).1
          have h0 := HGB.out
          omega
        have cI := einsert_any (.slice A N dc) u7 Bd (gi + 1) p L (comes st ck R) wr HEM.out hoeR hne (by have := HN.out; omega) (by rw [comes_len]; have := HN.out; have := HM.out; omega) (by have := HKR.out.size; have := HBD.out; omega)
        obtain ⟨⟨p0, p1, p2, p3, p4, p5, p6⟩, q0, q1, q2, q3, q4, q5, q6⟩ := HWR.out.cs
        obtain ⟨LN, hLN⟩ : ∃ LN, (L.take p ++ comes st ck R ++ L.drop p).length = LN := ⟨_, rfl⟩
        have HLN := Lib.hid hLN
        clear hjM hend hne hoeR ha hB0 hLN
        go_wp2_with (go_at_call 79; refine cI.mono ?_; clear cI p0 p1 p2 p3 p4 p5 p6 q0 q1 q2 q3 q4 q5 q6; rintro ee w2 ⟨⟨v2, rfl, ho2⟩, hk2⟩; obtain ⟨vA, vc, hv2⟩ := ho2.form; rw [HLN.out] at hv2; have HO2 := Lib.hid ho2; have HK2 : Hid (Kept (fun z => OD = some z) wr w2) := hk2.mono (fun z _ e => by rw [HOD.out] at e; exact e); clear ho2 hk2; subst hv2; have HW2 := Lib.hid (HWR.out.away HK2.out (fun e => by have := HDS.out g e; omega) (fun e => by have := HDS.out s e; omega) (fun z hz => by obtain ⟨_, cur, h2⟩ := HEM.out.typed (by rw [HOD.out]; exact hz); exact ⟨fun cu3 h3 => typ_ne h2 h3 (by decide) rfl, fun cu3 h3 => typ_ne h2 h3 (by decide) rfl⟩)); obtain ⟨⟨p0, p1, p2, p3, p4, p5, p6⟩, q0, q1, q2, q3, q4, q5, q6⟩ := HW2.out.cs)
        have hks : Kept (fun z => z = g) w2 (w2.setCell ⟨g, 2, none⟩ (.slice vA LN vc)) := (Kept.refl (fun z => z = g) w2).setCell (p := ⟨g, 2, none⟩) rfl _
        refine bodyPost_end (results_none rfl _ _ _) rfl ⟨rfl, ⟨T', _, bl', HW2.out.setDv _, ?_, HTT.out, HO2.out.keptS hks (fun z hz e => ?_)⟩, ?_⟩
        · have h1 := HBO.out
          rw [HTK.out] at h1
          exact h1
        · have e : z = g := e
          subst e
          obtain ⟨_, cur, h2⟩ := HO2.out.typed hz
          exact typ_ne h2 HW2.out.h (by decide) rfl
        · exact (HKR.out.trans (HK2.out.mono (fun _ _ e => .inr (.inr (.inl e))))).trans (hks.mono (fun _ _ e => .inl e))
end Go.Proofs.YthkohjijppbliaaDoor
