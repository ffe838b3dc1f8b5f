/-
  LOWER: work.add, one operation more.
-/
import Derived.Test.YthkohjijppbliaaDoorLpF
import Derived.Test.YthkohjijppbliaaDoorLpE
import Derived.Deep.RegionLaw
set_option linter.unusedVariables false
namespace Go.Proofs.YthkohjijppbliaaDoor
open Go Go.RowKit

/-- What is worked on: a site of the call's own, and the operations so far. -/
structure Wb (w : World) (B g s sc : Nat) (st ck : Int) (dv : Value) (seen : List Int) (wv lv T : Value) (bl : List OpS) : Prop where
  h : w.heap[g]? = some (.cells #[.int .i64 st, .int .i64 ck, dv, .slice (some ⟨s, 0, none⟩) 4 sc, wv, lv, T] 97 (0, 0))
  vm : Vm w s sc seen
  ops : To w B T bl
  n4 : ∀ q ∈ bl, q.n = 4
  ty : ∀ q ∈ bl, ∃ (b : Nat) (cur : Array Value), q.A = some ⟨b, 0, none⟩ ∧ w.heap[b]? = some (.cells cur 3 (0, 0)) ∧ cur.size = q.c
  sB : s < g
  gB : g < B
  BB : B ≤ w.heap.size
theorem Wb.cs {w : World} {B g s sc : Nat} {st ck : Int} {dv : Value} {seen : List Int} {wv lv T : Value} {bl : List OpS} (h : Wb w B g s sc st ck dv seen wv lv T bl) :
    (w.cell? ⟨g, 0, none⟩ = some (.int .i64 st) ∧ w.cell? ⟨g, 1, none⟩ = some (.int .i64 ck) ∧ w.cell? ⟨g, 2, none⟩ = some dv ∧ w.cell? ⟨g, 3, none⟩ = some (.slice (some ⟨s, 0, none⟩) 4 sc) ∧ w.cell? ⟨g, 4, none⟩ = some wv ∧ w.cell? ⟨g, 5, none⟩ = some lv ∧ w.cell? ⟨g, 6, none⟩ = some T) ∧
    (w.frozen? ⟨g, 0, none⟩ = false ∧ w.frozen? ⟨g, 1, none⟩ = false ∧ w.frozen? ⟨g, 2, none⟩ = false ∧ w.frozen? ⟨g, 3, none⟩ = false ∧ w.frozen? ⟨g, 4, none⟩ = false ∧ w.frozen? ⟨g, 5, none⟩ = false ∧ w.frozen? ⟨g, 6, none⟩ = false) :=
  ⟨⟨cell_of_row _ _ _ _ _ _ h.h, cell_of_row _ _ _ _ _ _ h.h, cell_of_row _ _ _ _ _ _ h.h, cell_of_row _ _ _ _ _ _ h.h, cell_of_row _ _ _ _ _ _ h.h, cell_of_row _ _ _ _ _ _ h.h, cell_of_row _ _ _ _ _ _ h.h⟩, frozen_of h.h, frozen_of h.h, frozen_of h.h, frozen_of h.h, frozen_of h.h, frozen_of h.h, frozen_of h.h⟩
theorem Wb.keep {S : Nat → Prop} {w w' : World} {B g s sc : Nat} {st ck : Int} {dv : Value} {seen : List Int} {wv lv T : Value} {bl : List OpS} (h : Wb w B g s sc st ck dv seen wv lv T bl) (hk : Kept S w w') (hg : ¬ S g) (hs : ¬ S s) (hT : ∀ z, T.ownBlock = some z → ¬ S z) (hb : ∀ q ∈ bl, ∀ a, q.A = some a → ¬ S a.block) : Wb w' B g s sc st ck dv seen wv lv T bl :=
  ⟨(hk.block g (heap_lt h.h) hg).trans h.h, h.vm.kept hk hs, ⟨h.ops.tg.keepS hk hT (fun q hq _ => hb q hq), h.ops.far⟩, h.n4, (fun q hq => by
    obtain ⟨b, cur, h1, h2, hz⟩ := h.ty q hq
    exact ⟨b, cur, h1, (hk.block b (heap_lt h2) (hb q hq _ h1)).trans h2, hz⟩), h.sB, h.gB, Nat.le_trans h.BB hk.size⟩
theorem Wb.keep0 {w w' : World} {B g s sc : Nat} {st ck : Int} {dv : Value} {seen : List Int} {wv lv T : Value} {bl : List OpS} (h : Wb w B g s sc st ck dv seen wv lv T bl) (hk : Kept (fun _ => False) w w') : Wb w' B g s sc st ck dv seen wv lv T bl :=
  h.keep hk id id (fun _ _ => id) (fun _ _ _ _ => id)
theorem To.lt {w : World} {B : Nat} {T : Value} {bl : List OpS} (h : To w B T bl) {z : Nat} (hz : T.ownBlock = some z) : B ≤ z ∧ z < w.heap.size := World.ownsRow.lt h.tg.own z hz
theorem own_formO {w : World} {B : Nat} {T : Value} {bl : List OpS} (h : To w B T bl) : ∃ A c, T = .slice A bl.length c := own_form' h.tg.own
theorem Wb.setSeen {w : World} {B g s sc : Nat} {st ck : Int} {dv : Value} {seen : List Int} {wv lv T : Value} {bl : List OpS} (h : Wb w B g s sc st ck dv seen wv lv T bl) (k : Nat) (z : Int) : Wb (w.setCell ⟨s, k, none⟩ (.int .i64 z)) B g s sc st ck dv (seen.set k z) wv lv T bl := by
  have hk : Kept (fun q => q = s) w (w.setCell ⟨s, k, none⟩ (.int .i64 z)) := (Kept.refl (fun q => q = s) w).setCell (p := ⟨s, k, none⟩) rfl _
  have h1 := h.sB
  have h2 := h.gB
  refine ⟨(hk.block g (heap_lt h.h) (fun e => by have e : g = s := e; omega)).trans h.h, h.vm.set k z, h.ops.keepS hk (fun q hq e => by have e : q = s := e; omega), h.n4, (fun q hq => by
    obtain ⟨b, cur, h3, h4, hz⟩ := h.ty q hq
    have h5 := h.ops.far q hq _ h3
    exact ⟨b, cur, h3, (hk.block b (heap_lt h4) (fun e => by have e : b = s := e; have h5 : B ≤ b := h5; omega)).trans h4, hz⟩), h.sB, h.gB, Nat.le_trans h.BB hk.size⟩
theorem Wb.drew {w : World} {B g s sc : Nat} {st ck : Int} {dv : Value} {seen : List Int} {wv lv T : Value} {bl : List OpS} (h : Wb w B g s sc st ck dv seen wv lv T bl) : Wb w.drew B g s sc st ck dv seen wv lv T bl := h.keep0 (Kept.refl _ w).drew
set_option maxRecDepth 100000 in
set_option maxHeartbeats 8000000 in
theorem wadd_any (B g s sc : Nat) (st ck : Int) (dv : Value) (seen : List Int) (wv lv T : Value) (bl : List OpS) (kd t si t0 s0 rn : Int) (k0 : Nat) (y : Int) (w : World) (h : Wb w B g s sc st ck dv seen wv lv T bl)
    (hst : 1 ≤ st ∧ st ≤ 4) (hk0 : (st - 1).toNat = k0) (h4 : seen.length = 4) (hv : ∀ x ∈ seen, I64 x) (hy : seen[k0]? = some y) (hy2 : 0 ≤ y ∧ y ≤ 100000) (hi : I64 kd ∧ I64 t ∧ I64 si ∧ I64 t0 ∧ I64 s0 ∧ I64 rn) (hbl : bl.length ≤ 50000) :
    Calls Tryd.prog 78 #[.pointer (some ⟨g, 0, none⟩), .agg #[.int .i64 kd, .int .i64 t, .int .i64 si, .int .i64 t0, .int .i64 s0, .int .i64 rn, .int .i64 0, .int .i64 0, .slice none 0 0]] w fun e w' => e = .returned (.tuple #[]) ∧
      (∃ (T' : Value) (q : OpS), Wb w' B g s sc st ck dv (seen.set k0 (y + 1)) wv lv T' (bl ++ [q]) ∧ q.o = ⟨kd, t, si, t0, s0, rn, st, y + 1, seen⟩ ∧ (∀ z, T'.ownBlock = some z → z < w.heap.size → T.ownBlock = some z)) ∧ Kept (fun z => z = g ∨ z = s ∨ T.ownBlock = some z) w w' := by
  obtain ⟨h1, h2⟩ := hst
  have hks : st - 1 = (k0 : Int) := by omega
  have hk4 : k0 < 4 := by omega
  have w6_ : IntKind.i64.wrap (st - 1) = (k0 : Int) := by rw [hks]; exact IntWalk.i64_in _ ⟨by omega, by omega⟩
  have wy : IntKind.i64.wrap (y + 1) = y + 1 := IntWalk.i64_in _ ⟨by omega, by omega⟩
  have t1 : (0 : Int) ≤ (k0 : Int) := by omega
  have t2 : (k0 : Int) < 4 := by omega
  have HW := Lib.hid h
  obtain ⟨A, c, hT⟩ := own_formO h.ops
  obtain ⟨n, hn⟩ : ∃ n, bl.length = n := ⟨_, rfl⟩
  rw [hn] at hT
  subst hT
  have hka : Kept (fun _ => False) w (w.alloc (.cells #[.int .i64 kd, .int .i64 t, .int .i64 si, .int .i64 t0, .int .i64 s0, .int .i64 rn, .int .i64 0, .int .i64 0, .slice none 0 0] 42)) := (Kept.refl _ w).alloc _
  have HB : Hid ((w.alloc (.cells #[.int .i64 kd, .int .i64 t, .int .i64 si, .int .i64 t0, .int .i64 s0, .int .i64 rn, .int .i64 0, .int .i64 0, .slice none 0 0] 42)).heap[w.heap.size]? = some (.cells #[.int .i64 kd, .int .i64 t, .int .i64 si, .int .i64 t0, .int .i64 s0, .int .i64 rn, .int .i64 0, .int .i64 0, .slice none 0 0] 42 (0, 0))) := heap_alloc_new w _
  have HWA := Lib.hid (h.keep0 hka)
  have HKA := Lib.hid hka
  have HV := Lib.hid hv
  have HY := Lib.hid hy
  have HI := Lib.hid hi
  have H4 := Lib.hid h4
  have HN := Lib.hid hn
  clear h hka hv hy hi h4 hks hk0 hn
  go_enter Tryd.func78, Tryd.ntmps78
  go_upto_region 1 with fail
  generalize w.alloc (.cells #[.int .i64 kd, .int .i64 t, .int .i64 si, .int .i64 t0, .int .i64 s0, .int .i64 rn, .int .i64 0, .int .i64 0, .slice none 0 0] 42) = wa at *
  obtain ⟨pb, hpb⟩ : ∃ pb, w.heap.size = pb := ⟨_, rfl⟩
  have HPB := Lib.hid hpb
  simp only [hpb] at HB ⊢
  clear hpb
  have HPG : Hid (g < pb ∧ s < pb ∧ B ≤ pb) := by
    have h1 := HW.out.BB
    have h2 := HW.out.gB
    have h3 := HW.out.sB
    have h4 := HPB.out
    show _ ∧ _ ∧ _
    omega
  obtain ⟨⟨p0, p1, p2, p3, p4, p5, p6⟩, q0, q1, q2, q3, q4, q5, q6⟩ := HWA.out.cs
  have c6 : wa.cell? ⟨pb, 6, none⟩ = some (.int .i64 0) := cell_of_row _ _ _ _ _ _ HB.out
  have f6 : wa.frozen? ⟨pb, 6, none⟩ = false := frozen_of HB.out
  go_upto_region 2 with fail
  have HB2 : Hid ((wa.setCell ⟨pb, 6, none⟩ (.int .i64 st)).heap[pb]? = some (.cells #[.int .i64 kd, .int .i64 t, .int .i64 si, .int .i64 t0, .int .i64 s0, .int .i64 rn, .int .i64 st, .int .i64 0, .slice none 0 0] 42 (0, 0))) := heap_set HB.out _
  have hk2 : Kept (fun q => q = pb) wa (wa.setCell ⟨pb, 6, none⟩ (.int .i64 st)) := (Kept.refl (fun q => q = pb) wa).setCell (p := ⟨pb, 6, none⟩) rfl _
  have HFR : Hid (∀ a b, Kept (fun _ => False) w a → Kept (fun q => q = pb) a b → Kept (fun _ => False) w b) := by
    show ∀ a b, _
    intro a b h1 h2
    exact h1.fresh h2 (fun q hq e => by have e : q = pb := e; have := HPB.out; omega)
  have HK2 := Lib.hid (HFR.out _ _ HKA.out hk2)
  clear p0 p1 p2 p3 p4 p5 p6 q0 q1 q2 q3 q4 q5 q6 c6 f6 hk2
  generalize wa.setCell ⟨pb, 6, none⟩ (.int .i64 st) = w2 at *
  have HW2 := Lib.hid (HW.out.keep0 HK2.out)
  have cS := iclone_any ⟨s, 0, none⟩ 4 sc seen w2 (HW2.out.vm.nums H4.out) (by omega)
  obtain ⟨⟨p0, p1, p2, p3, p4, p5, p6⟩, q0, q1, q2, q3, q4, q5, q6⟩ := HW2.out.cs
  have c8 : w2.cell? ⟨pb, 8, none⟩ = some (.slice none 0 0) := cell_of_row _ _ _ _ _ _ HB2.out
  go_upto_region 3 with (go_at_call 77; refine cS.mono ?_; clear cS p0 p1 p2 p3 p4 p5 p6 q0 q1 q2 q3 q4 q5 q6 c8; rintro e w3 ⟨⟨sb, cap, rfl, hvm, hsb⟩, hk3⟩; have HV3 := Lib.hid hvm; have HSB := Lib.hid hsb; have HK3 := Lib.hid (HK2.out.trans hk3); have HB3 := Lib.hid ((hk3.block pb (heap_lt HB2.out) id).trans HB2.out); clear hvm hsb hk3; have c8 : w3.cell? ⟨pb, 8, none⟩ = some (.slice none 0 0) := cell_of_row _ _ _ _ _ _ HB3.out; have f8 : w3.frozen? ⟨pb, 8, none⟩ = false := frozen_of HB3.out)
  have HB4 : Hid ((w3.setCell ⟨pb, 8, none⟩ (.slice (some ⟨sb, 0, none⟩) 4 cap)).heap[pb]? = some (.cells #[.int .i64 kd, .int .i64 t, .int .i64 si, .int .i64 t0, .int .i64 s0, .int .i64 rn, .int .i64 st, .int .i64 0, .slice (some ⟨sb, 0, none⟩) 4 cap] 42 (0, 0))) := heap_set HB3.out _
  have hk4 : Kept (fun q => q = pb) w3 (w3.setCell ⟨pb, 8, none⟩ (.slice (some ⟨sb, 0, none⟩) 4 cap)) := (Kept.refl (fun q => q = pb) w3).setCell (p := ⟨pb, 8, none⟩) rfl _
  have HSP : Hid (pb < sb) := by
    show _ < _
    have h1 := HSB.out
    have h2 := heap_lt HB2.out
    omega
  have HV4 := Lib.hid (HV3.out.kept hk4 (fun e => by have e : sb = pb := e; have := HSP.out; omega))
  have HK4 := Lib.hid (HFR.out _ _ HK3.out hk4)
  clear c8 f8 hk4
  generalize w3.setCell ⟨pb, 8, none⟩ (.slice (some ⟨sb, 0, none⟩) 4 cap) = w4 at *
  have HW4 := Lib.hid (HW.out.keep0 HK4.out)
  obtain ⟨⟨p0, p1, p2, p3, p4, p5, p6⟩, q0, q1, q2, q3, q4, q5, q6⟩ := HW4.out.cs
  obtain ⟨sa, yy, hsa, hyy, x0⟩ := (HW4.out.vm.nums H4.out).cell (j := k0) (by omega)
  injection hsa with hsa
  subst hsa
  rw [HY.out] at hyy
  injection hyy with hyy
  subst hyy
  have y0 : w4.frozen? ⟨s, k0, none⟩ = false := HW4.out.vm.free k0
  rw [addr_add, Nat.zero_add] at x0
  have HW5 := Lib.hid (HW4.out.setSeen k0 (y + 1)).drew
  have hk5 : Kept (fun q => q = s) w4 (w4.setCell ⟨s, k0, none⟩ (.int .i64 (y + 1))).drew := ((Kept.refl (fun q => q = s) w4).setCell (p := ⟨s, k0, none⟩) rfl _).drew
  have HK5 := Lib.hid hk5
  have HB5 := Lib.hid ((hk5.block pb (heap_lt HB4.out) (fun e => by have e : pb = s := e; have := HPG.out; omega)).trans HB4.out)
  have HV5 := Lib.hid (HV4.out.kept hk5 (fun e => by have e : sb = s := e; have := HPG.out; have := HSP.out; omega))
  go_region
  clear p0 p1 p2 p3 p4 p5 p6 q0 q1 q2 q3 q4 q5 q6 x0 y0 hk5
  generalize (w4.setCell ⟨s, k0, none⟩ (.int .i64 (y + 1))).drew = w5 at *
  obtain ⟨⟨p0, p1, p2, p3, p4, p5, p6⟩, q0, q1, q2, q3, q4, q5, q6⟩ := HW5.out.cs
  have hl5 : (seen.set k0 (y + 1)).length = 4 := by rw [List.length_set]; exact H4.out
  obtain ⟨sa, yy, hsa, hyy, x0⟩ := (HW5.out.vm.nums hl5).cell (j := k0) (by omega)
  injection hsa with hsa
  subst hsa
  rw [List.getElem?_set_self (by have := H4.out; omega)] at hyy
  injection hyy with hyy
  subst hyy
  rw [addr_add, Nat.zero_add] at x0
  have c7 : w5.cell? ⟨pb, 7, none⟩ = some (.int .i64 0) := cell_of_row _ _ _ _ _ _ HB5.out
  have f7 : w5.frozen? ⟨pb, 7, none⟩ = false := frozen_of HB5.out
  have hk6 : Kept (fun q => q = pb) w5 (w5.setCell ⟨pb, 7, none⟩ (.int .i64 (y + 1))).drew := ((Kept.refl (fun q => q = pb) w5).setCell (p := ⟨pb, 7, none⟩) rfl _).drew
  have HB6 : Hid ((w5.setCell ⟨pb, 7, none⟩ (.int .i64 (y + 1))).drew.heap[pb]? = some (.cells #[.int .i64 kd, .int .i64 t, .int .i64 si, .int .i64 t0, .int .i64 s0, .int .i64 rn, .int .i64 st, .int .i64 (y + 1), .slice (some ⟨sb, 0, none⟩) 4 cap] 42 (0, 0))) := heap_set HB5.out _
  have HW6 := Lib.hid (HW5.out.keep hk6 (fun e => by have e : g = pb := e; have := HPG.out; omega) (fun e => by have e : s = pb := e; have := HPG.out; omega) (fun z hz e => by
    have e : z = pb := e
    have h1 := (HW.out.ops.lt hz).2
    have h2 := HPB.out
    omega) (fun q hq a ha e => by
    have e : a.block = pb := e
    have h1 := HW.out.ops.tg.ok q hq
    have h2 := HPB.out
    have h3 := h1.lt (by rw [HW.out.n4 q hq]; omega) ha
    omega))
  go_upto_region 4 with fail
  go_region
  clear p0 p1 p2 p3 p4 p5 p6 q0 q1 q2 q3 q4 q5 q6 x0 c7 f7
  have HK6 := Lib.hid hk6
  have HV6 := Lib.hid (HV5.out.kept hk6 (fun e => by have e : sb = pb := e; have := HSP.out; omega))
  clear hk6
  generalize (w5.setCell ⟨pb, 7, none⟩ (.int .i64 (y + 1))).drew = w6 at *
  obtain ⟨⟨p0, p1, p2, p3, p4, p5, p6⟩, q0, q1, q2, q3, q4, q5, q6⟩ := HW6.out.cs
  have c0 : w6.cell? ⟨pb, 0, none⟩ = some (.int .i64 kd) := cell_of_row _ _ _ _ _ _ HB6.out
  have c1 : w6.cell? ⟨pb, 1, none⟩ = some (.int .i64 t) := cell_of_row _ _ _ _ _ _ HB6.out
  have c2 : w6.cell? ⟨pb, 2, none⟩ = some (.int .i64 si) := cell_of_row _ _ _ _ _ _ HB6.out
  have c3 : w6.cell? ⟨pb, 3, none⟩ = some (.int .i64 t0) := cell_of_row _ _ _ _ _ _ HB6.out
  have c4 : w6.cell? ⟨pb, 4, none⟩ = some (.int .i64 s0) := cell_of_row _ _ _ _ _ _ HB6.out
  have c5 : w6.cell? ⟨pb, 5, none⟩ = some (.int .i64 rn) := cell_of_row _ _ _ _ _ _ HB6.out
  have c6 : w6.cell? ⟨pb, 6, none⟩ = some (.int .i64 st) := cell_of_row _ _ _ _ _ _ HB6.out
  have c7 : w6.cell? ⟨pb, 7, none⟩ = some (.int .i64 (y + 1)) := cell_of_row _ _ _ _ _ _ HB6.out
  have c8 : w6.cell? ⟨pb, 8, none⟩ = some (.slice (some ⟨sb, 0, none⟩) 4 cap) := cell_of_row _ _ _ _ _ _ HB6.out
  have hka : Kept (fun _ => False) w6 (w6.alloc (.cells #[.int .i64 kd, .int .i64 t, .int .i64 si, .int .i64 t0, .int .i64 s0, .int .i64 rn, .int .i64 st, .int .i64 (y + 1), .slice (some ⟨sb, 0, none⟩) 4 cap] 42)).drew := ((Kept.refl _ w6).alloc _).drew
  have hWA := HW6.out.keep0 hka
  obtain ⟨⟨u0, u1, u2, u3, u4, u5, u6⟩, v0, v1, v2, v3, v4, v5, v6⟩ := hWA.cs
  have HOWN : Hid ((w6.alloc (.cells #[.int .i64 kd, .int .i64 t, .int .i64 si, .int .i64 t0, .int .i64 s0, .int .i64 rn, .int .i64 st, .int .i64 (y + 1), .slice (some ⟨sb, 0, none⟩) 4 cap] 42)).drew.ownsRow B 42 9 (.slice A n c) bl.length (flatO bl)) := hWA.ops.tg.own
  obtain ⟨b4, hb4⟩ : ∃ b4 : OpS, b4 = ⟨⟨kd, t, si, t0, s0, rn, st, y + 1, seen⟩, some ⟨sb, 0, none⟩, 4, cap⟩ := ⟨_, rfl⟩
  have HB4Q := Lib.hid hb4
  have hok : OpOk w6 b4 := by
    rw [hb4]
    refine ⟨HV6.out.nums H4.out, HV.out, by simp, by have := HV6.out.le; have := H4.out; simp only; omega, ?_⟩
    obtain ⟨i1, i2, i3, i4, i5, i6⟩ := HI.out
    exact ⟨i1, i2, i3, i4, i5, i6, ⟨by simp only; omega, by simp only; omega⟩, ⟨by simp only; omega, by simp only; omega⟩⟩
  have HOK := Lib.hid hok
  have hone : OpsM (w6.alloc (.cells #[.int .i64 kd, .int .i64 t, .int .i64 si, .int .i64 t0, .int .i64 s0, .int .i64 rn, .int .i64 st, .int .i64 (y + 1), .slice (some ⟨sb, 0, none⟩) 4 cap] 42)) (some ⟨w6.heap.size, 0, none⟩) 1 [b4] := by
    have h := one_new w6 b4 hok
    rw [hb4] at h ⊢
    exact h
  have HONE : Hid (OpsM (w6.alloc (.cells #[.int .i64 kd, .int .i64 t, .int .i64 si, .int .i64 t0, .int .i64 s0, .int .i64 rn, .int .i64 st, .int .i64 (y + 1), .slice (some ⟨sb, 0, none⟩) 4 cap] 42)).drew (some ⟨w6.heap.size, 0, none⟩) 1 [b4]) := hone.kept (Kept.refl (fun _ => False) _).drew (fun _ _ => id) (fun _ _ _ _ => id)
  have HBL : Hid (bl.length + 1 ≤ 100000) := by show _ + 1 ≤ _; omega
  have HBB : Hid (B ≤ (w6.alloc (.cells #[.int .i64 kd, .int .i64 t, .int .i64 si, .int .i64 t0, .int .i64 s0, .int .i64 rn, .int .i64 st, .int .i64 (y + 1), .slice (some ⟨sb, 0, none⟩) 4 cap] 42)).drew.heap.size) := hWA.BB
  have HLEN : Hid ((bl ++ [b4]).length = n + 1) := by show _ = _; rw [List.length_append, HN.out]; rfl
  have HGA := Lib.hid hWA.h
  have HTB : Hid (∀ z, (Value.slice A n c).ownBlock = some z → z ≠ g) := by
    show ∀ z, _
    intro z hz
    have h1 := (HW.out.ops.lt hz).1
    have h2 := HW.out.gB
    omega
  have HKA7 := Lib.hid hka
  have HPW : Hid (w.heap.size ≤ w6.heap.size) := by
    show _ ≤ _
    have h1 := heap_lt HB6.out
    have h2 := HPB.out
    omega
  clear hWA hone hok hb4 hka
  go_upto_region 5 with fail
  go_region_law (refine step_app_ops rfl (.tmp 50) (.tmp 52) rfl B (.slice A n c) bl rfl HOWN.out (some ⟨w6.heap.size, 0, none⟩) 1 1 [b4] rfl HONE.out (fun h => by cases h) HBL.out HBB.out ?_; intro T8 w8 hown8 hgrow8 hat8; have HG8 := Lib.hid hgrow8; have HAT := Lib.hid hat8; obtain ⟨A8, c8', hT8⟩ := own_form' hown8; rw [HLEN.out] at hT8; subst hT8; have HO8 := Lib.hid hown8; have HX8 : Hid (w8.heap[g]? = some (.cells #[.int .i64 st, .int .i64 ck, dv, .slice (some ⟨s, 0, none⟩) 4 sc, wv, lv, .slice A n c] 97 (0, 0))) := (hgrow8.block g (heap_lt HGA.out) (fun e => HTB.out g e.symm rfl)).trans HGA.out; have f8 : w8.frozen? ⟨g, 6, none⟩ = false := frozen_of HX8.out; have k8 : w8.cell? ⟨g, 6, none⟩ = some (.slice A n c) := cell_of_row _ _ _ _ _ _ HX8.out; clear hown8 hgrow8 hat8)
  all_goals
    go_wp2_with fail
    have hg8 := HG8.out
    have hks : Kept (fun q => q = g) w8 (w8.setCell ⟨g, 6, none⟩ (.slice A8 (n + 1) c8')) := (Kept.refl (fun q => q = g) w8).setCell (p := ⟨g, 6, none⟩) rfl _
    have hk68 : Kept (fun z => (Value.slice A n c).ownBlock = some z) w6 w8 := (HKA7.out.any).trans ⟨hg8.os, hg8.tape, hg8.output, hg8.size, fun k hk hs => hg8.block k hk (fun e => hs e.symm)⟩
    have htg : Tg w8 B (.slice A8 (n + 1) c8') (bl ++ [b4]) := Tg.apps HW6.out.ops.tg HKA7.out (fun q hq => by rw [List.mem_singleton.1 hq]; exact HOK.out) (fun q hq h0 a ha e => by
      rw [List.mem_singleton.1 hq, HB4Q.out] at ha
      injection ha with ha
      subst ha
      have h1 := (HW.out.ops.lt e).2
      have h2 := HPB.out
      have h3 := HSP.out
      have h4 : (⟨sb, 0, none⟩ : Addr).block = sb := rfl
      omega) HO8.out hg8 HAT.out
    have hfar : ∀ q ∈ bl ++ [b4], ∀ a, q.A = some a → B ≤ a.block := fun q hq a ha => by
      rcases List.mem_append.1 hq with hq | hq
      · exact HW.out.ops.far q hq a ha
      · rw [List.mem_singleton.1 hq, HB4Q.out] at ha
        injection ha with ha
        subst ha
        have h2 := HPG.out
        have h3 := HSP.out
        show B ≤ sb
        omega
    have hto : To w8 B (.slice A8 (n + 1) c8') (bl ++ [b4]) := ⟨htg, hfar⟩
    have hgB := HW.out.gB
    have hsB := HW.out.sB
    refine bodyPost_end (results_none rfl _ _ _) rfl ⟨rfl, ⟨_, b4, ⟨heap_set HX8.out _, ?_, hto.keepS hks (fun q hq e => by have e : q = g := e; omega), ?_, ?_, hsB, hgB, ?_⟩, by rw [HB4Q.out], ?_⟩, ?_⟩
    · exact (HW6.out.vm.kept hk68 (fun e => by have h1 := (HW.out.ops.lt e).1; omega)).kept hks (fun e => by have e : s = g := e; omega)
    · intro q hq
      rcases List.mem_append.1 hq with hq | hq
      · exact HW.out.n4 q hq
      · rw [List.mem_singleton.1 hq, HB4Q.out]
    · intro q hq
      rcases List.mem_append.1 hq with hq | hq
      · obtain ⟨b, cur, h3, h4, hz⟩ := HW6.out.ty q hq
        have h5 := HW6.out.ops.far q hq _ h3
        have h6 := HW6.out.ops.tg.apart q hq (by rw [HW6.out.n4 q hq]; omega) _ h3
        exact ⟨b, cur, h3, (hks.block b (Nat.lt_of_lt_of_le (heap_lt h4) hk68.size) (fun e => by have e : b = g := e; have h5 : B ≤ b := h5; omega)).trans ((hk68.block b (heap_lt h4) h6).trans h4), hz⟩
      · obtain ⟨cur, h4, hz, _⟩ := HV6.out.h
        have hTs : ¬ (Value.slice A n c).ownBlock = some sb := fun e => by
          have h1 := (HW.out.ops.lt e).2
          have h2 := HPB.out
          have h3 := HSP.out
          omega
        refine ⟨sb, cur, by rw [List.mem_singleton.1 hq, HB4Q.out], (hks.block sb (Nat.lt_of_lt_of_le (heap_lt h4) hk68.size) (fun e => by have e : sb = g := e; have h5 := HPG.out; have h6 := HSP.out; omega)).trans ((hk68.block sb (heap_lt h4) hTs).trans h4), by rw [List.mem_singleton.1 hq, HB4Q.out]; exact hz⟩
    · exact Nat.le_trans HW6.out.BB (Nat.le_trans hk68.size hks.size)
    · intro z hz hlt
      rcases HAT.out with h | h
      · rw [h] at hz; exact hz
      · rw [h] at hz
        injection hz with hz
        have h1 := HKA7.out.size
        have h2 := HPW.out
        omega
    · have k5 : Kept (fun z => z = g ∨ z = s ∨ (Value.slice A n c).ownBlock = some z) w w5 := HK4.out.any.trans (HK5.out.mono (fun _ _ e => .inr (.inl e)))
      have k6 := k5.over HK6.out (fun k hk e => by have e : k = pb := e; have := HPB.out; omega)
      exact (k6.trans (hk68.mono (fun _ _ e => .inr (.inr e)))).trans (hks.mono (fun _ _ e => .inl e))
end Go.Proofs.YthkohjijppbliaaDoor
