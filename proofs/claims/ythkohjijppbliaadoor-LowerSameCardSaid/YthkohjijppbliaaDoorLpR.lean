/-
  LOWER: Up.
-/
import Derived.Test.YthkohjijppbliaaDoorLpP
set_option linter.unusedVariables false
namespace Go.Proofs.YthkohjijppbliaaDoor
open Go Go.RowKit

theorem results_cct {fn : Func} {s p u : Tmp} {ty tz : TypeId} (h : fn.results = #[.cell s ty, .cell p tz, .tmp u]) (tmps : Array Value) (P : Program) (w : World) :
    (results fn tmps).run P w =
      ((asAddr (tmps.getD s undef)).run P w).andThen fun a w₁ => ((loadVar ty a).run P w₁).andThen fun x w₂ => ((asAddr (tmps.getD p undef)).run P w₂).andThen fun b w₃ => ((loadVar tz b).run P w₃).andThen fun v w₄ => .ok (.tuple #[x, v, tmps.getD u undef]) w₄ := by
  simp only [results, h]
  simp [Sem.run_bind, Result.andThen]
theorem res_pst {fn : Func} {s p u : Tmp} (h : fn.results = #[.cell s 55, .cell p 46, .tmp u]) (tmps : Array Value) (w : World) (g q : Nat) (b0 b1 b2 a0 a1 a2 a3 a4 a5 z : Value) (fr fq : Nat × Nat) (hs : tmps.getD s undef = .pointer (some ⟨q, 0, none⟩)) (hp : tmps.getD p undef = .pointer (some ⟨g, 0, none⟩)) (hz : tmps.getD u undef = z)
    (hq : w.heap[q]? = some (.cells #[b0, b1, b2] 55 fq)) (hg : w.heap[g]? = some (.cells #[a0, a1, a2, a3, a4, a5] 46 fr)) :
    (results fn tmps).run Tryd.prog w = .ok (.tuple #[.agg #[b0, b1, b2], .agg #[a0, a1, a2, a3, a4, a5], z]) w := by
  rw [results_cct h, hp, hs, hz]
  simp [asAddr, Result.andThen, run_loadVar_row w g 46 46 #[a0, a1, a2, a3, a4, a5] fr _ hg Tryd.underlying46 rfl (by kernel_rfl), run_loadVar_row w q 55 55 #[b0, b1, b2] fq _ hq Tryd.underlying55 rfl (by kernel_rfl)]
/-- What Up begins with: four variables. -/
structure UpS (w W : World) (x : SiteS) (b : OpS) : Prop where
  x : W.heap[w.heap.size]? = some x.O
  o : W.heap[w.heap.size + 1]? = some (opO b)
  p : W.heap[w.heap.size + 2]? = some (patO 0 0 ⟨#[]⟩)
  z : W.heap[w.heap.size + 3]? = some (.cells zSite 46)
  k : Kept (fun _ => False) w W
theorem ups_new (w : World) (x : SiteS) (b : OpS) : UpS w ((((w.alloc x.O).alloc (opO b)).alloc (patO 0 0 ⟨#[]⟩)).alloc (.cells zSite 46)) x b := by
  have s1 : (w.alloc x.O).heap.size = w.heap.size + 1 := by simp
  have s2 : ((w.alloc x.O).alloc (opO b)).heap.size = w.heap.size + 2 := by simp
  have s3 : (((w.alloc x.O).alloc (opO b)).alloc (patO 0 0 ⟨#[]⟩)).heap.size = w.heap.size + 3 := by simp
  refine ⟨?_, ?_, ?_, ?_, ((((Kept.refl _ w).alloc _).alloc _).alloc _).alloc _⟩
  · exact (heap_alloc_old _ _ (by omega)).trans ((heap_alloc_old _ _ (by omega)).trans ((heap_alloc_old _ _ (by omega)).trans (heap_alloc_new w _)))
  · have h := heap_alloc_new (w.alloc x.O) (opO b)
    rw [s1] at h
    exact (heap_alloc_old _ _ (by omega)).trans ((heap_alloc_old _ _ (by omega)).trans h)
  · have h := heap_alloc_new ((w.alloc x.O).alloc (opO b)) (patO 0 0 ⟨#[]⟩)
    rw [s2] at h
    exact (heap_alloc_old _ _ (by omega)).trans h
  · have h := heap_alloc_new (((w.alloc x.O).alloc (opO b)).alloc (patO 0 0 ⟨#[]⟩)) (.cells zSite 46)
    rw [s3] at h
    exact h
theorem UpS.keep {w W W' : World} {x : SiteS} {b : OpS} (h : UpS w W x b) (hk : Kept (fun _ => False) W W') : UpS w W' x b :=
  ⟨(hk.block _ (heap_lt h.x) id).trans h.x, (hk.block _ (heap_lt h.o) id).trans h.o, (hk.block _ (heap_lt h.p) id).trans h.p, (hk.block _ (heap_lt h.z) id).trans h.z, h.k.trans hk⟩
theorem op_cells {w : World} {g : Nat} {b : OpS} (h : w.heap[g]? = some (opO b)) : Op9 w ⟨g, 0, none⟩ b :=
  ⟨cell_of_row _ _ _ _ _ _ h, cell_of_row _ _ _ _ _ _ h, cell_of_row _ _ _ _ _ _ h, cell_of_row _ _ _ _ _ _ h, cell_of_row _ _ _ _ _ _ h, cell_of_row _ _ _ _ _ _ h, cell_of_row _ _ _ _ _ _ h, cell_of_row _ _ _ _ _ _ h, cell_of_row _ _ _ _ _ _ h⟩
def DoP (L : List ElemS) (o : Cd.OpP) (L' : List ElemS) : Prop :=
  (o.kd = 2 ∧ ∃ (i : Nat) (e : ElemS), L[i]? = some e ∧ e.t = o.t ∧ e.si = o.si ∧ L' = L.set i { e with d := true }) ∨ (o.kd = 1 ∧ ∃ (i j : Nat), idxE L o.t0 o.s0 + 1 = (i : Int) ∧ StopAt L o.t o.si i j ∧ L' = insE L j ⟨o.t, o.si, o.rn, false⟩)
structure UpR (p : SiteP) (o : Cd.OpP) (q : SiteP) : Prop where
  st : q.st = p.st
  ck : q.ck = max p.ck o.t
  doc : DoP p.L o q.L
  seen : q.seen = p.seen.set (o.st - 1).toNat o.nn
  wl : q.wl = p.wl
  ll : q.ll = p.ll ++ [o]
def UpOk (w w' : World) (p : SiteP) (o : Cd.OpP) (e : Ending) : Prop :=
  ∃ (n m : Int) (s : ByteArray) (y : SiteS), e = .returned (.tuple #[patV n m s, y.V, .int .i64 0]) ∧ SNew w' w.heap.size y ∧ UpR p o y.P
set_option maxRecDepth 100000 in
set_option maxHeartbeats 16000000 in
theorem up_ok (x : SiteS) (b : OpS) (w : World) (hx : SiteOk w x) (hb : OpOk w b) (hT : Tabs w) (hok : SOk x.P) (hop : Cd.opOk b.o) (hcd : CanDo x.L b.o) (hel : ∀ L', DoP x.L b.o L' → elsOk L') (hll : x.ll.length < 8000) :
    Calls Tryd.prog 24 #[x.V, opV b] w fun e w' => UpOk w w' x.P b.o e ∧ Kept (fun _ => False) w w' := by
  have HS := Lib.hid (ups_new w x b)
  have HX := Lib.hid hx
  have HT := Lib.hid hT
  have HB := Lib.hid hb
  have HOK := Lib.hid hok
  have HOP := Lib.hid hop
  have HEL := Lib.hid hel
  have cC := fun W (hk : Kept (fun _ => False) w W) => lcheck_any x W (hx.kept hk) (hT.kept hk id id)
  have cM := fun W (hk : Kept (fun _ => False) w W) => may_any b W (hb.kept hk (fun _ _ => id)) (hT.kept hk id id)
  have cD := fun W (hk : Kept (fun _ => False) w W) => odo_ok x.L x.dv b W (hx.doc.kept hk) (hb.kept hk (fun _ _ => id)) (hT.kept hk id id) hok.els hop hcd
  have cP := fun W (hk : Kept (fun _ => False) w W) v' L' (h' : Se W v' L') (hL' : elsOk L') => patchof_any x.L L' x.dv v' b W (hx.doc.kept hk) h' (hT.kept hk id id) (by have := hok.els.1; have : x.L.length ≤ 2000 := this; omega) hL' hop
  have hlnx := hx.log.1
  simp only [if_pos hok] at cC
  simp only [if_pos hop] at cM
  clear hx hT hb hok hop hcd hel
  obtain ⟨st, ck, dv, L, sA, sn, sc, seen, wA, wn, wc, wl, lA, ln, lc, ll⟩ := x
  simp only [SiteS.V, SiteS.O, SiteS.cs] at *
  obtain ⟨A, c, hdv, _⟩ := HX.out.doc.open'
  simp only at hdv
  subst hdv
  obtain ⟨N, hN⟩ : ∃ N, L.length = N := ⟨_, rfl⟩
  have HN := Lib.hid hN
  simp only [hN] at HS HX HOK cC cM cD cP ⊢
  clear hN
  obtain ⟨⟨kd, t, si, t0, s0, rn, ost, nn, oseen⟩, oA, on, oc⟩ := b
  simp only [opV, opO] at *
  go_enter Tryd.func24, Tryd.ntmps24
  go_upto_region 1 with fail
  simp only [patO, zSite] at HS
  generalize (((w.alloc _).alloc _).alloc _).alloc _ = W at *
  obtain ⟨g, hg⟩ : ∃ g, w.heap.size = g := ⟨_, rfl⟩
  have HGG := Lib.hid hg
  simp only [hg]
  have HCE : Hid (∀ V, UpS w V ⟨st, ck, .slice A N c, L, sA, sn, sc, seen, wA, wn, wc, wl, lA, ln, lc, ll⟩ ⟨⟨kd, t, si, t0, s0, rn, ost, nn, oseen⟩, oA, on, oc⟩ → ((V.cell? ⟨g, 0, none⟩ = some (.int .i64 st) ∧ V.cell? ⟨g, 1, none⟩ = some (.int .i64 ck) ∧ V.cell? ⟨g, 2, none⟩ = some (.slice A N c) ∧ V.cell? ⟨g, 3, none⟩ = some (.slice sA sn sc) ∧ V.cell? ⟨g, 4, none⟩ = some (.slice wA wn wc) ∧ V.cell? ⟨g, 5, none⟩ = some (.slice lA ln lc)) ∧ V.cell? ⟨g + 1, 0, none⟩ = some (.int .i64 kd) ∧ V.cell? ⟨g + 1, 1, none⟩ = some (.int .i64 t) ∧ V.cell? ⟨g + 1, 2, none⟩ = some (.int .i64 si) ∧ V.cell? ⟨g + 1, 3, none⟩ = some (.int .i64 t0) ∧ V.cell? ⟨g + 1, 4, none⟩ = some (.int .i64 s0) ∧ V.cell? ⟨g + 1, 5, none⟩ = some (.int .i64 rn) ∧ V.cell? ⟨g + 1, 6, none⟩ = some (.int .i64 ost) ∧ V.cell? ⟨g + 1, 7, none⟩ = some (.int .i64 nn) ∧ V.cell? ⟨g + 1, 8, none⟩ = some (.slice oA on oc))) := by
    show ∀ V, _
    intro V h
    have h1 := site_cells (x := ⟨st, ck, .slice A N c, L, sA, sn, sc, seen, wA, wn, wc, wl, lA, ln, lc, ll⟩) h.x
    have h2 := (op_cells h.o).cs
    simp only [hg] at h1 h2
    exact ⟨h1, h2⟩
  obtain ⟨⟨p0, p1, p2, p3, p4, p5⟩, o0, o1, o2, o3, o4, o5, o6, o7, o8⟩ := HCE.out W HS.out
  have bl1 : decide (ln ≥ 8000) = false := decide_eq_false (by omega)
  have bl2 : decide ((ln : Int) ≥ 8000) = false := decide_eq_false (by omega)
  have bl3 : decide (8000 ≤ (ln : Int)) = false := decide_eq_false (by omega)
  have bl4 : decide (8000 ≤ ln) = false := decide_eq_false (by omega)
  go_upto_region 3 with (first
    | (go_at_call 46; refine (cC _ HS.out.k).mono ?_; clear cC; rintro ee w2 ⟨rfl, hk2⟩; have HS2 := Lib.hid (HS.out.keep hk2); clear hk2 p0 p1 p2 p3 p4 p5 o0 o1 o2 o3 o4 o5 o6 o7 o8; obtain ⟨⟨p0, p1, p2, p3, p4, p5⟩, o0, o1, o2, o3, o4, o5, o6, o7, o8⟩ := HCE.out w2 HS2.out)
    | (go_at_call 40; refine (cM _ HS2.out.k).mono ?_; clear cM; rintro ee w3 ⟨rfl, hk3⟩; have HS3 := Lib.hid (HS2.out.keep hk3); clear hk3 p0 p1 p2 p3 p4 p5 o0 o1 o2 o3 o4 o5 o6 o7 o8; obtain ⟨⟨p0, p1, p2, p3, p4, p5⟩, o0, o1, o2, o3, o4, o5, o6, o7, o8⟩ := HCE.out w3 HS3.out))
  go_upto_region 6 with (go_at_call 15; refine (cD _ HS3.out.k).mono ?_; clear cD; rintro ee w4 ⟨⟨v4, L4, rfl, hdo⟩, hk4⟩; have HS4 := Lib.hid (HS3.out.keep hk4); have HDO := Lib.hid hdo; clear hk4 hdo p0 p1 p2 p3 p4 p5 o0 o1 o2 o3 o4 o5 o6 o7 o8; obtain ⟨⟨p0, p1, p2, p3, p4, p5⟩, o0, o1, o2, o3, o4, o5, o6, o7, o8⟩ := HCE.out w4 HS4.out)
  have HDP : Hid (DoP L ⟨kd, t, si, t0, s0, rn, ost, nn, oseen⟩ L4) := HDO.out.2
  have HO4 : Hid (Oe w4 w3.heap.size v4 L4) := HDO.out.1
  have hel4 := HEL.out L4 HDP.out
  obtain ⟨A4, c4, hv4⟩ := HO4.out.form
  obtain ⟨N4, hN4⟩ : ∃ N4, L4.length = N4 := ⟨_, rfl⟩
  rw [hN4] at hv4
  subst hv4
  have cP4 := cP w4 HS4.out.k (.slice A4 N4 c4) L4 HO4.out.se hel4
  have HN4 := Lib.hid hN4
  clear cP hel4 hN4
  go_upto_region 8 with fail
  obtain ⟨⟨x0, x1, x2⟩, y0, y1, y2⟩ := three_facts HS4.out.p
  simp only [hg] at x0 x1 x2 y0 y1 y2
  go_upto_region 9 with (go_at_call 55; refine cP4.mono ?_; clear cP4 p0 p1 p2 p3 p4 p5 o0 o1 o2 o3 o4 o5 o6 o7 o8 x0 x1 x2 y0 y1 y2; rintro ee w5 ⟨⟨pn, pm, ps, rfl⟩, hk5⟩; have HS5 := Lib.hid (HS4.out.keep hk5); have HO5 := Lib.hid (HO4.out.kept hk5); clear hk5; obtain ⟨⟨x0, x1, x2⟩, y0, y1, y2⟩ := three_facts HS5.out.p; simp only [hg] at x0 x1 x2 y0 y1 y2)
  have hk6 : Kept (fun q => q = g + 1 + 1) w5 (((w5.setCell ⟨g + 1 + 1, 0, none⟩ (.int .i64 pn)).setCell ⟨g + 1 + 1, 1, none⟩ (.int .i64 pm)).setCell ⟨g + 1 + 1, 2, none⟩ (.string ps)) := Kept.three (Kept.refl (fun q => q = g + 1 + 1) w5) rfl _ _ _
  have HP6 : Hid ((((w5.setCell ⟨g + 1 + 1, 0, none⟩ (.int .i64 pn)).setCell ⟨g + 1 + 1, 1, none⟩ (.int .i64 pm)).setCell ⟨g + 1 + 1, 2, none⟩ (.string ps)).heap[g + 1 + 1]? = some (.cells #[.int .i64 pn, .int .i64 pm, .string ps] 55 (0, 0))) := three_set (by have h := HS5.out.p; rw [hg] at h; exact h) _ _ _
  have hxg := HS5.out.x
  have hog := HS5.out.o
  have hzg := HS5.out.z
  rw [hg] at hxg hog hzg
  have HX6 := Lib.hid ((hk6.block g (heap_lt hxg) (fun e => by have e : g = g + 1 + 1 := e; omega)).trans hxg)
  have HO6 := Lib.hid ((hk6.block (g + 1) (heap_lt hog) (fun e => by have e : g + 1 = g + 1 + 1 := e; omega)).trans hog)
  have HZ6 : Hid ((((w5.setCell ⟨g + 1 + 1, 0, none⟩ (.int .i64 pn)).setCell ⟨g + 1 + 1, 1, none⟩ (.int .i64 pm)).setCell ⟨g + 1 + 1, 2, none⟩ (.string ps)).heap[g + 1 + 1 + 1]? = some (.cells zSite 46 (0, 0))) := (hk6.block (g + 1 + 1 + 1) (heap_lt hzg) (fun e => by have e : g + 1 + 1 + 1 = g + 1 + 1 := e; omega)).trans hzg
  have HKW6 : Hid (Kept (fun _ => False) w (((w5.setCell ⟨g + 1 + 1, 0, none⟩ (.int .i64 pn)).setCell ⟨g + 1 + 1, 1, none⟩ (.int .i64 pm)).setCell ⟨g + 1 + 1, 2, none⟩ (.string ps))) := HS5.out.k.fresh hk6 (fun q hq e => by have e : q = g + 1 + 1 := e; omega)
  have HD6 : Hid (Oe (((w5.setCell ⟨g + 1 + 1, 0, none⟩ (.int .i64 pn)).setCell ⟨g + 1 + 1, 1, none⟩ (.int .i64 pm)).setCell ⟨g + 1 + 1, 2, none⟩ (.string ps)) w3.heap.size (.slice A4 N4 c4) L4) := HO5.out.keptS hk6 (fun z hz e => by
    obtain ⟨_, cur, h2⟩ := HO5.out.typed hz
    have e : z = g + 1 + 1 := e
    have h3 := HS5.out.p
    rw [hg] at h3
    rw [e] at h2
    exact typ_ne h2 h3 (by decide) rfl)
  clear hk6 hxg hog hzg x0 x1 x2 y0 y1 y2
  generalize ((w5.setCell ⟨g + 1 + 1, 0, none⟩ (.int .i64 pn)).setCell ⟨g + 1 + 1, 1, none⟩ (.int .i64 pm)).setCell ⟨g + 1 + 1, 2, none⟩ (.string ps) = w6 at *
  have hsn : sn = 4 := by
    have h1 := HX.out.seen.1
    have h2 := HOK.out.seen.1
    exact h1.symm.trans h2
  subst hsn
  have hwl4 : ∀ b ∈ wl, b.o.seen.length = 4 := fun b hb => (HOK.out.wl.2 b.o (List.mem_map.2 ⟨b, hb, rfl⟩)).2.2.2.1.1
  have hll4 : ∀ b ∈ ll, b.o.seen.length = 4 := fun b hb => (HOK.out.ll.2 b.o (List.mem_map.2 ⟨b, hb, rfl⟩)).2.2.2.1.1
  have hwn8 : wn ≤ 8000 := by
    have h1 := HOK.out.wl.1
    have h2 := HX.out.wait.1
    simp only [SiteS.P, List.length_map] at h1
    simp only at h2
    omega
  have hLb : L.length ≤ 2000 := HOK.out.els.1
  have HS49 : Hid (seen.length = 4) := HOK.out.seen.1
  have cS := ownsite_any ⟨st, ck, .slice A N c, L, sA, 4, sc, seen, wA, wn, wc, wl, lA, ln, lc, ll⟩ w6 (HX.out.kept HKW6.out) (by simp only; omega) (HOK.out.seen.1) hwl4 hll4 (by simp only; omega) (by simp only; omega)
  simp only [SiteS.V, SiteS.cs] at cS
  obtain ⟨p0, p1, p2, p3, p4, p5⟩ := site_cells (x := ⟨st, ck, .slice A N c, L, sA, 4, sc, seen, wA, wn, wc, wl, lA, ln, lc, ll⟩) HX6.out
  obtain ⟨⟨x0, x1, x2, x3, x4, x5⟩, y0, y1, y2, y3, y4, y5⟩ := six_facts HZ6.out
  clear hwl4 hll4
  go_upto_region 10 with (go_at_call 50; refine cS.mono ?_; clear cS p0 p1 p2 p3 p4 p5 x0 x1 x2 x3 x4 x5 y0 y1 y2 y3 y4 y5; rintro ee w7 ⟨⟨⟨st', ck', dv', L', sA', sn', sc1, seen', wA1, wn1, wc1, wl1, lA1, ln1, lc1, ll1⟩, s, rfl, hso, hyP⟩, hk7⟩; simp only [SiteS.P, SiteP.mk.injEq] at hyP; obtain ⟨e1, e2, e3, e4, e5, e6⟩ := hyP; have e1 := e1.symm; have e2 := e2.symm; have e3 := e3.symm; have e4 := e4.symm; subst e1 e2 e3 e4; have e7 := hso.sA; have e9 := hso.sn; simp only at e9; rw [HS49.out] at e9; subst e9; simp only at e7; subst e7; obtain ⟨A1, c1, e8⟩ := hso.doc.form; simp only [HN.out] at e8; subst e8; have HSO := Lib.hid hso; have HWL := Lib.hid e5; have HLL := Lib.hid e6; have HKW7 := Lib.hid (HKW6.out.trans hk7); have HSW : Hid (w6.heap.size ≤ w7.heap.size) := hk7.size; have HO7 := Lib.hid ((hk7.block (g + 1) (heap_lt HO6.out) id).trans HO6.out); have HP7 := Lib.hid ((hk7.block (g + 1 + 1) (heap_lt HP6.out) id).trans HP6.out); have HX7 := Lib.hid ((hk7.block g (heap_lt HX6.out) id).trans HX6.out); have HZ7 := Lib.hid ((hk7.block (g + 1 + 1 + 1) (heap_lt HZ6.out) id).trans HZ6.out); have HD7 := Lib.hid (HD6.out.kept hk7); clear hso e5 e6 hk7; obtain ⟨⟨x0, x1, x2, x3, x4, x5⟩, y0, y1, y2, y3, y4, y5⟩ := six_facts HZ7.out)
  clear x0 x1 x2 x3 x4 x5 y0 y1 y2 y3 y4 y5
  obtain ⟨gs, hgs⟩ : ∃ gs, g + 1 + 1 + 1 = gs := ⟨_, rfl⟩
  obtain ⟨gp, hgp⟩ : ∃ gp, g + 1 + 1 = gp := ⟨_, rfl⟩
  obtain ⟨go', hgo⟩ : ∃ go', g + 1 = go' := ⟨_, rfl⟩
  have HGS : Hid (w.heap.size + 1 = go' ∧ w.heap.size + 2 = gp ∧ w.heap.size + 3 = gs) := by show _ ∧ _ ∧ _; omega
  simp only [hgs] at HZ7 ⊢
  simp only [hgp] at HP7 ⊢
  simp only [hgo] at HO7 ⊢
  have hk8 : Kept (fun q => q = gs) w7 _ := Kept.six (Kept.refl (fun q => q = gs) w7) rfl (.int .i64 st) (.int .i64 ck) (.slice A1 N c1) (.slice (some ⟨s, 0, none⟩) 4 sc1) (.slice wA1 wn1 wc1) (.slice lA1 ln1 lc1)
  have HG8 := Lib.hid (six_set HZ7.out (.int .i64 st) (.int .i64 ck) (.slice A1 N c1) (.slice (some ⟨s, 0, none⟩) 4 sc1) (.slice wA1 wn1 wc1) (.slice lA1 ln1 lc1))
  have HK8 := Lib.hid hk8
  clear hk8 hgs hgp hgo
  generalize (((((w7.setCell ⟨gs, 0, none⟩ (.int .i64 st)).setCell ⟨gs, 1, none⟩ (.int .i64 ck)).setCell ⟨gs, 2, none⟩ (.slice A1 N c1)).setCell ⟨gs, 3, none⟩ (.slice (some ⟨s, 0, none⟩) 4 sc1)).setCell ⟨gs, 4, none⟩ (.slice wA1 wn1 wc1)).setCell ⟨gs, 5, none⟩ (.slice lA1 ln1 lc1) = w8 at *
  obtain ⟨⟨x0, x1, x2, x3, x4, x5⟩, y0, y1, y2, y3, y4, y5⟩ := six_facts HG8.out
  go_upto_region 11 with fail
  clear x0 x1 x2 x3 x4 x5 y0 y1 y2 y3 y4 y5
  have HG9 : Hid ((w8.setCell ⟨gs, 2, none⟩ (.slice A4 N4 c4)).heap[gs]? = some (.cells #[.int .i64 st, .int .i64 ck, .slice A4 N4 c4, .slice (some ⟨s, 0, none⟩) 4 sc1, .slice wA1 wn1 wc1, .slice lA1 ln1 lc1] 46 (0, 0))) := heap_set HG8.out _
  have HK9 : Hid (Kept (fun q => q = gs) w7 (w8.setCell ⟨gs, 2, none⟩ (.slice A4 N4 c4))) := HK8.out.setCell (p := ⟨gs, 2, none⟩) rfl _
  clear HG8 HK8
  generalize w8.setCell ⟨gs, 2, none⟩ (.slice A4 N4 c4) = w9 at *
  have HGL := Lib.hid (And.intro HGS.out.1 HGS.out.2)
  have hX9 := (HK9.out.block g (heap_lt HX7.out) (fun e => by have e : g = gs := e; have := HGS.out; omega)).trans HX7.out
  have hO9 := (HK9.out.block go' (heap_lt HO7.out) (fun e => by have e : go' = gs := e; have := HGS.out; omega)).trans HO7.out
  have HO9 := Lib.hid hO9
  obtain ⟨p0, p1, p2, p3, p4, p5⟩ := site_cells (x := ⟨st, ck, .slice A N c, L, sA, 4, sc, seen, wA, wn, wc, wl, lA, ln, lc, ll⟩) hX9
  obtain ⟨o0, o1, o2, o3, o4, o5, o6, o7, o8⟩ := (op_cells (b := ⟨⟨kd, t, si, t0, s0, rn, ost, nn, oseen⟩, oA, on, oc⟩) hO9).cs
  simp only at o0 o1 o2 o3 o4 o5 o6 o7 o8
  obtain ⟨⟨x0, x1, x2, x3, x4, x5⟩, y0, y1, y2, y3, y4, y5⟩ := six_facts HG9.out
  clear hX9 hO9 p0 p2 p3 p4 p5 o0 o2 o3 o4 o5 o6 o7 o8
  go_upto_region 12 with fail
  clear x0 x1 x2 x3 x4 x5 y0 y1 y2 y3 y4 y5 p1 o1
  obtain ⟨MX, hMX⟩ : ∃ MX, max ck t = MX := ⟨_, rfl⟩
  have HMX := Lib.hid hMX
  simp only [hMX]
  clear hMX
  have HG10 : Hid ((w9.setCell ⟨gs, 1, none⟩ (.int .i64 MX)).heap[gs]? = some (.cells #[.int .i64 st, .int .i64 MX, .slice A4 N4 c4, .slice (some ⟨s, 0, none⟩) 4 sc1, .slice wA1 wn1 wc1, .slice lA1 ln1 lc1] 46 (0, 0))) := heap_set HG9.out _
  have HK10 : Hid (Kept (fun q => q = gs) w7 (w9.setCell ⟨gs, 1, none⟩ (.int .i64 MX))) := HK9.out.setCell (p := ⟨gs, 1, none⟩) rfl _
  clear HG9 HK9 HO9
  generalize w9.setCell ⟨gs, 1, none⟩ (.int .i64 MX) = w10 at *
  have hO10 := (HK10.out.block go' (heap_lt HO7.out) (fun e => by have e : go' = gs := e; have := HGS.out; omega)).trans HO7.out
  have hsl : w6.heap.size ≤ s := HSO.out.sB
  have hgl := heap_lt HZ6.out
  have HSG : Hid (gs < s) := by show _ < _; have := HGS.out; omega
  obtain ⟨k0, hk0⟩ : ∃ k0 : Nat, (ost - 1).toNat = k0 := ⟨_, rfl⟩
  have host : 1 ≤ ost ∧ ost ≤ 4 := HOP.out.2.1
  have hnnb : 1 ≤ nn ∧ nn ≤ 2000 := HOP.out.2.2.1
  have hks : ost - 1 = (k0 : Int) := by omega
  have hk4 : k0 < 4 := by omega
  have HKK := Lib.hid hk0
  have hvm10 : Vm w10 s sc1 seen := HSO.out.vm.kept HK10.out (fun e => by have e : s = gs := e; have := HSG.out; omega)
  obtain ⟨sa, yv, hsa, hyv, z0⟩ := (hvm10.nums HS49.out).cell (j := k0) hk4
  injection hsa with hsa
  subst hsa
  rw [addr_add, Nat.zero_add] at z0
  have zf : w10.frozen? ⟨s, k0, none⟩ = false := hvm10.free k0
  have w6_ : IntKind.i64.wrap (ost - 1) = (k0 : Int) := by rw [hks]; exact IntWalk.i64_in _ ⟨by omega, by omega⟩
  have t1 : (0 : Int) ≤ (k0 : Int) := by omega
  have t2 : (k0 : Int) < 4 := by omega
  obtain ⟨o0, o1, o2, o3, o4, o5, o6, o7, o8⟩ := (op_cells (b := ⟨⟨kd, t, si, t0, s0, rn, ost, nn, oseen⟩, oA, on, oc⟩) hO10).cs
  simp only at o0 o1 o2 o3 o4 o5 o6 o7 o8
  obtain ⟨⟨x0, x1, x2, x3, x4, x5⟩, y0, y1, y2, y3, y4, y5⟩ := six_facts HG10.out
  clear hk0 hks hyv o0 o1 o2 o3 o4 o5 o8 hsl hgl
  go_upto_region 13 with fail
  clear x0 x1 x2 x3 x4 x5 y0 y1 y2 y3 y4 y5 o6 o7 z0 zf w6_ t1 t2 hk4
  have hk11 : Kept (fun q => q = s) w10 (w10.setCell ⟨s, k0, none⟩ (.int .i64 nn)) := (Kept.refl (fun q => q = s) w10).setCell (p := ⟨s, k0, none⟩) rfl _
  have HV11 := Lib.hid (hvm10.set k0 nn)
  have HG11 := Lib.hid ((hk11.block gs (heap_lt HG10.out) (fun e => by have e : gs = s := e; have := HSG.out; omega)).trans HG10.out)
  have HO11 := Lib.hid ((hk11.block go' (heap_lt hO10) (fun e => by have e : go' = s := e; have := HSG.out; have := HGS.out; omega)).trans hO10)
  have HK11 : Hid (Kept (fun q => q = gs ∨ q = s) w7 (w10.setCell ⟨s, k0, none⟩ (.int .i64 nn))) := (HK10.out.mono (fun _ _ e => .inl e)).trans (hk11.mono (fun _ _ e => .inr e))
  clear hk11 hvm10 hO10 HG10 HK10
  generalize w10.setCell ⟨s, k0, none⟩ (.int .i64 nn) = w11 at *
  have HWT11 := Lib.hid (HSO.out.wait.keepS HK11.out (fun q hq e => by have := HSG.out; rcases e with e | e <;> omega))
  have HLT11 := Lib.hid (HSO.out.log.keepS HK11.out (fun q hq e => by have := HSG.out; rcases e with e | e <;> omega))
  have HSEP := Lib.hid HSO.out.sep
  have HSN : Hid (wl1.length = wn1 ∧ ll1.length = ln1) := ⟨HSO.out.wn, HSO.out.ln⟩
  have HD11 := Lib.hid (HD7.out.keptS HK11.out (fun z hz e => by
    obtain ⟨_, cur, h2⟩ := HD7.out.typed hz
    rcases e with e | e
    · rw [e] at h2
      exact typ_ne h2 HZ7.out (by decide) rfl
    · obtain ⟨cu3, h3, _⟩ := HSO.out.vm.h
      rw [e] at h2
      exact typ_ne h2 h3 (by decide) rfl))
  have HP11 := Lib.hid ((HK11.out.block gp (heap_lt HP7.out) (fun e => by have := HSG.out; have := HGS.out; rcases e with e | e <;> omega)).trans HP7.out)
  have HKW11 : Hid (Kept (fun _ => False) w w11) := HKW7.out.fresh HK11.out (fun z hz e => by have := HSG.out; have := HGS.out; rcases e with e | e <;> omega)
  have hb11 := HB.out.kept HKW11.out (fun _ _ => id)
  have hone : OpsM (w11.alloc (.cells #[.int .i64 kd, .int .i64 t, .int .i64 si, .int .i64 t0, .int .i64 s0, .int .i64 rn, .int .i64 ost, .int .i64 nn, .slice oA on oc] 42)) (some ⟨w11.heap.size, 0, none⟩) 1 [⟨⟨kd, t, si, t0, s0, rn, ost, nn, oseen⟩, oA, on, oc⟩] := one_new w11 _ hb11
  have HONE : Hid (OpsM (w11.alloc (.cells #[.int .i64 kd, .int .i64 t, .int .i64 si, .int .i64 t0, .int .i64 s0, .int .i64 rn, .int .i64 ost, .int .i64 nn, .slice oA on oc] 42)).drew (some ⟨w11.heap.size, 0, none⟩) 1 [⟨⟨kd, t, si, t0, s0, rn, ost, nn, oseen⟩, oA, on, oc⟩]) := hone.kept (Kept.refl (fun _ => False) _).drew (fun _ _ => id) (fun _ _ _ _ => id)
  have cO := ownops_any (some ⟨w11.heap.size, 0, none⟩) 1 1 [⟨⟨kd, t, si, t0, s0, rn, ost, nn, oseen⟩, oA, on, oc⟩] ((w11.alloc (.cells #[.int .i64 kd, .int .i64 t, .int .i64 si, .int .i64 t0, .int .i64 s0, .int .i64 rn, .int .i64 ost, .int .i64 nn, .slice oA on oc] 42)).drew) HONE.out (fun h => by cases h) (by omega) (fun q hq => by rw [List.mem_singleton.1 hq]; exact HOP.out.2.2.2.1.1)
  have hka : Kept (fun _ => False) w11 ((w11.alloc (.cells #[.int .i64 kd, .int .i64 t, .int .i64 si, .int .i64 t0, .int .i64 s0, .int .i64 rn, .int .i64 ost, .int .i64 nn, .slice oA on oc] 42)).drew) := ((Kept.refl _ w11).alloc _).drew
  have HKA := Lib.hid hka
  have HKF : Hid (∀ V, Kept (fun _ => False) w11 V → V.heap[gs]? = some (.cells #[.int .i64 st, .int .i64 MX, .slice A4 N4 c4, .slice (some ⟨s, 0, none⟩) 4 sc1, .slice wA1 wn1 wc1, .slice lA1 ln1 lc1] 46 (0, 0))) := fun V hk => (hk.block gs (heap_lt HG11.out) id).trans HG11.out
  have HL5 : Hid (∀ V, Kept (fun _ => False) w11 V → V.cell? ⟨gs, 5, none⟩ = some (.slice lA1 ln1 lc1)) := fun V hk => cell_of_row _ _ _ _ _ _ (HKF.out V hk)
  have k5 := HL5.out w11 (Kept.refl _ _)
  have k5a := HL5.out _ hka
  have HLG : Hid (ll1.length + 1 ≤ 100000) := by
    have h2 := congrArg List.length HLL.out
    simp only [List.length_map] at h2
    show _ ≤ _
    omega
  have HBA : Hid (∀ V, Kept (fun _ => False) w11 V → s + 1 ≤ V.heap.size) := by
    show ∀ V, _
    intro V hk
    have h1 := hk.size
    have h2 := HV11.out.lt
    omega
  obtain ⟨LZ, hLZ⟩ : ∃ LZ, ln1 + 1 = LZ := ⟨_, rfl⟩
  have HLZ := Lib.hid hLZ
  have HLR : Hid (∀ z, (Value.slice lA1 ln1 lc1).ownBlock = some z → s + 1 ≤ z ∧ z < w11.heap.size) := fun z hz => World.ownsRow.lt HLT11.out.tg.own z hz
  obtain ⟨o0, o1, o2, o3, o4, o5, o6, o7, o8⟩ := (op_cells (b := ⟨⟨kd, t, si, t0, s0, rn, ost, nn, oseen⟩, oA, on, oc⟩) HO11.out).cs
  simp only at o0 o1 o2 o3 o4 o5 o6 o7 o8
  clear hb11 hone hka hLZ host hnnb
  go_region_law (first
    | (go_simp; go_at_call 54; refine cO.mono ?_; clear cO; rintro ee w12 ⟨hret, hk12⟩; obtain ⟨A3, c3, bl3, he3, hto3, hlen3, ho3⟩ := opsret_to hret; subst he3; have HTO3 := Lib.hid hto3; have HLE3 := Lib.hid hlen3; have HO3 := Lib.hid ho3; have HK12 := Lib.hid (HKA.out.trans hk12); have k7 := HL5.out w12 HK12.out; have HLT12 := Lib.hid (HLT11.out.keep HK12.out); clear hret hto3 hlen3 ho3 hk12)
    | (refine step_app_ops rfl (.tmp 61) (.tmp 64) rfl (s + 1) (.slice lA1 ln1 lc1) ll1 rfl HLT12.out.tg.own A3 1 c3 bl3 rfl (HTO3.out.opsM HLE3.out).1 (HTO3.out.opsM HLE3.out).2.1 HLG.out (HBA.out w12 HK12.out) ?_; intro T13 w13 hown hgrow hat; obtain ⟨A13, c13, hT13⟩ := own_form' hown; rw [List.length_append, HSN.out.2, HLE3.out, HLZ.out] at hT13; subst hT13; have HOW := Lib.hid hown; have HGR := Lib.hid hgrow; have HAT := Lib.hid hat; have HX13 : Hid (w13.heap[gs]? = some (.cells #[.int .i64 st, .int .i64 MX, .slice A4 N4 c4, .slice (some ⟨s, 0, none⟩) 4 sc1, .slice wA1 wn1 wc1, .slice lA1 ln1 lc1] 46 (0, 0))) := (hgrow.block gs (heap_lt (HKF.out w12 HK12.out)) (fun e => by have h1 := (HLR.out gs e.symm).1; have h2 := HSG.out; omega)).trans (HKF.out w12 HK12.out); have k8 : w13.cell? ⟨gs, 5, none⟩ = some (.slice lA1 ln1 lc1) := cell_of_row _ _ _ _ _ _ HX13.out; have f8 : w13.frozen? ⟨gs, 5, none⟩ = false := frozen_of HX13.out; clear hown hgrow hat))
  all_goals
    have HG14 : Hid ((w13.setCell ⟨gs, 5, none⟩ (.slice A13 LZ c13)).heap[gs]? = some (.cells #[.int .i64 st, .int .i64 MX, .slice A4 N4 c4, .slice (some ⟨s, 0, none⟩) 4 sc1, .slice wA1 wn1 wc1, .slice A13 LZ c13] 46 (0, 0))) := heap_set HX13.out _
    have hg13 := HGR.out
    have hk13 : Kept (fun z => (Value.slice lA1 ln1 lc1).ownBlock = some z) w11 w13 := HK12.out.any.trans ⟨hg13.os, hg13.tape, hg13.output, hg13.size, fun k hk hs => hg13.block k hk (fun e => hs e.symm)⟩
    have hk14 : Kept (fun z => z = gs) w13 (w13.setCell ⟨gs, 5, none⟩ (.slice A13 LZ c13)) := (Kept.refl (fun z => z = gs) w13).setCell (p := ⟨gs, 5, none⟩) rfl _
    have HK13 := Lib.hid hk13
    have HK14 := Lib.hid hk14
    have HP14 : Hid ((w13.setCell ⟨gs, 5, none⟩ (.slice A13 LZ c13)).heap[gp]? = some (.cells #[.int .i64 pn, .int .i64 pm, .string ps] 55 (0, 0))) := (hk14.block gp (Nat.lt_of_lt_of_le (heap_lt HP11.out) hk13.size) (fun e => by have e : gp = gs := e; have := HGS.out; omega)).trans ((hk13.block gp (heap_lt HP11.out) (fun e => by have h1 := (HLR.out gp e).1; have := HSG.out; have := HGS.out; omega)).trans HP11.out)
    clear hg13 hk13 hk14 k5 k5a k7 k8 f8 o0 o1 o2 o3 o4 o5 o6 o7 o8
    generalize w13.setCell ⟨gs, 5, none⟩ (.slice A13 LZ c13) = w14 at *
    obtain ⟨⟨x0, x1, x2, x3, x4, x5⟩, y0, y1, y2, y3, y4, y5⟩ := six_facts HG14.out
    obtain ⟨⟨u0, u1, u2⟩, v0, v1, v2⟩ := three_facts HP14.out
    have hkp : Kept (fun q => q = gp) w14 (((w14.setCell ⟨gp, 0, none⟩ (.int .i64 pn)).setCell ⟨gp, 1, none⟩ (.int .i64 pm)).setCell ⟨gp, 2, none⟩ (.string ps)) := Kept.three (Kept.refl (fun q => q = gp) w14) rfl _ _ _
    have hgs : (((w14.setCell ⟨gp, 0, none⟩ (.int .i64 pn)).setCell ⟨gp, 1, none⟩ (.int .i64 pm)).setCell ⟨gp, 2, none⟩ (.string ps)).heap[gs]? = some (.cells #[.int .i64 st, .int .i64 MX, .slice A4 N4 c4, .slice (some ⟨s, 0, none⟩) 4 sc1, .slice wA1 wn1 wc1, .slice A13 LZ c13] 46 (0, 0)) := (hkp.block gs (heap_lt HG14.out) (fun e => by have e : gs = gp := e; have := HGS.out; omega)).trans HG14.out
    have HGS2 := Lib.hid hgs
    have HKP := Lib.hid hkp
    have HPP : Hid ((((w14.setCell ⟨gp, 0, none⟩ (.int .i64 pn)).setCell ⟨gp, 1, none⟩ (.int .i64 pm)).setCell ⟨gp, 2, none⟩ (.string ps)).heap[gp]? = some (.cells #[.int .i64 pn, .int .i64 pm, .string ps] 55 (0, 0))) := three_set HP14.out _ _ _
    obtain ⟨⟨X0, X1, X2, X3, X4, X5⟩, Y0, Y1, Y2, Y3, Y4, Y5⟩ := six_facts hgs
    have hk6 : Kept (fun q => q = gs) w14 ((((((w14.setCell ⟨gs, 0, none⟩ (.int .i64 st)).setCell ⟨gs, 1, none⟩ (.int .i64 MX)).setCell ⟨gs, 2, none⟩ (.slice A4 N4 c4)).setCell ⟨gs, 3, none⟩ (.slice (some ⟨s, 0, none⟩) 4 sc1)).setCell ⟨gs, 4, none⟩ (.slice wA1 wn1 wc1)).setCell ⟨gs, 5, none⟩ (.slice A13 LZ c13)) := Kept.six (Kept.refl (fun q => q = gs) w14) rfl _ _ _ _ _ _
    have hgp6 : ((((((w14.setCell ⟨gs, 0, none⟩ (.int .i64 st)).setCell ⟨gs, 1, none⟩ (.int .i64 MX)).setCell ⟨gs, 2, none⟩ (.slice A4 N4 c4)).setCell ⟨gs, 3, none⟩ (.slice (some ⟨s, 0, none⟩) 4 sc1)).setCell ⟨gs, 4, none⟩ (.slice wA1 wn1 wc1)).setCell ⟨gs, 5, none⟩ (.slice A13 LZ c13)).heap[gp]? = some (.cells #[.int .i64 pn, .int .i64 pm, .string ps] 55 (0, 0)) := (hk6.block gp (heap_lt HP14.out) (fun e => by have e : gp = gs := e; have := HGS.out; omega)).trans HP14.out
    obtain ⟨⟨U0, U1, U2⟩, V0, V1, V2⟩ := three_facts hgp6
    clear hkp hgs hk6 hgp6
    go_upto_region 14 with fail
    go_region
    clear X0 X1 X2 X3 X4 X5 Y0 Y1 Y2 Y3 Y4 Y5 U0 U1 U2 V0 V1 V2 x0 x1 x2 x3 x4 x5 y0 y1 y2 y3 y4 y5 u0 u1 u2 v0 v1 v2
    have hkz : Kept (fun q => q = gs) (((w14.setCell ⟨gp, 0, none⟩ (.int .i64 pn)).setCell ⟨gp, 1, none⟩ (.int .i64 pm)).setCell ⟨gp, 2, none⟩ (.string ps)) ((((((((((w14.setCell ⟨gp, 0, none⟩ (.int .i64 pn)).setCell ⟨gp, 1, none⟩ (.int .i64 pm)).setCell ⟨gp, 2, none⟩ (.string ps)).setCell ⟨gs, 0, none⟩ (.int .i64 st)).setCell ⟨gs, 1, none⟩ (.int .i64 MX)).setCell ⟨gs, 2, none⟩ (.slice A4 N4 c4)).setCell ⟨gs, 3, none⟩ (.slice (some ⟨s, 0, none⟩) 4 sc1)).setCell ⟨gs, 4, none⟩ (.slice wA1 wn1 wc1)).setCell ⟨gs, 5, none⟩ (.slice A13 LZ c13)).drew) := (Kept.six (Kept.refl (fun q => q = gs) (((w14.setCell ⟨gp, 0, none⟩ (.int .i64 pn)).setCell ⟨gp, 1, none⟩ (.int .i64 pm)).setCell ⟨gp, 2, none⟩ (.string ps))) rfl _ _ _ _ _ _).drew
    have HKZ := Lib.hid hkz
    have HGF : Hid (((((((((((w14.setCell ⟨gp, 0, none⟩ (.int .i64 pn)).setCell ⟨gp, 1, none⟩ (.int .i64 pm)).setCell ⟨gp, 2, none⟩ (.string ps)).setCell ⟨gs, 0, none⟩ (.int .i64 st)).setCell ⟨gs, 1, none⟩ (.int .i64 MX)).setCell ⟨gs, 2, none⟩ (.slice A4 N4 c4)).setCell ⟨gs, 3, none⟩ (.slice (some ⟨s, 0, none⟩) 4 sc1)).setCell ⟨gs, 4, none⟩ (.slice wA1 wn1 wc1)).setCell ⟨gs, 5, none⟩ (.slice A13 LZ c13)).drew).heap[gs]? = some (.cells #[.int .i64 st, .int .i64 MX, .slice A4 N4 c4, .slice (some ⟨s, 0, none⟩) 4 sc1, .slice wA1 wn1 wc1, .slice A13 LZ c13] 46 (0, 0))) := heap_drew (six_set HGS2.out _ _ _ _ _ _)
    have HPF : Hid (((((((((((w14.setCell ⟨gp, 0, none⟩ (.int .i64 pn)).setCell ⟨gp, 1, none⟩ (.int .i64 pm)).setCell ⟨gp, 2, none⟩ (.string ps)).setCell ⟨gs, 0, none⟩ (.int .i64 st)).setCell ⟨gs, 1, none⟩ (.int .i64 MX)).setCell ⟨gs, 2, none⟩ (.slice A4 N4 c4)).setCell ⟨gs, 3, none⟩ (.slice (some ⟨s, 0, none⟩) 4 sc1)).setCell ⟨gs, 4, none⟩ (.slice wA1 wn1 wc1)).setCell ⟨gs, 5, none⟩ (.slice A13 LZ c13)).drew).heap[gp]? = some (.cells #[.int .i64 pn, .int .i64 pm, .string ps] 55 (0, 0))) := (hkz.block gp (heap_lt HPP.out) (fun e => by have e : gp = gs := e; have := HGS.out; omega)).trans HPP.out
    clear hkz
    generalize ((((((((((w14.setCell ⟨gp, 0, none⟩ (.int .i64 pn)).setCell ⟨gp, 1, none⟩ (.int .i64 pm)).setCell ⟨gp, 2, none⟩ (.string ps)).setCell ⟨gs, 0, none⟩ (.int .i64 st)).setCell ⟨gs, 1, none⟩ (.int .i64 MX)).setCell ⟨gs, 2, none⟩ (.slice A4 N4 c4)).setCell ⟨gs, 3, none⟩ (.slice (some ⟨s, 0, none⟩) 4 sc1)).setCell ⟨gs, 4, none⟩ (.slice wA1 wn1 wc1)).setCell ⟨gs, 5, none⟩ (.slice A13 LZ c13)).drew) = wf at *
    have hKX : Kept (fun z => z = gs ∨ z = gp ∨ (Value.slice lA1 ln1 lc1).ownBlock = some z) w11 wf := (((HK13.out.mono (fun _ _ e => .inr (.inr e))).trans (HK14.out.mono (fun _ _ e => .inl e))).trans (HKP.out.mono (fun _ _ e => .inr (.inl e)))).trans (HKZ.out.mono (fun _ _ e => .inl e))
    have hK2 : Kept (fun z => z = gs ∨ z = gp) w13 wf := ((HK14.out.mono (fun _ _ e => .inl e)).trans (HKP.out.mono (fun _ _ e => .inr e))).trans (HKZ.out.mono (fun _ _ e => .inl e))
    have l1 := HGS.out
    have l2 := HSG.out
    have hDn : UpOk w wf ⟨st, ck, L, seen, wl.map (·.o), ll.map (·.o)⟩ ⟨kd, t, si, t0, s0, rn, ost, nn, oseen⟩ (.returned (.tuple #[.agg #[.int .i64 pn, .int .i64 pm, .string ps], .agg #[.int .i64 st, .int .i64 MX, .slice A4 N4 c4, .slice (some ⟨s, 0, none⟩) 4 sc1, .slice wA1 wn1 wc1, .slice A13 LZ c13], .int .i64 0])) := by
      refine ⟨pn, pm, ps, ⟨st, MX, .slice A4 N4 c4, L4, some ⟨s, 0, none⟩, 4, sc1, seen.set k0 nn, wA1, wn1, wc1, wl1, A13, LZ, c13, ll1 ++ bl3⟩, rfl, ⟨?_, ⟨s, rfl, ?_, ?_⟩, ?_, ?_, HSN.out.1, ?_, ?_⟩, ⟨rfl, HMX.out.symm, HDP.out, ?_, HWL.out, ?_⟩⟩
      · refine (HD11.out.keptS hKX (fun z hz e => ?_)).mono (by have := HS3.out.k.size; omega)
        obtain ⟨_, cur, h2⟩ := HD11.out.typed hz
        rcases e with e | e | e
        · rw [e] at h2
          exact typ_ne h2 HG11.out (by decide) rfl
        · rw [e] at h2
          exact typ_ne h2 HP11.out (by decide) rfl
        · obtain ⟨cur3, h3⟩ := HLT11.out.typed e
          exact typ_ne h2 h3 (by decide) rfl
      · omega
      · exact HV11.out.kept hKX (fun e => by
          rcases e with e | e | e
          · omega
          · omega
          · have := (HLR.out s e).1
            omega)
      · rw [List.length_set]
        exact HS49.out
      · obtain ⟨m, m1, m2, m3, m4⟩ := HSEP.out
        refine (HWT11.out.away hKX (fun z hz e => ?_) (fun q hq b hb e => ?_)).mono (by omega)
        · have h1 := m2 z hz
          have h2 := (World.ownsRow.lt HWT11.out.tg.own z hz).1
          rcases e with e | e | e
          · omega
          · omega
          · have h3 := (World.ownsRow.lt m4.tg.own z e).1
            omega
        · have h1 := m3 q hq b hb
          have h2 := HWT11.out.far q hq b hb
          rcases e with e | e | e
          · omega
          · omega
          · have h3 := (World.ownsRow.lt m4.tg.own _ e).1
            omega
      · have htg : Tg w13 (s + 1) (.slice A13 LZ c13) (ll1 ++ bl3) := Tg.apps HLT12.out.tg (Kept.refl _ w12) (fun q hq => HTO3.out.tg.ok q hq) (fun q hq _ b hb e => by
          have h1 := (HLR.out _ e).2
          have h2 := HTO3.out.far q hq b hb
          have h3 : w11.heap.size ≤ ((w11.alloc (.cells #[.int .i64 kd, .int .i64 t, .int .i64 si, .int .i64 t0, .int .i64 s0, .int .i64 rn, .int .i64 ost, .int .i64 nn, .slice oA on oc] 42)).drew).heap.size := HKA.out.size
          omega) HOW.out HGR.out HAT.out
        have hfar : ∀ q ∈ ll1 ++ bl3, ∀ b, q.A = some b → s + 1 ≤ b.block := fun q hq b hb => by
          rcases List.mem_append.1 hq with hq | hq
          · exact HLT11.out.far q hq b hb
          · have h2 := HTO3.out.far q hq b hb
            have h3 : w11.heap.size ≤ ((w11.alloc (.cells #[.int .i64 kd, .int .i64 t, .int .i64 si, .int .i64 t0, .int .i64 s0, .int .i64 rn, .int .i64 ost, .int .i64 nn, .slice oA on oc] 42)).drew).heap.size := HKA.out.size
            have h4 := HV11.out.lt
            omega
        have hto : To w13 (s + 1) (.slice A13 LZ c13) (ll1 ++ bl3) := ⟨htg, hfar⟩
        refine (hto.away hK2 (fun z hz e => ?_) (fun q hq b hb e => ?_)).mono (by omega)
        · have h0 := (World.ownsRow.lt htg.own z hz).1
          rcases e with e | e <;> omega
        · have h0 := hfar q hq b hb
          rcases e with e | e <;> omega
      · show (ll1 ++ bl3).length = LZ
        rw [List.length_append, HSN.out.2, HLE3.out]
        exact HLZ.out
      · show seen.set k0 nn = seen.set (ost - 1).toNat nn
        rw [HKK.out]
      · show (ll1 ++ bl3).map (·.o) = _
        rw [List.map_append, HLL.out, HO3.out]
        rfl
    have HDN := Lib.hid hDn
    have HKF2 : Hid (Kept (fun _ => False) w wf) := HKW11.out.fresh hKX (fun z hz e => by
      rcases e with e | e | e
      · omega
      · omega
      · have := (HLR.out z e).1
        omega)
    clear hDn hKX hK2 l1 l2
    go_wp2_with fail
    exact bodyPost_ret (v := .tuple #[.agg #[.int .i64 pn, .int .i64 pm, .string ps], .agg #[.int .i64 st, .int .i64 MX, .slice A4 N4 c4, .slice (some ⟨s, 0, none⟩) 4 sc1, .slice wA1 wn1 wc1, .slice A13 LZ c13], .int .i64 0]) (res_pst rfl _ _ gs gp _ _ _ _ _ _ _ _ _ (.int .i64 0) (0, 0) (0, 0) rfl rfl rfl HPF.out HGF.out) rfl ⟨HDN.out, HKF2.out⟩
end Go.Proofs.YthkohjijppbliaaDoor
