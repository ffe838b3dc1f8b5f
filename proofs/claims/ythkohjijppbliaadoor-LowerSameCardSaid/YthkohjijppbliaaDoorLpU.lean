/-
  LOWER: an ask of a site, patches and ops, opened.
-/
import Derived.Test.YthkohjijppbliaaDoorLpC
import Derived.Test.YthkohjijppbliaaDoorOdE
set_option linter.unusedVariables false
namespace Go.Proofs.YthkohjijppbliaaDoor
open Go Go.RowKit Go.ChangeShapes Go.WideShapes Go.ChangeAt

theorem cells_pat : Tryd.prog.cellsOf 55 = 3 := by kernel_rfl
theorem cells_pats : Tryd.prog.cellsOf 47 = 1 := by kernel_rfl
theorem cells_ask27 : Tryd.prog.cellsOf 49 = 8 := by kernel_rfl
theorem cells_numsL : Tryd.prog.cellsOf 40 = 1 := by kernel_rfl
theorem cp_slot {A : Option Addr} {n c : Nat} (h : Cp A n c) : A = none → n = 0 ∧ c = 0 := fun e => by have h1 := h.2 e; have h2 := h.1; omega
theorem cells_site : Tryd.prog.cellsOf 46 = 6 := by kernel_rfl
theorem bytes_pat : Tryd.prog.bytesOf 55 = 32 := by kernel_rfl
/-- A patch, as it lies in memory. -/
structure PatS where
  a : Int
  d : Int
  s : ByteArray
instance : Inhabited PatS := ⟨⟨0, 0, .empty⟩⟩
/-- A slice of patches. -/
def Pats (w : World) (A : Option Addr) (n : Nat) (ps : List PatS) : Prop :=
  ps.length = n ∧ ∀ k b, ps[k]? = some b → (∃ ad, A = some ad ∧ w.cell? (ad.add (k * 3)) = some (.int .i64 b.a) ∧ w.cell? ⟨(ad.add (k * 3)).block, (ad.add (k * 3)).off + 1, none⟩ = some (.int .i64 b.d) ∧
    w.cell? ⟨(ad.add (k * 3)).block, (ad.add (k * 3)).off + 2, none⟩ = some (.string b.s)) ∧ I64 b.a ∧ I64 b.d ∧ b.s.size ≤ 140737488351232
theorem Pats.kept {w w' : World} {A : Option Addr} {n : Nat} {ps : List PatS} (h : Pats w A n ps) (hk : Kept (fun _ => False) w w') : Pats w' A n ps := by
  refine ⟨h.1, fun j b hj => ?_⟩
  obtain ⟨⟨ad, e, r0, r1, r2⟩, hs⟩ := h.2 j b hj
  exact ⟨⟨ad, e, cell_kept hk r0 id, cell_kept hk r1 id, cell_kept hk r2 id⟩, hs⟩
theorem Pats.at_ {w : World} {A : Option Addr} {n : Nat} {ps : List PatS} (h : Pats w A n ps) {k : Nat} (hk : k < n) : ∃ ad b, A = some ad ∧ ps[k]? = some b ∧ w.cell? (ad.add (k * 3)) = some (.int .i64 b.a) ∧ w.cell? ⟨(ad.add (k * 3)).block, (ad.add (k * 3)).off + 1, none⟩ = some (.int .i64 b.d) ∧
    w.cell? ⟨(ad.add (k * 3)).block, (ad.add (k * 3)).off + 2, none⟩ = some (.string b.s) ∧ I64 b.a ∧ I64 b.d ∧ b.s.size ≤ 140737488351232 := by
  have hl : k < ps.length := by rw [h.1]; exact hk
  obtain ⟨⟨ad, e, r0, r1, r2⟩, hs⟩ := h.2 k ps[k] (List.getElem?_eq_getElem hl)
  exact ⟨ad, ps[k], e, List.getElem?_eq_getElem hl, r0, r1, r2, hs⟩

section
variable {H : Type} {enc : TypeId × Value → H} {W : World} {base : Nat} {sp : Nat → Bool} {held : Bool}

theorem trod_struct6 {P : Program} {t : TypeId} {f0 f1 f2 f3 f4 f5 : Field} {fuel : Nat} {cs : List Value} {x : DataW H × List MemPlace} (ht : P.underlying t = some (.struct #[f0, f1, f2, f3, f4, f5])) (h : DataW.trod enc P W base sp held fuel t cs = some x) :
    ∃ y0 y1 y2 y3 y4 y5 n, x.1 = .agg [y0.1, y1.1, y2.1, y3.1, y4.1, y5.1] ∧ cs.length = P.cellsOf t ∧ DataW.trod enc P W base sp held n f0.type ((cs.drop f0.offset).take (P.cellsOf f0.type)) = some y0 ∧
      DataW.trod enc P W base sp held n f1.type ((cs.drop f1.offset).take (P.cellsOf f1.type)) = some y1 ∧ DataW.trod enc P W base sp held n f2.type ((cs.drop f2.offset).take (P.cellsOf f2.type)) = some y2 ∧
      DataW.trod enc P W base sp held n f3.type ((cs.drop f3.offset).take (P.cellsOf f3.type)) = some y3 ∧ DataW.trod enc P W base sp held n f4.type ((cs.drop f4.offset).take (P.cellsOf f4.type)) = some y4 ∧
      DataW.trod enc P W base sp held n f5.type ((cs.drop f5.offset).take (P.cellsOf f5.type)) = some y5 := by
  obtain ⟨xs, n, _, rfl, hl, hlen, hf⟩ := DataW.trod_struct ht h
  match xs, hlen with
  | [y0, y1, y2, y3, y4, y5], _ => exact ⟨y0, y1, y2, y3, y4, y5, n, by simp, hl, by simpa using hf 0 f0 rfl, by simpa using hf 1 f1 rfl, by simpa using hf 2 f2 rfl, by simpa using hf 3 f3 rfl, by simpa using hf 4 f4 rfl, by simpa using hf 5 f5 rfl⟩
set_option maxRecDepth 100000 in
theorem pat_open {fuel : Nat} {cs : List Value} {x : DataW H × List MemPlace} (h : DataW.trod enc Tryd.prog W base sp held fuel 55 cs = some x) (hz : ∀ q ∈ x.1.weights Tryd.prog 55, q ≤ reachBytes) :
    ∃ b : PatS, cs = [.int .i64 b.a, .int .i64 b.d, .string b.s] ∧ I64 b.a ∧ I64 b.d ∧ b.s.size ≤ 140737488351232 := by
  obtain ⟨y0, y1, y2, n, rfl, hl, h0, h1, h2⟩ := Deep.trod_struct3 Tryd.underlying55 h
  rw [cells_pat] at hl
  match cs, hl with
  | [c0, c1, c2], _ =>
    simp only [cells_int, cells_string, List.drop_zero, List.drop_succ_cons, List.take_succ_cons, List.take_zero] at h0 h1 h2
    obtain ⟨z0, e0, rfl, w0⟩ := DataW.trod_int Tryd.underlying3 h0
    obtain ⟨z1, e1, rfl, w1⟩ := DataW.trod_int Tryd.underlying3 h1
    obtain ⟨S, e2, rfl, _⟩ := DataW.trod_string Tryd.underlying9 h2
    have hsz : S.size ≤ 140737488351232 := by
      have := hz S.data.toList.length (by
        simp only [DataW.weights, Tryd.underlying55, List.map_cons, List.map_nil, DataW.weightsEach, List.nil_append, List.append_nil, List.mem_singleton])
      rw [Array.length_toList] at this
      exact this
    simp only [List.cons.injEq, and_true] at e0 e1 e2
    exact ⟨⟨z0, z1, S⟩, by rw [e0, e1, e2], i64_of_wf w0, i64_of_wf w1, hsz⟩

set_option maxRecDepth 100000 in
theorem pats_open {fuel : Nat} {cs : List Value} {x : DataW H × List MemPlace} (h : DataW.trod enc Tryd.prog W base sp held fuel 47 cs = some x) (hz : ∀ q ∈ x.1.weights Tryd.prog 47, q ≤ reachBytes) :
    ∃ (A : Option Addr) (n c : Nat) (ps : List PatS), cs = [.slice A n c] ∧ Pats W A n ps ∧ n ≤ 140737488351232 := by
  rcases Deep.open_slice Tryd.underlying47 h with ⟨rfl, rfl⟩ | ⟨a, len, cap, m, fu, D, Pl, rfl, hb, hl, hm, hmm, rfl, hx⟩
  · exact ⟨none, 0, 0, [], rfl, ⟨rfl, fun j x hj => by simp at hj⟩, by omega⟩
  · have hle : len ≤ m := by rw [hmm]; split <;> omega
    have hw : DataW.weights Tryd.prog 47 (DataW.slice ((List.range len).map D) ((List.range (m - len)).map fun j => D (len + j))) =
        (((List.range len).map D).length + ((List.range (m - len)).map fun j => D (len + j)).length) * Tryd.prog.bytesOf 55 :: (DataW.weightsAll Tryd.prog 55 ((List.range len).map D) ++ DataW.weightsAll Tryd.prog 55 ((List.range (m - len)).map fun j => D (len + j))) := by
      simp only [DataW.weights, Tryd.underlying47]
    have hlen : len ≤ 140737488351232 := by
      have h1 := hz _ (by rw [hw]; exact List.mem_cons_self)
      simp only [List.length_map, List.length_range, bytes_pat] at h1
      unfold reachBytes at h1
      omega
    obtain ⟨q, hq⟩ := Deep.choose_lt (α := PatS) (n := len) (p := fun k b => W.cell? (a.add (k * 3)) = some (.int .i64 b.a) ∧ W.cell? ⟨(a.add (k * 3)).block, (a.add (k * 3)).off + 1, none⟩ = some (.int .i64 b.d) ∧
        W.cell? ⟨(a.add (k * 3)).block, (a.add (k * 3)).off + 2, none⟩ = some (.string b.s) ∧ I64 b.a ∧ I64 b.d ∧ b.s.size ≤ 140737488351232) (fun i hi => by
      obtain ⟨cs', h1, h2⟩ := hx i (by omega)
      rw [cells_pat] at h1
      obtain ⟨b, rfl, hN⟩ := pat_open h2 (fun q hq => hz q (by
        rw [hw]
        exact List.mem_cons_of_mem _ (List.mem_append_left _ (mem_weightsAll (List.mem_map.2 ⟨i, List.mem_range.2 hi, rfl⟩) hq))))
      obtain ⟨_, _, hc⟩ := World.cells?_some h1
      have g0 := hc 0 (by omega)
      have g1 := hc 1 (by omega)
      have g2 := hc 2 (by omega)
      rw [addr_far _ 1 (by omega)] at g1
      rw [addr_far _ 2 (by omega)] at g2
      exact ⟨b, by simpa [Addr.add] using g0, g1, g2, hN⟩)
    refine ⟨some a, len, cap, (List.range len).map q, rfl, ⟨by simp, fun k b hk => ?_⟩, hlen⟩
    have hkl : k < len := by
      by_cases hkl : k < len
      · exact hkl
      · rw [List.getElem?_eq_none (by simp; omega)] at hk; simp at hk
    rw [List.getElem?_map, List.getElem?_range hkl] at hk
    simp only [Option.map_some, Option.some.injEq] at hk
    rw [← hk]
    obtain ⟨k0, k1, k2, k3⟩ := hq k hkl
    exact ⟨⟨a, rfl, k0, k1, k2⟩, k3⟩


set_option maxRecDepth 100000 in
theorem site_open {fuel : Nat} {cs : List Value} {x : DataW H × List MemPlace} (h : DataW.trod enc Tryd.prog W base sp held fuel 46 cs = some x) (hz : ∀ q ∈ x.1.weights Tryd.prog 46, q ≤ reachBytes) :
    ∃ s : SiteS, cs = [.int .i64 s.st, .int .i64 s.ck, s.dv, .slice s.sA s.sn s.sc, .slice s.wA s.wn s.wc, .slice s.lA s.ln s.lc] ∧ SiteOk W s := by
  obtain ⟨y0, y1, y2, y3, y4, y5, n, hx, hl, h0, h1, h2, h3, h4, h5⟩ := trod_struct6 Tryd.underlying46 h
  rw [cells_site] at hl
  obtain ⟨x1, x2⟩ := x
  simp only at hx
  subst hx
  match cs, hl with
  | [c0, c1, c2, c3, c4, c5], _ =>
    simp only [cells_int, cells_elems, cells_ops, cells_numsL, List.drop_zero, List.drop_succ_cons, List.take_succ_cons, List.take_zero] at h0 h1 h2 h3 h4 h5
    obtain ⟨z0, e0, _, w0⟩ := DataW.trod_int Tryd.underlying3 h0
    obtain ⟨z1, e1, _, w1⟩ := DataW.trod_int Tryd.underlying3 h1
    obtain ⟨X, es, e2, hX, hel⟩ := elems_open h2 (fun q hq => hz q (by
      simp only [DataW.weights, Tryd.underlying46, List.map_cons, List.map_nil, DataW.weightsEach, List.mem_append]
      simp [hq]))
    obtain ⟨A, m, c, xs, e3, hN, hI, hm, hmc⟩ := nums_open h3 (fun q hq => hz q (by
      simp only [DataW.weights, Tryd.underlying46, List.map_cons, List.map_nil, DataW.weightsEach, List.mem_append]
      simp [hq]))
    obtain ⟨O, on, oc, os, e4, hO, hon, hc4⟩ := ops_open h4 (fun q hq => hz q (by
      simp only [DataW.weights, Tryd.underlying46, List.map_cons, List.map_nil, DataW.weightsEach, List.mem_append]
      simp [hq]))
    obtain ⟨Q, qn, qc, qs, e5, hQ, hqn, hc5⟩ := ops_open h5 (fun q hq => hz q (by
      simp only [DataW.weights, Tryd.underlying46, List.map_cons, List.map_nil, DataW.weightsEach, List.mem_append]
      simp [hq]))
    simp only [List.cons.injEq, and_true] at e0 e1 e2 e3 e4 e5
    exact ⟨⟨z0, z1, X, es, A, m, c, xs, O, on, oc, os, Q, qn, qc, qs⟩, by rw [e0, e1, e2, e3, e4, e5], ⟨hX, hN, hmc, hO, cp_slot hc4, hQ, cp_slot hc5, hel, hm, hon, hqn, i64_of_wf w0, i64_of_wf w1, hc4.1, hc5.1⟩⟩
end
/-- An ask, as it lies in memory. -/
structure AskL where
  x : SiteS
  B : Option Addr
  m : Nat
  e : Nat
  ps : List PatS
  O : Option Addr
  on : Nat
  oc : Nat
  os : List OpS
def AskL.cells (p : AskL) : Array Value := #[.int .i64 p.x.st, .int .i64 p.x.ck, p.x.dv, .slice p.x.sA p.x.sn p.x.sc, .slice p.x.wA p.x.wn p.x.wc, .slice p.x.lA p.x.ln p.x.lc, .slice p.B p.m p.e, .slice p.O p.on p.oc]
/-- It reads as it should. -/
structure AskLOk (w : World) (p : AskL) : Prop where
  x : SiteOk w p.x
  ps : Pats w p.B p.m p.ps
  m : p.m ≤ 140737488351232
  os : OpsM w p.O p.on p.os
  on : p.on ≤ 140737488351232
theorem AskLOk.kept {w w' : World} {p : AskL} (h : AskLOk w p) (hk : Kept (fun _ => False) w w') : AskLOk w' p := ⟨h.x.kept hk, h.ps.kept hk, h.m, h.os.kept hk (fun _ _ => id) (fun _ _ _ _ => id), h.on⟩
section
variable {H : Type} {enc : TypeId × Value → H} {W : World} {base : Nat} {sp : Nat → Bool} {held : Bool}
set_option maxRecDepth 100000 in
/-- A parameter of that type. -/
theorem askL_open {r : Reach} {b0 : Nat} {v : Value} {d : DataW H} {p : List MemPlace} (hv : Value.okWide Tryd.prog W r b0 49 v) (h : DataW.Trod enc Tryd.prog W base sp held 49 v d p)
    (hz : ∀ q ∈ d.weights Tryd.prog 49, q ≤ reachBytes) : ∃ a : AskL, v = .agg a.cells ∧ AskLOk W a := by
  obtain ⟨cs, rfl, hsz⟩ := okWide_struct Tryd.underlying49 hv
  rw [cells_ask27] at hsz
  obtain ⟨l⟩ := cs
  match l, hsz with
  | [c0, c1, c2, c3, c4, c5, c6, c7], _ =>
    obtain ⟨fuel, hf⟩ := h
    obtain ⟨y0, y1, y2, n, hx, _, h0, h1, h2⟩ := Deep.trod_struct3 Tryd.underlying49 hf
    simp only [Prod.mk.injEq] at hx
    obtain ⟨rfl, rfl⟩ := hx
    simp only [Value.cells, cells_site, cells_pats, cells_ops, List.drop_zero, List.drop_succ_cons, List.take_succ_cons, List.take_zero] at h0 h1 h2
    obtain ⟨s, e0, hs⟩ := site_open h0 (fun q hq => hz q (by
      simp only [DataW.weights, Tryd.underlying49, List.map_cons, List.map_nil, DataW.weightsEach, List.mem_append]
      exact Or.inl hq))
    obtain ⟨B, m, e, ps, e1, hP, hpm⟩ := pats_open h1 (fun q hq => hz q (by
      simp only [DataW.weights, Tryd.underlying49, List.map_cons, List.map_nil, DataW.weightsEach, List.mem_append]
      exact Or.inr (Or.inl hq)))
    obtain ⟨O, on, oc, os, e2, hO, hon, _⟩ := ops_open h2 (fun q hq => hz q (by
      simp only [DataW.weights, Tryd.underlying49, List.map_cons, List.map_nil, DataW.weightsEach, List.mem_append]
      exact Or.inr (Or.inr (Or.inl hq))))
    simp only [List.cons.injEq, and_true] at e0 e1 e2
    obtain ⟨g0, g1, g2, g3, g4, g5⟩ := e0
    exact ⟨⟨s, B, m, e, ps, O, on, oc, os⟩, by
      unfold AskL.cells
      rw [g0, g1, g2, g3, g4, g5, e1, e2], ⟨hs, hP, hpm, hO, hon⟩⟩
end
end Go.Proofs.YthkohjijppbliaaDoor
