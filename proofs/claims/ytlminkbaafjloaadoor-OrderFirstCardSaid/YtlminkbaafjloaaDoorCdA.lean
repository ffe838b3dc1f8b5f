/-
  AN ASK OF OPS, OPENED: ops, each with what its site had seen, and texts.
-/
import Derived.Test.YtlminkbaafjloaaDoorRws
import Derived.Test.YtlminkbaafjloaaDoorCdP
set_option linter.unusedVariables false
namespace Go.Proofs.YtlminkbaafjloaaDoor
open Go Go.RowKit Go.ChangeShapes Go.WideShapes Go.ChangeAt

theorem cells_op : Tryd.prog.cellsOf 50 = 9 := by kernel_rfl
theorem cells_id : Tryd.prog.cellsOf 47 = 2 := by kernel_rfl
theorem cells_ops : Tryd.prog.cellsOf 23 = 1 := by kernel_rfl
theorem cells_ints : Tryd.prog.cellsOf 48 = 1 := by kernel_rfl
theorem bytes_op : 1 ≤ Tryd.prog.bytesOf 50 := by rw [show Tryd.prog.bytesOf 50 = 88 by kernel_rfl]; decide
/-- An op, as it lies in memory. -/
structure OpS where
  o : Cd.OpP
  A : Option Addr
  n : Nat
  c : Nat
instance : Inhabited OpS := ⟨⟨⟨0, 0, 0, 0, 0, 0, 0, 0, []⟩, none, 0, 0⟩⟩
def OpS.vals (b : OpS) : List Value := [.int .i64 b.o.kd, .int .i64 b.o.t, .int .i64 b.o.si, .int .i64 b.o.t0, .int .i64 b.o.s0, .int .i64 b.o.rn, .int .i64 b.o.st, .int .i64 b.o.nn, .slice b.A b.n b.c]
def I64s (o : Cd.OpP) : Prop := I64 o.kd ∧ I64 o.t ∧ I64 o.si ∧ I64 o.t0 ∧ I64 o.s0 ∧ I64 o.rn ∧ I64 o.st ∧ I64 o.nn
/-- An op reads as it should. -/
structure OpOk (w : World) (b : OpS) : Prop where
  seen : Nums w b.A b.n b.o.seen
  nums : ∀ x ∈ b.o.seen, I64 x
  n : b.n ≤ 17592186044416
  cap : b.n ≤ b.c
  ints : I64s b.o
theorem OpOk.kept {S : Nat → Prop} {w w' : World} {b : OpS} (h : OpOk w b) (hk : Kept S w w') (hs : ∀ a, b.A = some a → ¬ S a.block) : OpOk w' b := ⟨h.seen.kept hk hs, h.nums, h.n, h.cap, h.ints⟩
/-- Where an op's cells are. -/
structure Op9 (w : World) (ad : Addr) (b : OpS) : Prop where
  c0 : w.cell? ad = some (.int .i64 b.o.kd)
  c1 : w.cell? ⟨ad.block, ad.off + 1, none⟩ = some (.int .i64 b.o.t)
  c2 : w.cell? ⟨ad.block, ad.off + 2, none⟩ = some (.int .i64 b.o.si)
  c3 : w.cell? ⟨ad.block, ad.off + 3, none⟩ = some (.int .i64 b.o.t0)
  c4 : w.cell? ⟨ad.block, ad.off + 4, none⟩ = some (.int .i64 b.o.s0)
  c5 : w.cell? ⟨ad.block, ad.off + 5, none⟩ = some (.int .i64 b.o.rn)
  c6 : w.cell? ⟨ad.block, ad.off + 6, none⟩ = some (.int .i64 b.o.st)
  c7 : w.cell? ⟨ad.block, ad.off + 7, none⟩ = some (.int .i64 b.o.nn)
  c8 : w.cell? ⟨ad.block, ad.off + 8, none⟩ = some (.slice b.A b.n b.c)
theorem Op9.kept {S : Nat → Prop} {w w' : World} {ad : Addr} {b : OpS} (h : Op9 w ad b) (hk : Kept S w w') (hs : ¬ S ad.block) : Op9 w' ad b :=
  ⟨cell_kept hk h.c0 hs, cell_kept hk h.c1 hs, cell_kept hk h.c2 hs, cell_kept hk h.c3 hs, cell_kept hk h.c4 hs, cell_kept hk h.c5 hs, cell_kept hk h.c6 hs, cell_kept hk h.c7 hs, cell_kept hk h.c8 hs⟩
/-- A slice of ops. -/
def OpsM (w : World) (A : Option Addr) (n : Nat) (al : List OpS) : Prop :=
  al.length = n ∧ ∀ k b, al[k]? = some b → (∃ ad, A = some ad ∧ Op9 w (ad.add (k * 9)) b) ∧ OpOk w b
theorem add_blk (a : Addr) (j : Nat) : (a.add j).block = a.block := by unfold Addr.add; split <;> rfl
theorem OpsM.kept {S : Nat → Prop} {w w' : World} {A : Option Addr} {n : Nat} {al : List OpS} (h : OpsM w A n al) (hk : Kept S w w') (hs : ∀ a, A = some a → ¬ S a.block) (hb : ∀ b ∈ al, ∀ a, b.A = some a → ¬ S a.block) : OpsM w' A n al := by
  refine ⟨h.1, fun j b hj => ?_⟩
  obtain ⟨⟨ad, e, r⟩, ho⟩ := h.2 j b hj
  exact ⟨⟨ad, e, r.kept hk (by rw [add_blk]; exact hs ad e)⟩, ho.kept hk (hb b (List.mem_of_getElem? hj))⟩
theorem OpsM.at_ {w : World} {A : Option Addr} {n : Nat} {al : List OpS} (h : OpsM w A n al) {k : Nat} (hk : k < n) : ∃ ad b, A = some ad ∧ al[k]? = some b ∧ Op9 w (ad.add (k * 9)) b ∧ OpOk w b := by
  have hl : k < al.length := by rw [h.1]; exact hk
  obtain ⟨⟨ad, e, r⟩, ho⟩ := h.2 k al[k] (List.getElem?_eq_getElem hl)
  exact ⟨ad, al[k], e, List.getElem?_eq_getElem hl, r, ho⟩

section
variable {H : Type} {enc : TypeId × Value → H} {P : Program} {W : World} {base : Nat} {sp : Nat → Bool} {held : Bool}
theorem trod_struct7 {t : TypeId} {f0 f1 f2 f3 f4 f5 f6 : Field} {fuel : Nat} {cs : List Value} {x : DataW H × List MemPlace} (ht : P.underlying t = some (.struct #[f0, f1, f2, f3, f4, f5, f6])) (h : DataW.trod enc P W base sp held fuel t cs = some x) :
    ∃ y0 y1 y2 y3 y4 y5 y6 n, x.1 = .agg [y0.1, y1.1, y2.1, y3.1, y4.1, y5.1, y6.1] ∧ cs.length = P.cellsOf t ∧ DataW.trod enc P W base sp held n f0.type ((cs.drop f0.offset).take (P.cellsOf f0.type)) = some y0 ∧
      DataW.trod enc P W base sp held n f1.type ((cs.drop f1.offset).take (P.cellsOf f1.type)) = some y1 ∧ DataW.trod enc P W base sp held n f2.type ((cs.drop f2.offset).take (P.cellsOf f2.type)) = some y2 ∧
      DataW.trod enc P W base sp held n f3.type ((cs.drop f3.offset).take (P.cellsOf f3.type)) = some y3 ∧ DataW.trod enc P W base sp held n f4.type ((cs.drop f4.offset).take (P.cellsOf f4.type)) = some y4 ∧
      DataW.trod enc P W base sp held n f5.type ((cs.drop f5.offset).take (P.cellsOf f5.type)) = some y5 ∧ DataW.trod enc P W base sp held n f6.type ((cs.drop f6.offset).take (P.cellsOf f6.type)) = some y6 := by
  obtain ⟨xs, n, _, rfl, hl, hlen, hf⟩ := DataW.trod_struct ht h
  match xs, hlen with
  | [y0, y1, y2, y3, y4, y5, y6], _ => exact ⟨y0, y1, y2, y3, y4, y5, y6, n, by simp, hl, by simpa using hf 0 f0 rfl, by simpa using hf 1 f1 rfl, by simpa using hf 2 f2 rfl, by simpa using hf 3 f3 rfl, by simpa using hf 4 f4 rfl, by simpa using hf 5 f5 rfl, by simpa using hf 6 f6 rfl⟩
set_option maxRecDepth 100000 in
theorem nums_open {fuel : Nat} {cs : List Value} {x : DataW H × List MemPlace} (h : DataW.trod enc Tryd.prog W base sp held fuel 48 cs = some x) (hz : ∀ q ∈ x.1.weights Tryd.prog 48, q ≤ reachBytes) :
    ∃ (A : Option Addr) (n c : Nat) (xs : List Int), cs = [.slice A n c] ∧ Nums W A n xs ∧ (∀ x ∈ xs, I64 x) ∧ n ≤ 17592186044416 ∧ n ≤ c := by
  rcases Deep.open_slice1 Tryd.underlying48 cells_int h with ⟨rfl, rfl⟩ | ⟨a, len, cap, m, fu, V, D, Pl, rfl, hb, hl, hm, hmm, rfl, hx⟩
  · exact ⟨none, 0, 0, [], rfl, ⟨rfl, fun j x hj => by simp at hj⟩, (fun x hx => by simp at hx), by omega, Nat.le_refl _⟩
  · have hle : len ≤ m := by rw [hmm]; split <;> omega
    have hlen : len ≤ 17592186044416 := by
      have h1 := hz ((((List.range len).map D).length + ((List.range (m - len)).map fun j => D (len + j)).length) * Tryd.prog.bytesOf 3) (by
        simp only [DataW.weights, Tryd.underlying48]
        exact List.mem_cons_self)
      simp only [List.length_map, List.length_range, bytes_int] at h1
      unfold reachBytes at h1
      omega
    obtain ⟨q, hq⟩ := Deep.choose_lt (α := Int) (n := len) (p := fun i y => W.cell? (a.add i) = some (.int .i64 y) ∧ I64 y) (fun i hi => by
      obtain ⟨h1, h2⟩ := hx i (by omega)
      obtain ⟨z, e1, _, wz⟩ := DataW.trod_int Tryd.underlying3 h2
      simp only [List.cons.injEq, and_true] at e1
      exact ⟨z, by rw [h1, e1], i64_of_wf wz⟩)
    refine ⟨some a, len, cap, (List.range len).map q, rfl, ⟨by simp, fun j x hj => ⟨a, rfl, ?_⟩⟩, fun y hy => ?_, hlen, hl⟩
    · have hjl : j < len := by
        by_cases hjl : j < len
        · exact hjl
        · rw [List.getElem?_eq_none (by simp; omega)] at hj; simp at hj
      rw [List.getElem?_map, List.getElem?_range hjl] at hj
      simp only [Option.map_some, Option.some.injEq] at hj
      rw [← hj]
      exact (hq j hjl).1
    · obtain ⟨i, hi, rfl⟩ := List.mem_map.1 hy
      exact (hq i (List.mem_range.1 hi)).2
theorem id_open {fuel : Nat} {cs : List Value} {x : DataW H × List MemPlace} (h : DataW.trod enc Tryd.prog W base sp held fuel 47 cs = some x) : ∃ a b : Int, cs = [.int .i64 a, .int .i64 b] ∧ I64 a ∧ I64 b := by
  obtain ⟨r, hl, rfl, hi⟩ := ints_open (fs := _) Tryd.underlying47 (by
    intro i f hf
    match i, hf with
    | 0, hf => cases hf; exact ⟨rfl, rfl⟩
    | 1, hf => cases hf; exact ⟨rfl, rfl⟩
    | i + 2, hf => simp at hf) cells_id h
  match r, hl with
  | [a, b], _ => exact ⟨a, b, rfl, hi a (by simp), hi b (by simp)⟩
set_option maxRecDepth 100000 in
theorem op_open {fuel : Nat} {cs : List Value} {x : DataW H × List MemPlace} (h : DataW.trod enc Tryd.prog W base sp held fuel 50 cs = some x) (hz : ∀ q ∈ x.1.weights Tryd.prog 50, q ≤ reachBytes) :
    ∃ b : OpS, cs = b.vals ∧ OpOk W b := by
  obtain ⟨y0, y1, y2, y3, y4, y5, y6, n, hx, hl, h0, h1, h2, h3, h4, h5, h6⟩ := trod_struct7 Tryd.underlying50 h
  rw [hx] at hz
  clear hx
  rw [cells_op] at hl
  match cs, hl with
  | [c0, c1, c2, c3, c4, c5, c6, c7, c8], _ =>
    simp only [cells_int, cells_id, cells_ints, List.drop_zero, List.drop_succ_cons, List.take_succ_cons, List.take_zero] at h0 h1 h2 h3 h4 h5 h6
    obtain ⟨z0, e0, _, w0⟩ := DataW.trod_int Tryd.underlying3 h0
    obtain ⟨t, si, e1, wt, wsi⟩ := id_open h1
    obtain ⟨t0, s0, e2, wt0, ws0⟩ := id_open h2
    obtain ⟨z3, e3, _, w3⟩ := DataW.trod_int Tryd.underlying3 h3
    obtain ⟨z4, e4, _, w4⟩ := DataW.trod_int Tryd.underlying3 h4
    obtain ⟨z5, e5, _, w5⟩ := DataW.trod_int Tryd.underlying3 h5
    obtain ⟨A, m, c, xs, e6, hN, hI, hm, hmc⟩ := nums_open h6 (fun q hq => hz q (by
      simp only [DataW.weights, Tryd.underlying50, List.map_cons, List.map_nil, DataW.weightsEach, List.mem_append]
      exact Or.inr (Or.inr (Or.inr (Or.inr (Or.inr (Or.inr (Or.inl hq))))))))
    simp only [List.cons.injEq, and_true] at e0 e1 e2 e3 e4 e5 e6
    obtain ⟨g1, g2⟩ := e1
    obtain ⟨g3, g4⟩ := e2
    exact ⟨⟨⟨z0, t, si, t0, s0, z3, z4, z5, xs⟩, A, m, c⟩, by unfold OpS.vals; rw [e0, g1, g2, g3, g4, e3, e4, e5, e6], hN, hI, hm, hmc, i64_of_wf w0, wt, wsi, wt0, ws0, i64_of_wf w3, i64_of_wf w4, i64_of_wf w5⟩
set_option maxRecDepth 100000 in
theorem ops_open {fuel : Nat} {cs : List Value} {x : DataW H × List MemPlace} (h : DataW.trod enc Tryd.prog W base sp held fuel 23 cs = some x) (hz : ∀ q ∈ x.1.weights Tryd.prog 23, q ≤ reachBytes) :
    ∃ (A : Option Addr) (n c : Nat) (al : List OpS), cs = [.slice A n c] ∧ OpsM W A n al ∧ n ≤ 140737488351232 ∧ Cp A n c := by
  rcases Deep.open_slice Tryd.underlying23 h with ⟨rfl, rfl⟩ | ⟨a, len, cap, m, fu, D, Pl, rfl, hb, hl, hm, hmm, rfl, hx⟩
  · exact ⟨none, 0, 0, [], rfl, ⟨rfl, fun j x hj => by simp at hj⟩, by omega, Nat.le_refl _, fun _ => rfl⟩
  · have hle : len ≤ m := by rw [hmm]; split <;> omega
    have hw : DataW.weights Tryd.prog 23 (DataW.slice ((List.range len).map D) ((List.range (m - len)).map fun j => D (len + j))) =
        (((List.range len).map D).length + ((List.range (m - len)).map fun j => D (len + j)).length) * Tryd.prog.bytesOf 50 :: (DataW.weightsAll Tryd.prog 50 ((List.range len).map D) ++ DataW.weightsAll Tryd.prog 50 ((List.range (m - len)).map fun j => D (len + j))) := by
      simp only [DataW.weights, Tryd.underlying23]
    have hlen : len ≤ 140737488351232 := by
      have h1 := hz _ (by rw [hw]; exact List.mem_cons_self)
      simp only [List.length_map, List.length_range] at h1
      unfold reachBytes at h1
      have := Nat.le_mul_of_pos_right (len + (m - len)) (show 0 < Tryd.prog.bytesOf 50 from bytes_op)
      omega
    obtain ⟨q, hq⟩ := Deep.choose_lt (α := OpS) (n := len) (p := fun k b => Op9 W (a.add (k * 9)) b ∧ OpOk W b) (fun i hi => by
      obtain ⟨cs', h1, h2⟩ := hx i (by omega)
      rw [cells_op] at h1
      obtain ⟨b, rfl, hN⟩ := op_open h2 (fun q hq => hz q (by
        rw [hw]
        exact List.mem_cons_of_mem _ (List.mem_append_left _ (mem_weightsAll (List.mem_map.2 ⟨i, List.mem_range.2 hi, rfl⟩) hq))))
      obtain ⟨_, _, hc⟩ := World.cells?_some h1
      have g0 := hc 0 (by omega)
      have g1 := hc 1 (by omega)
      have g2 := hc 2 (by omega)
      have g3 := hc 3 (by omega)
      have g4 := hc 4 (by omega)
      have g5 := hc 5 (by omega)
      have g6 := hc 6 (by omega)
      have g7 := hc 7 (by omega)
      have g8 := hc 8 (by omega)
      rw [addr_far _ 1 (by omega)] at g1
      rw [addr_far _ 2 (by omega)] at g2
      rw [addr_far _ 3 (by omega)] at g3
      rw [addr_far _ 4 (by omega)] at g4
      rw [addr_far _ 5 (by omega)] at g5
      rw [addr_far _ 6 (by omega)] at g6
      rw [addr_far _ 7 (by omega)] at g7
      rw [addr_far _ 8 (by omega)] at g8
      exact ⟨b, ⟨by simpa [Addr.add, OpS.vals] using g0, g1, g2, g3, g4, g5, g6, g7, g8⟩, hN⟩)
    refine ⟨some a, len, cap, (List.range len).map q, rfl, ⟨by simp, fun k b hk => ?_⟩, hlen, hl, fun h => by cases h⟩
    have hkl : k < len := by
      by_cases hkl : k < len
      · exact hkl
      · rw [List.getElem?_eq_none (by simp; omega)] at hk; simp at hk
    rw [List.getElem?_map, List.getElem?_range hkl] at hk
    simp only [Option.map_some, Option.some.injEq] at hk
    rw [← hk]
    obtain ⟨k0, k1⟩ := hq k hkl
    exact ⟨⟨a, rfl, k0⟩, k1⟩
end
end Go.Proofs.YtlminkbaafjloaaDoor
