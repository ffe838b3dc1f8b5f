/-
  SLICES OF STRUCTS OF NUMBERS, OPENED: row by row, cell by cell.
  AN ASK OF MOTIONS, OPENED: texts and others; commands, what was sought, marks.
  MARKS: the reference's comparison of two slices of them.
  MARKS: the reference's copy of a slice of them.
-/
import Derived.Test.YtbofjefblhnkoaaGreatDoorZMc
import Derived.Deep.Strs
import Derived.Maps.AppendAt
set_option linter.unusedVariables false
namespace Go.Proofs.YtbofjefblhnkoaaGreatDoor
open Go Go.RowKit Go.ChangeShapes Go.WideShapes Go.ChangeAt

theorem addr_blk (x : Addr) (j : Nat) : (x.add j).block = x.block := by unfold Addr.add; split <;> rfl
/-- A slice of structs of k numbers each. -/
def Rws (w : World) (A : Option Addr) (n k : Nat) (rows : List (List Int)) : Prop :=
  rows.length = n ∧ ∀ i r, rows[i]? = some r → r.length = k ∧ (∀ x ∈ r, I64 x) ∧ ∃ ad, A = some ad ∧ ∀ f x, r[f]? = some x → w.cell? ((ad.add (i * k)).add f) = some (.int .i64 x)
theorem Rws.kept {w w' : World} {S : Nat → Prop} {A : Option Addr} {n k : Nat} {rows : List (List Int)} (h : Rws w A n k rows) (hk : Kept S w w') (hS : ∀ a, A = some a → ¬ S a.block) : Rws w' A n k rows := by
  refine ⟨h.1, fun i r hi => ?_⟩
  obtain ⟨h1, h2, ad, e, hc⟩ := h.2 i r hi
  refine ⟨h1, h2, ad, e, fun f x hf => cell_kept hk (hc f x hf) ?_⟩
  rw [addr_blk, addr_blk]
  exact hS ad e
theorem Rws.row {w : World} {A : Option Addr} {n k : Nat} {rows : List (List Int)} (h : Rws w A n k rows) {i : Nat} (hi : i < n) : ∃ ad r, A = some ad ∧ rows[i]? = some r ∧ r.length = k ∧ (∀ x ∈ r, I64 x) ∧ ∀ f x, r[f]? = some x → w.cell? ((ad.add (i * k)).add f) = some (.int .i64 x) := by
  have hl : i < rows.length := by rw [h.1]; exact hi
  obtain ⟨h1, h2, ad, e, hc⟩ := h.2 i rows[i] (List.getElem?_eq_getElem hl)
  exact ⟨ad, rows[i], e, List.getElem?_eq_getElem hl, h1, h2, hc⟩
section
variable {H : Type} {enc : TypeId × Value → H} {W : World} {base : Nat} {sp : Nat → Bool} {held : Bool}
set_option maxRecDepth 100000 in
theorem rows_open {t e : TypeId} {k : Nat} (ht : Tryz.prog.underlying t = some (.slice e)) (hk : Tryz.prog.cellsOf e = k) (hb : 1 ≤ Tryz.prog.bytesOf e)
    (he : ∀ fuel cs x, DataW.trod enc Tryz.prog W base sp held fuel e cs = some x → ∃ r : List Int, r.length = k ∧ cs = r.map (Value.int .i64) ∧ ∀ y ∈ r, I64 y)
    {fuel : Nat} {cs : List Value} {x : DataW H × List MemPlace} (h : DataW.trod enc Tryz.prog W base sp held fuel t cs = some x) (hz : ∀ q ∈ x.1.weights Tryz.prog t, q ≤ reachBytes) :
    ∃ (A : Option Addr) (n c : Nat) (rows : List (List Int)), cs = [.slice A n c] ∧ Rws W A n k rows ∧ n ≤ 140737488351232 := by
  rcases Deep.open_slice ht h with ⟨rfl, rfl⟩ | ⟨a, len, cap, m, fu, D, Pl, rfl, hba, hl, hm, hmm, rfl, hx⟩
  · exact ⟨none, 0, 0, [], rfl, ⟨rfl, fun j x hj => by simp at hj⟩, by omega⟩
  · have hle : len ≤ m := by rw [hmm]; split <;> omega
    have hlen : len ≤ 140737488351232 := by
      have h1 := hz ((((List.range len).map D).length + ((List.range (m - len)).map fun j => D (len + j)).length) * Tryz.prog.bytesOf e) (by
        simp only [DataW.weights, ht]
        exact List.mem_cons_self)
      simp only [List.length_map, List.length_range] at h1
      unfold reachBytes at h1
      have := Nat.le_mul_of_pos_right (len + (m - len)) (show 0 < Tryz.prog.bytesOf e by omega)
      omega
    obtain ⟨q, hq⟩ := Deep.choose_lt (α := List Int) (n := len) (p := fun i r => r.length = k ∧ (∀ y ∈ r, I64 y) ∧ ∀ f y, r[f]? = some y → W.cell? ((a.add (i * k)).add f) = some (.int .i64 y)) (fun i hi => by
      obtain ⟨cs', h1, h2⟩ := hx i (by omega)
      obtain ⟨r, hr, rfl, hri⟩ := he _ _ _ h2
      rw [hk] at h1
      obtain ⟨_, _, hc⟩ := World.cells?_some h1
      refine ⟨r, hr, hri, fun f y hf => ?_⟩
      have hfl : f < k := by
        rw [← hr]
        by_cases hfl : f < r.length
        · exact hfl
        · rw [List.getElem?_eq_none (by omega)] at hf; cases hf
      rw [hc f hfl, List.getElem?_map, hf]
      rfl)
    refine ⟨some a, len, cap, (List.range len).map q, rfl, ⟨by simp, fun i r hi => ?_⟩, hlen⟩
    have hil : i < len := by
      by_cases hil : i < len
      · exact hil
      · rw [List.getElem?_eq_none (by simp; omega)] at hi; simp at hi
    rw [List.getElem?_map, List.getElem?_range hil] at hi
    simp only [Option.map_some, Option.some.injEq] at hi
    rw [← hi]
    obtain ⟨k0, k1, k2⟩ := hq i hil
    exact ⟨k0, k1, a, rfl, k2⟩
/-- A struct of numbers. -/
theorem ints_open {fs : List Field} {fuel : Nat} {t : TypeId} {cs : List Value} {x : DataW H × List MemPlace} (ht : Tryz.prog.underlying t = some (.struct fs.toArray)) (hf : ∀ (i : Nat) (f : Field), fs[i]? = some f → f.type = 3 ∧ f.offset = i) (hc : Tryz.prog.cellsOf t = fs.length)
    (h : DataW.trod enc Tryz.prog W base sp held fuel t cs = some x) : ∃ r : List Int, r.length = fs.length ∧ cs = r.map (Value.int .i64) ∧ ∀ y ∈ r, I64 y := by
  obtain ⟨xs, n, _, rfl, hl, hlen, hfs⟩ := DataW.trod_struct ht h
  rw [hc] at hl
  obtain ⟨q, hq⟩ := Deep.choose_lt (α := Int) (n := cs.length) (p := fun i y => cs[i]? = some (.int .i64 y) ∧ I64 y) (fun i hi => by
    have hfi : fs[i]? = some fs[i] := List.getElem?_eq_getElem (by omega)
    obtain ⟨e1, e2⟩ := hf i _ hfi
    have h1 := hfs i fs[i] (by simp)
    rw [List.getElem?_eq_getElem (by simp at hlen; omega)] at h1
    rw [e1, e2, cells_int] at h1
    obtain ⟨z, ez, _, wz⟩ := DataW.trod_int Tryz.underlying3 h1
    refine ⟨z, ?_, i64_of_wf wz⟩
    have := congrArg (fun l => l[0]?) ez
    simpa [List.getElem?_take, List.getElem?_drop] using this)
  refine ⟨(List.range cs.length).map q, by simp [hl], ?_, fun y hy => ?_⟩
  · apply List.ext_getElem?
    intro i
    by_cases hi : i < cs.length
    · rw [(hq i hi).1, List.getElem?_map, List.getElem?_map, List.getElem?_range hi]
      rfl
    · rw [List.getElem?_eq_none (by omega), List.getElem?_eq_none (by simp; omega)]
  · obtain ⟨i, hi, rfl⟩ := List.mem_map.1 hy
    exact (hq i (List.mem_range.1 hi)).2
end
end Go.Proofs.YtbofjefblhnkoaaGreatDoor
namespace Go.Proofs.YtbofjefblhnkoaaGreatDoor
open Go Go.RowKit Go.ChangeShapes Go.WideShapes Go.ChangeAt

theorem cells_cmd : Tryz.prog.cellsOf 46 = 6 := by kernel_rfl
theorem cells_cmds : Tryz.prog.cellsOf 29 = 1 := by kernel_rfl
theorem cells_mark : Tryz.prog.cellsOf 62 = 2 := by kernel_rfl
theorem cells_marks : Tryz.prog.cellsOf 32 = 1 := by kernel_rfl
theorem cells_seek : Tryz.prog.cellsOf 31 = 2 := by kernel_rfl
theorem cells_ask16 : Tryz.prog.cellsOf 34 = 12 := by kernel_rfl
theorem bytes_cmd : 1 ≤ Tryz.prog.bytesOf 46 := by rw [show Tryz.prog.bytesOf 46 = 48 by kernel_rfl]; decide
theorem bytes_mark : 1 ≤ Tryz.prog.bytesOf 62 := by rw [show Tryz.prog.bytesOf 62 = 16 by kernel_rfl]; decide
section
variable {H : Type} {enc : TypeId × Value → H} {W : World} {base : Nat} {sp : Nat → Bool} {held : Bool}
theorem cmd_open {fuel : Nat} {cs : List Value} {x : DataW H × List MemPlace} (h : DataW.trod enc Tryz.prog W base sp held fuel 46 cs = some x) : ∃ r : List Int, r.length = 6 ∧ cs = r.map (Value.int .i64) ∧ ∀ y ∈ r, I64 y :=
  ints_open (fs := _) Tryz.underlying46 (by
    intro i f hf
    match i, hf with
    | 0, hf => cases hf; exact ⟨rfl, rfl⟩
    | 1, hf => cases hf; exact ⟨rfl, rfl⟩
    | 2, hf => cases hf; exact ⟨rfl, rfl⟩
    | 3, hf => cases hf; exact ⟨rfl, rfl⟩
    | 4, hf => cases hf; exact ⟨rfl, rfl⟩
    | 5, hf => cases hf; exact ⟨rfl, rfl⟩
    | i + 6, hf => simp at hf) cells_cmd h
theorem mark_open {fuel : Nat} {cs : List Value} {x : DataW H × List MemPlace} (h : DataW.trod enc Tryz.prog W base sp held fuel 62 cs = some x) : ∃ r : List Int, r.length = 2 ∧ cs = r.map (Value.int .i64) ∧ ∀ y ∈ r, I64 y :=
  ints_open (fs := _) Tryz.underlying62 (by
    intro i f hf
    match i, hf with
    | 0, hf => cases hf; exact ⟨rfl, rfl⟩
    | 1, hf => cases hf; exact ⟨rfl, rfl⟩
    | i + 2, hf => simp at hf) cells_mark h
set_option maxRecDepth 100000 in
/-- An ask within another: its cells. -/
theorem ask10_cells {fuel : Nat} {cs : List Value} {x : DataW H × List MemPlace} (hf : DataW.trod enc Tryz.prog W base sp held fuel 28 cs = some x) (hz : ∀ q ∈ x.1.weights Tryz.prog 28, q ≤ reachBytes) :
    ∃ (A : Option Addr) (n c : Nat) (ss : List ByteArray) (xa xb xr xc xk xn xq : Int), cs = [.slice A n c, .int .i64 xa, .int .i64 xb, .int .i64 xr, .int .i64 xc, .int .i64 xk, .int .i64 xn, .int .i64 xq] ∧
      Strs W A n ss ∧ n ≤ 8796093022208 ∧ I64 xa ∧ I64 xb ∧ I64 xr ∧ I64 xc ∧ I64 xk ∧ I64 xn ∧ I64 xq := by
  obtain ⟨y0, y1, y2, y3, n, hx, hsz, h0, h1, h2, h3⟩ := Joins.trod_struct4 Tryz.underlying28 hf
  rw [cells_ask10] at hsz
  subst hx
  match cs, hsz with
  | [c0, c1, c2, c3, c4, c5, c6, c7], _ =>
    simp only [cells_int, cells_ask1, List.drop_zero, List.drop_succ_cons, List.take_succ_cons, List.take_zero] at h0 h1 h2 h3
    obtain ⟨z5, e5, _, w5⟩ := DataW.trod_int Tryz.underlying3 h1
    obtain ⟨z6, e6, _, w6⟩ := DataW.trod_int Tryz.underlying3 h2
    obtain ⟨z7, e7, _, w7⟩ := DataW.trod_int Tryz.underlying3 h3
    obtain ⟨x0, x1, x2, x3, n', hx', _, k0, k1, k2, k3⟩ := Joins.trod_struct4 Tryz.underlying26 h0
    subst hx'
    simp only [cells_int, cells_strings, cells_pos, List.drop_zero, List.drop_succ_cons, List.take_succ_cons, List.take_zero] at k0 k1 k2 k3
    obtain ⟨z1, e1, _, w1⟩ := DataW.trod_int Tryz.underlying3 k1
    obtain ⟨z2, e2, _, w2⟩ := DataW.trod_int Tryz.underlying3 k2
    obtain ⟨u0, u1, n2, hx2, _, j0, j1⟩ := trod_struct2 Tryz.underlying24 k3
    simp only [cells_int, List.drop_zero, List.drop_succ_cons, List.take_succ_cons, List.take_zero] at j0 j1
    obtain ⟨z3, e3, _, w3⟩ := DataW.trod_int Tryz.underlying3 j0
    obtain ⟨z4, e4, _, w4⟩ := DataW.trod_int Tryz.underlying3 j1
    obtain ⟨A, m, c, ss, e0, hS, hm⟩ := strs_open k0 (fun q hq => hz q (by
      simp only [DataW.weights, Tryz.underlying28, Tryz.underlying26, List.map_cons, List.map_nil, DataW.weightsEach, List.mem_append]
      exact Or.inl (Or.inl hq)))
    simp only [List.cons.injEq, and_true] at e0 e1 e2 e3 e4 e5 e6 e7
    exact ⟨A, m, c, ss, z1, z2, z3, z4, z5, z6, z7, by rw [e0, e1, e2, e3, e4, e5, e6, e7], hS, hm, i64_of_wf w1, i64_of_wf w2, i64_of_wf w3, i64_of_wf w4, i64_of_wf w5, i64_of_wf w6, i64_of_wf w7⟩
end
/-- An ask of motions, as it lies in memory. -/
structure AskM where
  w : AskV
  B : Option Addr
  bn : Nat
  bc : Nat
  cmds : List (List Int)
  k1 : Int
  k2 : Int
  M : Option Addr
  mn : Nat
  mc : Nat
  marks : List (List Int)
def AskM.cells (p : AskM) : Array Value := #[.slice p.w.A p.w.n p.w.c, .int .i64 p.w.xa, .int .i64 p.w.xb, .int .i64 p.w.xr, .int .i64 p.w.xc, .int .i64 p.w.xk, .int .i64 p.w.xn, .int .i64 p.w.xq, .slice p.B p.bn p.bc, .int .i64 p.k1, .int .i64 p.k2, .slice p.M p.mn p.mc]
/-- It reads as it should. -/
structure AskMOk (W : World) (p : AskM) : Prop where
  w : AskOk W p.w
  cmds : Rws W p.B p.bn 6 p.cmds
  bn : p.bn ≤ 140737488351232
  k1 : I64 p.k1
  k2 : I64 p.k2
  marks : Rws W p.M p.mn 2 p.marks
  mn : p.mn ≤ 140737488351232
theorem AskMOk.kept {w w' : World} {p : AskM} (h : AskMOk w p) (hk : Kept (fun _ => False) w w') : AskMOk w' p := ⟨h.w.kept hk, h.cmds.kept hk (fun _ _ => id), h.bn, h.k1, h.k2, h.marks.kept hk (fun _ _ => id), h.mn⟩
section
variable {H : Type} {enc : TypeId × Value → H} {W : World} {base : Nat} {sp : Nat → Bool} {held : Bool}
set_option maxRecDepth 100000 in
/-- A parameter of that type. -/
theorem ask16_open {r : Reach} {b0 : Nat} {v : Value} {d : DataW H} {p : List MemPlace} (hv : Value.okWide Tryz.prog W r b0 34 v) (h : DataW.Trod enc Tryz.prog W base sp held 34 v d p)
    (hz : ∀ q ∈ d.weights Tryz.prog 34, q ≤ reachBytes) : ∃ a : AskM, v = .agg a.cells ∧ AskMOk W a := by
  obtain ⟨cs, rfl, hsz⟩ := okWide_struct Tryz.underlying34 hv
  rw [cells_ask16] at hsz
  obtain ⟨l⟩ := cs
  match l, hsz with
  | [c0, c1, c2, c3, c4, c5, c6, c7, c8, c9, c10, c11], _ =>
    obtain ⟨fuel, hf⟩ := h
    obtain ⟨y0, y1, y2, y3, n, hx, _, h0, h1, h2, h3⟩ := Joins.trod_struct4 Tryz.underlying34 hf
    simp only [Prod.mk.injEq] at hx
    obtain ⟨rfl, rfl⟩ := hx
    simp only [Value.cells, cells_ask10, cells_cmds, cells_seek, cells_marks, List.drop_zero, List.drop_succ_cons, List.take_succ_cons, List.take_zero] at h0 h1 h2 h3
    obtain ⟨A, nn, c, ss, xa, xb, xr, xc, xk, xn, xq, e0, hS, hn, w1, w2, w3, w4, w5, w6, w7⟩ := ask10_cells h0 (fun q hq => hz q (by
      simp only [DataW.weights, Tryz.underlying34, List.map_cons, List.map_nil, DataW.weightsEach, List.mem_append]
      exact Or.inl hq))
    obtain ⟨B, bn, bc, cmds, e1, hB, hbn⟩ := rows_open Tryz.underlying29 cells_cmd bytes_cmd (fun _ _ _ h => cmd_open h) h1 (fun q hq => hz q (by
      simp only [DataW.weights, Tryz.underlying34, List.map_cons, List.map_nil, DataW.weightsEach, List.mem_append]
      exact Or.inr (Or.inl hq)))
    obtain ⟨M, mn, mc, marks, e3, hM, hmn⟩ := rows_open Tryz.underlying32 cells_mark bytes_mark (fun _ _ _ h => mark_open h) h3 (fun q hq => hz q (by
      simp only [DataW.weights, Tryz.underlying34, List.map_cons, List.map_nil, DataW.weightsEach, List.mem_append]
      exact Or.inr (Or.inr (Or.inr (Or.inl hq)))))
    obtain ⟨u0, u1, n2, hx2, _, j0, j1⟩ := trod_struct2 Tryz.underlying31 h2
    simp only [cells_int, List.drop_zero, List.drop_succ_cons, List.take_succ_cons, List.take_zero] at j0 j1
    obtain ⟨k1, f1, _, v1⟩ := DataW.trod_int Tryz.underlying3 j0
    obtain ⟨k2, f2, _, v2⟩ := DataW.trod_int Tryz.underlying3 j1
    simp only [List.cons.injEq, and_true] at e0 e1 e3 f1 f2
    obtain ⟨a0, a1, a2, a3, a4, a5, a6, a7⟩ := e0
    exact ⟨⟨⟨A, nn, c, ss, xa, xb, xr, xc, xk, xn, xq⟩, B, bn, bc, cmds, k1, k2, M, mn, mc, marks⟩, by
      unfold AskM.cells
      rw [a0, a1, a2, a3, a4, a5, a6, a7, e1, f1, f2, e3], ⟨⟨hS, hn, w1, w2, w3, w4, w5, w6, w7⟩, hB, hbn, i64_of_wf v1, i64_of_wf v2, hM, hmn⟩⟩
end
/-- The block of a parameter of that type. -/
def PM (w : World) (pb : Nat) (p : AskM) : Prop := w.heap[pb]? = some (.cells p.cells 34 (0, 0))
theorem PM.kept {T : Nat → Prop} {w w' : World} {pb : Nat} {p : AskM} (h : PM w pb p) (hk : Kept T w w') (hs : ¬ T pb) : PM w' pb p := (hk.block pb (heap_lt h) hs).trans h
theorem PM.c {w : World} {pb : Nat} {p : AskM} (h : PM w pb p) (i : Nat) : w.cell? ⟨pb, i, none⟩ = p.cells[i]? := cell_of_row w pb i _ _ _ h
/-- What a law's loops hold of every world. -/
structure HeldM (w : World) (pb : Nat) (p : AskM) : Prop where
  pb : PM w pb p
  ask : AskMOk w p
theorem HeldM.kept {w w' : World} {pb : Nat} {p : AskM} (h : HeldM w pb p) (hk : Kept (fun _ => False) w w') : HeldM w' pb p := ⟨h.pb.kept hk id, h.ask.kept hk⟩
set_option maxRecDepth 100000 in
theorem heavy16_any (p : AskM) (w : World) (h : AskMOk w p) :
    Calls Tryz.prog 5 #[.agg p.cells] w fun e w' => (∃ b : Bool, e = .returned (.bool b) ∧ (b = false → (∀ s ∈ p.w.ss, s.size ≤ 6000) ∧ p.bn + p.mn ≤ 200)) ∧ Kept (fun _ => False) w w' := by
  have hK0 : Hid (Kept (fun _ => False) w (w.alloc (.cells p.cells 34))) := (Kept.refl _ w).alloc _
  have hP0 : Hid (PM (w.alloc (.cells p.cells 34)) w.heap.size p) := heap_alloc_new w _
  have hbn := h.bn
  have hmn := h.mn
  have cT := heavy10_any p.w (w.alloc (.cells p.cells 34)) (h.w.kept hK0.out)
  clear h
  obtain ⟨⟨A, n, c, ss, xa, xb, xr, xc, xk, xn, xq⟩, B, bn, bc, cmds, k1, k2, M, mn, mc, marks⟩ := p
  unfold AskM.cells AskV.cells at *
  simp only at *
  have e1 : IntKind.i64.wrap ((bn : Int) + (mn : Int)) = (bn : Int) + (mn : Int) := IntWalk.i64_in _ ⟨by omega, by omega⟩
  go_enter Tryz.func5, Tryz.ntmps5
  go_wp2_with (go_at_call 19; refine cT.mono ?_; rintro e w' ⟨⟨b, rfl, h3⟩, hk⟩; have H3 := Lib.hid h3; have HK := Lib.hid (hK0.out.trans hk); have c8 : w'.cell? ⟨w.heap.size, 8, none⟩ = some (.slice B bn bc) := (hP0.out.kept hk id).c 8; have c11 : w'.cell? ⟨w.heap.size, 11, none⟩ = some (.slice M mn mc) := (hP0.out.kept hk id).c 11; clear h3 hk)
  · have hb1 : b = true := by assumption
    go_ret
    exact ⟨⟨true, rfl, fun hb => by cases hb⟩, HK.out⟩
  · have hb1 : ¬ b = true := by assumption
    have hb2 : b = false := by simpa using hb1
    go_ret
    refine ⟨⟨_, rfl, fun hb => ⟨H3.out hb2, ?_⟩⟩, HK.out⟩
    simp at hb
    omega
end Go.Proofs.YtbofjefblhnkoaaGreatDoor
namespace Go.Proofs.YtbofjefblhnkoaaGreatDoor
open Go Go.RowKit

/-- A row of two numbers. -/
theorem Rws.two {w : World} {A : Option Addr} {n : Nat} {rows : List (List Int)} (h : Rws w A n 2 rows) {i : Nat} (hi : i < n) : ∃ ad x y, A = some ad ∧ rows[i]? = some [x, y] ∧ w.cell? (ad.add (i * 2)) = some (.int .i64 x) ∧ w.cell? ⟨(ad.add (i * 2)).block, (ad.add (i * 2)).off + 1, none⟩ = some (.int .i64 y) := by
  obtain ⟨ad, r, e, hr, hl, _, hc⟩ := h.row hi
  match r, hl with
  | [x, y], _ =>
    have h0 := hc 0 x rfl
    have h1 := hc 1 y rfl
    rw [addr_far _ 1 (by omega)] at h1
    exact ⟨ad, x, y, e, hr, by simpa [Addr.add] using h0, h1⟩
set_option maxRecDepth 100000 in
set_option maxHeartbeats 1000000 in
theorem eqmarks_yes (A B : Option Addr) (n c c' : Nat) (rows : List (List Int)) (w : World) (hA : Rws w A n 2 rows) (hB : Rws w B n 2 rows) (hn : n ≤ 100000) :
    Calls Tryz.prog 13 #[.slice A n c, .slice B n c'] w fun e w' => e = .returned (.bool true) ∧ Kept (fun _ => False) w w' := by
  have HA := Lib.hid hA
  have HB := Lib.hid hB
  clear hA hB
  go_enter Tryz.func13, Tryz.ntmps13
  go_wp2_with fail
  go_loopw [5] (fun v wr => ∃ k m : Nat, k ≤ n ∧ v = .int .i64 k ∧ wr = w.drewN m) (fun v _ => n - (intOf v).toNat)
  case atStart => exact ⟨0, 0, Nat.zero_le _, rfl, rfl⟩
  case round =>
    obtain ⟨k, m, hk, rfl, rfl⟩ := hrel
    by_cases hlt : k < n
    · obtain ⟨ad, x, y, rfl, hr, f0, f1⟩ := HA.out.two hlt
      obtain ⟨bd, x', y', rfl, hr', g0, g1⟩ := HB.out.two hlt
      rw [hr] at hr'
      injection hr' with hr'
      injection hr' with e1 e2
      injection e2 with e2 _
      subst e1
      subst e2
      have f0' : (w.drewN m).cell? (ad.add (k * 2)) = some (.int .i64 x) := f0
      have f1' : (w.drewN m).cell? ⟨(ad.add (k * 2)).block, (ad.add (k * 2)).off + 1, none⟩ = some (.int .i64 y) := f1
      have g0' : (w.drewN m).cell? (bd.add (k * 2)) = some (.int .i64 x) := g0
      have g1' : (w.drewN m).cell? ⟨(bd.add (k * 2)).block, (bd.add (k * 2)).off + 1, none⟩ = some (.int .i64 y) := g1
      have b1 : decide (k < n) = true := decide_eq_true hlt
      have b2 : decide ((k : Int) < (n : Int)) = true := decide_eq_true (by omega)
      have t1 : (0 : Int) ≤ (k : Int) := by omega
      have t2 : (k : Int) < (n : Int) := by omega
      clear hr
      go_wp2_with fail
      go_quiet (fail)
      go_wp2_with fail
      go_roundw
      case rel => exact ⟨k + 1, _, by omega, by go_num, rfl⟩
      case measure => simp [intOf] <;> omega
    · obtain rfl : k = n := by omega
      have b1 : decide (k < k) = false := decide_eq_false (by omega)
      have b2 : decide ((k : Int) < (k : Int)) = false := decide_eq_false (by omega)
      go_wp2_with fail
      go_ret
      exact ⟨rfl, (Kept.refl _ w).drewN m⟩
end Go.Proofs.YtbofjefblhnkoaaGreatDoor
namespace Go.Proofs.YtbofjefblhnkoaaGreatDoor
open Go Go.RowKit

theorem info_mark : (Tryz.prog.info? 62).map (fun i => (i.zero, i.size, i.bytes)) = some (some (.agg #[.int .i64 0, .int .i64 0]), 2, 16) := by kernel_rfl
theorem two_cells {W : World} {a b : Int} {ty : TypeId} : ∀ j u, ([Value.int .i64 a, .int .i64 b] : List Value)[j]? = some u → (W.alloc (.cells #[.int .i64 a, .int .i64 b] ty)).cell? ((⟨W.heap.size, 0, none⟩ : Addr).add j) = some u := by
  intro j u hj
  rw [addr_add, cell_of_row _ _ _ _ _ _ (heap_alloc_new W _)]
  match j, hj with
  | 0, hj => simpa using hj
  | 1, hj => simpa using hj
theorem two_one {a b : Int} : ∀ u ∈ ([Value.int .i64 a, .int .i64 b] : List Value), u.oneCell' = true := by
  intro u hu
  simp only [List.mem_cons, List.not_mem_nil, or_false] at hu
  rcases hu with rfl | rfl <;> rfl
/-- The cells of rows, one behind another. -/
def flat (rows : List (List Int)) : List Value := rows.flatten.map (Value.int .i64)
theorem flat_step {rows : List (List Int)} {k : Nat} {x y : Int} (h : rows[k]? = some [x, y]) : flat (rows.take (k + 1)) = flat (rows.take k) ++ [.int .i64 x, .int .i64 y] := by
  unfold flat
  rw [List.take_add_one, h]
  simp
theorem flat_get : ∀ {rows : List (List Int)} {i f : Nat} {r : List Int} {x : Int}, (∀ r ∈ rows, r.length = 2) → rows[i]? = some r → r[f]? = some x → (flat rows)[i * 2 + f]? = some (.int .i64 x)
  | [], i, f, r, x, _, h, _ => by simp at h
  | q :: rows, 0, f, r, x, hl, h, hx => by
    have hq := hl q List.mem_cons_self
    simp only [List.getElem?_cons_zero, Option.some.injEq] at h
    subst h
    have hf : f < q.length := by
      by_cases hf : f < q.length
      · exact hf
      · rw [List.getElem?_eq_none (by omega)] at hx; cases hx
    unfold flat
    rw [List.flatten_cons, List.map_append, List.getElem?_append_left (by simp; omega), List.getElem?_map]
    simp [hx]
  | q :: rows, i + 1, f, r, x, hl, h, hx => by
    have hq := hl q List.mem_cons_self
    have ih := flat_get (rows := rows) (i := i) (fun r hr => hl r (List.mem_cons_of_mem _ hr)) (by simpa using h) hx
    unfold flat at *
    rw [List.flatten_cons, List.map_append, List.getElem?_append_right (by simp; omega), List.length_map, hq, show (i + 1) * 2 + f - 2 = i * 2 + f by omega]
    exact ih
theorem owned_rows {w : World} {base : Nat} {v : Value} {n : Nat} {rows : List (List Int)} (h : w.ownsRow base 62 2 v n (flat rows)) (hx : rows.length = n) (hr : ∀ r ∈ rows, r.length = 2 ∧ ∀ x ∈ r, I64 x) : ∃ A c, v = .slice A n c ∧ Rws w A n 2 rows ∧ (∀ a, A = some a → base ≤ a.block) := by
  have hcells : ∀ g, v.ownBlock = some g → ∀ j u, (flat rows)[j]? = some u → w.cell? ((⟨g, 0, none⟩ : Addr).add j) = some u := fun g hg => h.cells hg
  rcases h.2 with ⟨rfl, rfl⟩ | ⟨g, cap, cur, rfl, hb, hh, hcap, _, _, _⟩
  · obtain rfl := List.eq_nil_of_length_eq_zero hx
    exact ⟨none, 0, rfl, ⟨rfl, fun j x hj => by simp at hj⟩, fun a ha => by cases ha⟩
  · refine ⟨_, cap, rfl, ⟨hx, fun i r hi => ?_⟩, fun a ha => by cases ha; exact hb⟩
    obtain ⟨h1, h2⟩ := hr r (List.mem_of_getElem? hi)
    refine ⟨h1, h2, _, rfl, fun f x hf => ?_⟩
    have := hcells g rfl (i * 2 + f) _ (flat_get (fun r hr' => (hr r hr').1) hi hf)
    rw [addr_add] at this ⊢
    rw [addr_add]
    simpa [Nat.add_assoc] using this
set_option maxRecDepth 100000 in
set_option maxHeartbeats 1000000 in
theorem copymarks_any (A : Option Addr) (n c : Nat) (rows : List (List Int)) (w : World) (hA : Rws w A n 2 rows) (hn : n ≤ 100000) :
    Calls Tryz.prog 7 #[.slice A n c] w fun e w' => (∃ B c', e = .returned (.slice B n c') ∧ Rws w' B n 2 rows ∧ ∀ a, B = some a → w.heap.size ≤ a.block) ∧ Kept (fun _ => False) w w' := by
  obtain ⟨i0, hi, hz0, hz1, hz2⟩ := info_parts info_mark
  have HA := Lib.hid hA
  clear hA
  go_enter Tryz.func7, Tryz.ntmps7
  go_wp2_with fail
  go_loopw [3, 4] (fun v i wr => ∃ k : Nat, k ≤ n ∧ i = .int .i64 k ∧ wr.ownsRow w.heap.size 62 2 v k (flat (rows.take k)) ∧ Kept (fun _ => False) w wr) (fun _ i _ => n - (intOf i).toNat)
  case atStart => exact ⟨0, Nat.zero_le _, rfl, World.ownsRow_nil _ _ _ _, Kept.refl _ _⟩
  case round =>
    obtain ⟨k, hk, rfl, hown, hkept⟩ := hrel
    have HK := Lib.hid hkept
    have hszk := hkept.size
    have HSZ := Lib.hid hszk
    clear hkept hszk
    by_cases hkn : k < n
    · obtain ⟨ad, x, y, rfl, hr, f0, f1⟩ := (HA.out.kept HK.out (fun _ _ => id)).two hkn
      have HST := Lib.hid (flat_step hr)
      obtain ⟨xs, hxs⟩ : ∃ xs, flat (rows.take k) = xs := ⟨_, rfl⟩
      rw [hxs] at hown
      have HXS := Lib.hid hxs
      have b1 : decide (k < n) = true := decide_eq_true hkn
      have b2 : decide ((k : Int) < (n : Int)) = true := decide_eq_true (by omega)
      have t1 : (0 : Int) ≤ (k : Int) := by omega
      have t2 : (k : Int) < (n : Int) := by omega
      clear hr hxs
      go_wp2_with (first
        | fail
        | (at_builtin; refine wpList_append_own_at _ rfl (.tmp 11) (.tmp 16) 32 rfl w.heap.size 62 i0 (.agg #[.int .i64 0, .int .i64 0]) 2 16 Tryz.underlying32 hi hz0 hz1 hz2 rfl (by decide) _ _ _ rfl (hown.alloc _) ⟨_, 0, none⟩ 1 1 [.int .i64 x, .int .i64 y] rfl rfl two_cells two_one (by unfold maxLen; omega) (by omega) (by have := HSZ.out; simp; omega) ?_; intro v' w4 hown' hgrow _ hat; have HK4 := Lib.hid (Kept.grew (HK.out.alloc _) hgrow (fun b hb => (hown.lt b hb).1)); have HO4 := Lib.hid hown'; clear hown' hgrow hat))
      go_roundw
      case rel => exact ⟨k + 1, by omega, by go_num, by rw [HST.out, HXS.out]; exact HO4.out, HK4.out⟩
      case measure => simp [intOf] <;> omega
    · obtain rfl : k = n := by omega
      have b1 : decide (k < k) = false := decide_eq_false (by omega)
      have b2 : decide ((k : Int) < (k : Int)) = false := decide_eq_false (by omega)
      rw [List.take_of_length_le (by rw [HA.out.1]; exact Nat.le_refl _)] at hown
      obtain ⟨B, c', rfl, hN, hbs⟩ := owned_rows hown HA.out.1 (fun r hr => by
        obtain ⟨i, hi, rfl⟩ := List.getElem_of_mem hr
        obtain ⟨h1, h2, _⟩ := HA.out.2 i _ (List.getElem?_eq_getElem hi)
        exact ⟨h1, h2⟩)
      have HN := Lib.hid hN
      have HBS := Lib.hid hbs
      clear hN hown hbs
      go_wp2_with fail
      go_ret
      exact ⟨⟨B, c', rfl, HN.out, HBS.out⟩, HK.out⟩
end Go.Proofs.YtbofjefblhnkoaaGreatDoor
