/-
  A SCRIPT OF MARKS, OPENED: marks, and what is done with them.
-/
import Derived.Test.YtknoiehglfpepaaDoorRws
import Derived.Test.YtknoiehglfpepaaDoorAo1n
set_option linter.unusedVariables false
namespace Go.Proofs.YtknoiehglfpepaaDoor
open Go Go.RowKit Go.ChangeShapes Go.WideShapes Go.ChangeAt

abbrev patO (a d : Int) (s : ByteArray) : Obj := .cells #[.int .i64 a, .int .i64 d, .string s] 29
abbrev patV (a d : Int) (s : ByteArray) : Value := .agg #[.int .i64 a, .int .i64 d, .string s]
theorem cells_pat : Tryd.prog.cellsOf 29 = 3 := by kernel_rfl
theorem cells_mark : Tryd.prog.cellsOf 61 = 2 := by kernel_rfl
theorem cells_marks : Tryd.prog.cellsOf 22 = 1 := by kernel_rfl
theorem cells_act : Tryd.prog.cellsOf 31 = 6 := by kernel_rfl
theorem cells_acts : Tryd.prog.cellsOf 23 = 1 := by kernel_rfl
theorem cells_scr : Tryd.prog.cellsOf 25 = 2 := by kernel_rfl
theorem bytes_mark : 1 ≤ Tryd.prog.bytesOf 61 := by rw [show Tryd.prog.bytesOf 61 = 16 by kernel_rfl]; decide
theorem bytes_act : Tryd.prog.bytesOf 31 = 56 := by kernel_rfl
/-- An act, as it lies in memory. -/
structure ActS where
  k : Int
  nm : Int
  pl : Int
  a : Int
  d : Int
  s : ByteArray
instance : Inhabited ActS := ⟨⟨0, 0, 0, 0, 0, .empty⟩⟩
def ActS.good (b : ActS) : Prop := I64 b.k ∧ I64 b.nm ∧ I64 b.pl ∧ I64 b.a ∧ I64 b.d ∧ b.s.size ≤ 140737488351232
/-- A slice of acts. -/
def ActsM (w : World) (A : Option Addr) (n : Nat) (al : List ActS) : Prop :=
  al.length = n ∧ ∀ k b, al[k]? = some b → (∃ ad, A = some ad ∧ w.cell? (ad.add (k * 6)) = some (.int .i64 b.k) ∧ w.cell? ⟨(ad.add (k * 6)).block, (ad.add (k * 6)).off + 1, none⟩ = some (.int .i64 b.nm) ∧
    w.cell? ⟨(ad.add (k * 6)).block, (ad.add (k * 6)).off + 2, none⟩ = some (.int .i64 b.pl) ∧ w.cell? ⟨(ad.add (k * 6)).block, (ad.add (k * 6)).off + 3, none⟩ = some (.int .i64 b.a) ∧
    w.cell? ⟨(ad.add (k * 6)).block, (ad.add (k * 6)).off + 4, none⟩ = some (.int .i64 b.d) ∧ w.cell? ⟨(ad.add (k * 6)).block, (ad.add (k * 6)).off + 5, none⟩ = some (.string b.s)) ∧ b.good
theorem ActsM.kept {w w' : World} {A : Option Addr} {n : Nat} {al : List ActS} (h : ActsM w A n al) (hk : Kept (fun _ => False) w w') : ActsM w' A n al := by
  refine ⟨h.1, fun j b hj => ?_⟩
  obtain ⟨⟨ad, e, r0, r1, r2, r3, r4, r5⟩, hs⟩ := h.2 j b hj
  exact ⟨⟨ad, e, cell_kept hk r0 id, cell_kept hk r1 id, cell_kept hk r2 id, cell_kept hk r3 id, cell_kept hk r4 id, cell_kept hk r5 id⟩, hs⟩
theorem ActsM.at_ {w : World} {A : Option Addr} {n : Nat} {al : List ActS} (h : ActsM w A n al) {k : Nat} (hk : k < n) : ∃ ad b, A = some ad ∧ al[k]? = some b ∧ w.cell? (ad.add (k * 6)) = some (.int .i64 b.k) ∧ w.cell? ⟨(ad.add (k * 6)).block, (ad.add (k * 6)).off + 1, none⟩ = some (.int .i64 b.nm) ∧
    w.cell? ⟨(ad.add (k * 6)).block, (ad.add (k * 6)).off + 2, none⟩ = some (.int .i64 b.pl) ∧ w.cell? ⟨(ad.add (k * 6)).block, (ad.add (k * 6)).off + 3, none⟩ = some (.int .i64 b.a) ∧
    w.cell? ⟨(ad.add (k * 6)).block, (ad.add (k * 6)).off + 4, none⟩ = some (.int .i64 b.d) ∧ w.cell? ⟨(ad.add (k * 6)).block, (ad.add (k * 6)).off + 5, none⟩ = some (.string b.s) ∧ b.good := by
  have hl : k < al.length := by rw [h.1]; exact hk
  obtain ⟨⟨ad, e, r0, r1, r2, r3, r4, r5⟩, hs⟩ := h.2 k al[k] (List.getElem?_eq_getElem hl)
  exact ⟨ad, al[k], e, List.getElem?_eq_getElem hl, r0, r1, r2, r3, r4, r5, hs⟩

section
variable {H : Type} {enc : TypeId × Value → H} {W : World} {base : Nat} {sp : Nat → Bool} {held : Bool}

theorem mark_open {fuel : Nat} {cs : List Value} {x : DataW H × List MemPlace} (h : DataW.trod enc Tryd.prog W base sp held fuel 61 cs = some x) : ∃ r : List Int, r.length = 2 ∧ cs = r.map (Value.int .i64) ∧ ∀ y ∈ r, I64 y :=
  ints_open (fs := _) Tryd.underlying61 (by
    intro i f hf
    match i, hf with
    | 0, hf => cases hf; exact ⟨rfl, rfl⟩
    | 1, hf => cases hf; exact ⟨rfl, rfl⟩
    | i + 2, hf => simp at hf) cells_mark h
set_option maxRecDepth 100000 in
theorem pat_open {fuel : Nat} {cs : List Value} {x : DataW H × List MemPlace} (h : DataW.trod enc Tryd.prog W base sp held fuel 29 cs = some x) (hz : ∀ q ∈ x.1.weights Tryd.prog 29, q ≤ reachBytes) :
    ∃ (a d : Int) (s : ByteArray), cs = [.int .i64 a, .int .i64 d, .string s] ∧ I64 a ∧ I64 d ∧ s.size ≤ 140737488351232 := by
  obtain ⟨y0, y1, y2, n, rfl, hl, h0, h1, h2⟩ := Deep.trod_struct3 Tryd.underlying29 h
  rw [cells_pat] at hl
  match cs, hl with
  | [c0, c1, c2], _ =>
    simp only [cells_int, cells_string, List.drop_zero, List.drop_succ_cons, List.take_succ_cons, List.take_zero] at h0 h1 h2
    obtain ⟨z0, e0, rfl, w0⟩ := DataW.trod_int Tryd.underlying3 h0
    obtain ⟨z1, e1, rfl, w1⟩ := DataW.trod_int Tryd.underlying3 h1
    obtain ⟨S, e2, rfl, _⟩ := DataW.trod_string Tryd.underlying9 h2
    have hsz : S.size ≤ 140737488351232 := by
      have := hz S.data.toList.length (by
        simp only [DataW.weights, Tryd.underlying29, List.map_cons, List.map_nil, DataW.weightsEach, List.nil_append, List.append_nil, List.mem_singleton])
      rw [Array.length_toList] at this
      exact this
    simp only [List.cons.injEq, and_true] at e0 e1 e2
    exact ⟨z0, z1, S, by rw [e0, e1, e2], i64_of_wf w0, i64_of_wf w1, hsz⟩
set_option maxRecDepth 100000 in
theorem act_open {fuel : Nat} {cs : List Value} {x : DataW H × List MemPlace} (h : DataW.trod enc Tryd.prog W base sp held fuel 31 cs = some x) (hz : ∀ q ∈ x.1.weights Tryd.prog 31, q ≤ reachBytes) :
    ∃ b : ActS, cs = [.int .i64 b.k, .int .i64 b.nm, .int .i64 b.pl, .int .i64 b.a, .int .i64 b.d, .string b.s] ∧ b.good := by
  obtain ⟨y0, y1, y2, y3, n, rfl, hl, h0, h1, h2, h3⟩ := Joins.trod_struct4 Tryd.underlying31 h
  rw [cells_act] at hl
  match cs, hl with
  | [c0, c1, c2, c3, c4, c5], _ =>
    simp only [cells_int, cells_pat, List.drop_zero, List.drop_succ_cons, List.take_succ_cons, List.take_zero] at h0 h1 h2 h3
    obtain ⟨z0, e0, rfl, w0⟩ := DataW.trod_int Tryd.underlying3 h0
    obtain ⟨z1, e1, rfl, w1⟩ := DataW.trod_int Tryd.underlying3 h1
    obtain ⟨z2, e2, rfl, w2⟩ := DataW.trod_int Tryd.underlying3 h2
    obtain ⟨a, d, s, e3, wa, wd, hs⟩ := pat_open h3 (fun q hq => hz q (by
      simp only [DataW.weights, Tryd.underlying31, List.map_cons, List.map_nil, DataW.weightsEach, List.nil_append, List.append_nil]
      first | exact hq | exact Or.inl hq | exact Or.inr (Or.inl hq) | simpa using hq))
    simp only [List.cons.injEq, and_true] at e0 e1 e2 e3
    obtain ⟨f0, f1, f2⟩ := e3
    exact ⟨⟨z0, z1, z2, a, d, s⟩, by rw [e0, e1, e2, f0, f1, f2], i64_of_wf w0, i64_of_wf w1, i64_of_wf w2, wa, wd, hs⟩
set_option maxRecDepth 100000 in
theorem acts_open {fuel : Nat} {cs : List Value} {x : DataW H × List MemPlace} (h : DataW.trod enc Tryd.prog W base sp held fuel 23 cs = some x) (hz : ∀ q ∈ x.1.weights Tryd.prog 23, q ≤ reachBytes) :
    ∃ (A : Option Addr) (n c : Nat) (ps : List ActS), cs = [.slice A n c] ∧ ActsM W A n ps ∧ n ≤ 140737488351232 := by
  rcases Deep.open_slice Tryd.underlying23 h with ⟨rfl, rfl⟩ | ⟨a, len, cap, m, fu, D, Pl, rfl, hb, hl, hm, hmm, rfl, hx⟩
  · exact ⟨none, 0, 0, [], rfl, ⟨rfl, fun j x hj => by simp at hj⟩, by omega⟩
  · have hle : len ≤ m := by rw [hmm]; split <;> omega
    have hw : DataW.weights Tryd.prog 23 (DataW.slice ((List.range len).map D) ((List.range (m - len)).map fun j => D (len + j))) =
        (((List.range len).map D).length + ((List.range (m - len)).map fun j => D (len + j)).length) * Tryd.prog.bytesOf 31 :: (DataW.weightsAll Tryd.prog 31 ((List.range len).map D) ++ DataW.weightsAll Tryd.prog 31 ((List.range (m - len)).map fun j => D (len + j))) := by
      simp only [DataW.weights, Tryd.underlying23]
    have hlen : len ≤ 140737488351232 := by
      have h1 := hz _ (by rw [hw]; exact List.mem_cons_self)
      simp only [List.length_map, List.length_range, bytes_act] at h1
      unfold reachBytes at h1
      omega
    obtain ⟨q, hq⟩ := Deep.choose_lt (α := ActS) (n := len) (p := fun k b => W.cell? (a.add (k * 6)) = some (.int .i64 b.k) ∧ W.cell? ⟨(a.add (k * 6)).block, (a.add (k * 6)).off + 1, none⟩ = some (.int .i64 b.nm) ∧
        W.cell? ⟨(a.add (k * 6)).block, (a.add (k * 6)).off + 2, none⟩ = some (.int .i64 b.pl) ∧ W.cell? ⟨(a.add (k * 6)).block, (a.add (k * 6)).off + 3, none⟩ = some (.int .i64 b.a) ∧
        W.cell? ⟨(a.add (k * 6)).block, (a.add (k * 6)).off + 4, none⟩ = some (.int .i64 b.d) ∧ W.cell? ⟨(a.add (k * 6)).block, (a.add (k * 6)).off + 5, none⟩ = some (.string b.s) ∧ b.good) (fun i hi => by
      obtain ⟨cs', h1, h2⟩ := hx i (by omega)
      rw [cells_act] at h1
      obtain ⟨b, rfl, hN⟩ := act_open h2 (fun q hq => hz q (by
        rw [hw]
        exact List.mem_cons_of_mem _ (List.mem_append_left _ (mem_weightsAll (List.mem_map.2 ⟨i, List.mem_range.2 hi, rfl⟩) hq))))
      obtain ⟨_, _, hc⟩ := World.cells?_some h1
      have g0 := hc 0 (by omega)
      have g1 := hc 1 (by omega)
      have g2 := hc 2 (by omega)
      have g3 := hc 3 (by omega)
      have g4 := hc 4 (by omega)
      have g5 := hc 5 (by omega)
      rw [addr_far _ 1 (by omega)] at g1
      rw [addr_far _ 2 (by omega)] at g2
      rw [addr_far _ 3 (by omega)] at g3
      rw [addr_far _ 4 (by omega)] at g4
      rw [addr_far _ 5 (by omega)] at g5
      exact ⟨b, by simpa [Addr.add] using g0, g1, g2, g3, g4, g5, hN⟩)
    refine ⟨some a, len, cap, (List.range len).map q, rfl, ⟨by simp, fun k b hk => ?_⟩, hlen⟩
    have hkl : k < len := by
      by_cases hkl : k < len
      · exact hkl
      · rw [List.getElem?_eq_none (by simp; omega)] at hk; simp at hk
    rw [List.getElem?_map, List.getElem?_range hkl] at hk
    simp only [Option.map_some, Option.some.injEq] at hk
    rw [← hk]
    obtain ⟨k0, k1, k2, k3, k4, k5, k6⟩ := hq k hkl
    exact ⟨⟨a, rfl, k0, k1, k2, k3, k4, k5⟩, k6⟩
end
/-- A script of marks, as it lies in memory. -/
structure ScrM where
  M : Option Addr
  mn : Nat
  mc : Nat
  marks : List (List Int)
  L : Option Addr
  ln : Nat
  lc : Nat
  acts : List ActS
def ScrM.cells (p : ScrM) : Array Value := #[.slice p.M p.mn p.mc, .slice p.L p.ln p.lc]
/-- It reads as it should. -/
structure ScrMOk (W : World) (p : ScrM) : Prop where
  marks : Rws W p.M p.mn 2 p.marks
  mn : p.mn ≤ 140737488351232
  cp : Cp p.M p.mn p.mc
  acts : ActsM W p.L p.ln p.acts
  ln : p.ln ≤ 140737488351232
theorem ScrMOk.kept {w w' : World} {p : ScrM} (h : ScrMOk w p) (hk : Kept (fun _ => False) w w') : ScrMOk w' p := ⟨h.marks.kept hk (fun _ _ => id), h.mn, h.cp, h.acts.kept hk, h.ln⟩
section
variable {H : Type} {enc : TypeId × Value → H} {W : World} {base : Nat} {sp : Nat → Bool} {held : Bool}
set_option maxRecDepth 100000 in
/-- A parameter of that type. -/
theorem scrM_open {r : Reach} {b0 : Nat} {v : Value} {d : DataW H} {p : List MemPlace} (hv : Value.okWide Tryd.prog W r b0 25 v) (h : DataW.Trod enc Tryd.prog W base sp held 25 v d p)
    (hz : ∀ q ∈ d.weights Tryd.prog 25, q ≤ reachBytes) : ∃ a : ScrM, v = .agg a.cells ∧ ScrMOk W a := by
  obtain ⟨cs, rfl, hsz⟩ := okWide_struct Tryd.underlying25 hv
  rw [cells_scr] at hsz
  obtain ⟨l⟩ := cs
  match l, hsz with
  | [c0, c1], _ =>
    obtain ⟨fuel, hf⟩ := h
    obtain ⟨y0, y1, n, hx, _, h0, h1⟩ := trod_struct2 Tryd.underlying25 hf
    simp only [Prod.mk.injEq] at hx
    obtain ⟨rfl, rfl⟩ := hx
    simp only [Value.cells, cells_marks, cells_acts, List.drop_zero, List.drop_succ_cons, List.take_succ_cons, List.take_zero] at h0 h1
    obtain ⟨M, mn, mc, marks, e0, hM, hmn, hcp⟩ := rows_open Tryd.underlying22 cells_mark bytes_mark (fun _ _ _ h => mark_open h) h0 (fun q hq => hz q (by
      simp only [DataW.weights, Tryd.underlying25, List.map_cons, List.map_nil, DataW.weightsEach, List.mem_append]
      exact Or.inl hq))
    obtain ⟨L, ln, lc, acts, e1, hL, hln⟩ := acts_open h1 (fun q hq => hz q (by
      simp only [DataW.weights, Tryd.underlying25, List.map_cons, List.map_nil, DataW.weightsEach, List.mem_append]
      exact Or.inr (Or.inl hq)))
    simp only [List.cons.injEq, and_true] at e0 e1
    exact ⟨⟨M, mn, mc, marks, L, ln, lc, acts⟩, by
      unfold ScrM.cells
      rw [e0, e1], ⟨hM, hmn, hcp, hL, hln⟩⟩
end
/-- The block of a parameter of that type. -/
def PSc (w : World) (pb : Nat) (p : ScrM) : Prop := w.heap[pb]? = some (.cells p.cells 25 (0, 0))
theorem PSc.kept {T : Nat → Prop} {w w' : World} {pb : Nat} {p : ScrM} (h : PSc w pb p) (hk : Kept T w w') (hs : ¬ T pb) : PSc w' pb p := (hk.block pb (heap_lt h) hs).trans h
theorem PSc.c {w : World} {pb : Nat} {p : ScrM} (h : PSc w pb p) (i : Nat) : w.cell? ⟨pb, i, none⟩ = p.cells[i]? := cell_of_row w pb i _ _ _ h
/-- What a law's loops hold of every world. -/
structure HeldS (w : World) (pb : Nat) (p : ScrM) : Prop where
  pb : PSc w pb p
  scr : ScrMOk w p
theorem HeldS.kept {w w' : World} {pb : Nat} {p : ScrM} (h : HeldS w pb p) (hk : Kept (fun _ => False) w w') : HeldS w' pb p := ⟨h.pb.kept hk id, h.scr.kept hk⟩
end Go.Proofs.YtknoiehglfpepaaDoor
