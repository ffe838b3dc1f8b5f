/-
  ELEMENTS: which may be, of the reference; a script opened; how much it weighs.
-/
import Derived.Test.YthkohjijppbliaaDoorOdD
import Derived.Test.YthkohjijppbliaaDoorOdW
import Derived.Deep.Strs
set_option linter.unusedVariables false
namespace Go.Proofs.YthkohjijppbliaaDoor
open Go Go.RowKit Go.ChangeShapes Go.WideShapes Go.ChangeAt

/-- What the reference tells of elements. -/
def ElOk (L : List ElemS) (e : Ending) : Prop := ∃ q : Bool, e = .returned (.bool q) ∧ (q = true → ∀ x ∈ L, Cd.ruOk x.r)
theorem cells_elem : Tryd.prog.cellsOf 71 = 4 := by kernel_rfl
theorem cells_bool : Tryd.prog.cellsOf 4 = 1 := by kernel_rfl
theorem cells_elems : Tryd.prog.cellsOf 22 = 1 := by kernel_rfl
theorem cells_scr24 : Tryd.prog.cellsOf 25 = 2 := by kernel_rfl
theorem bytes_elem : Tryd.prog.bytesOf 71 = 32 := by kernel_rfl
section
variable {H : Type} {enc : TypeId × Value → H} {W : World} {base : Nat} {sp : Nat → Bool} {held : Bool}
set_option maxRecDepth 100000 in
theorem elem_open {fuel : Nat} {cs : List Value} {x : DataW H × List MemPlace} (h : DataW.trod enc Tryd.prog W base sp held fuel 71 cs = some x) : ∃ e : ElemS, cs = e.vs := by
  obtain ⟨y0, y1, y2, n, rfl, hl, h0, h1, h2⟩ := Deep.trod_struct3 Tryd.underlying71 h
  rw [cells_elem] at hl
  match cs, hl with
  | [c0, c1, c2, c3], _ =>
    simp only [cells_int, cells_id, cells_bool, List.drop_zero, List.drop_succ_cons, List.take_succ_cons, List.take_zero] at h0 h1 h2
    obtain ⟨t, si, e0, _, _⟩ := id_open h0
    obtain ⟨z1, e1, rfl, _⟩ := DataW.trod_int Tryd.underlying3 h1
    obtain ⟨b, e2, rfl⟩ := DataW.trod_bool Tryd.underlying4 h2
    simp only [List.cons.injEq, and_true] at e0 e1 e2
    obtain ⟨g0, g1⟩ := e0
    exact ⟨⟨t, si, z1, b⟩, by unfold ElemS.vs; rw [g0, g1, e1, e2]⟩
set_option maxRecDepth 100000 in
theorem elems_open {fuel : Nat} {cs : List Value} {x : DataW H × List MemPlace} (h : DataW.trod enc Tryd.prog W base sp held fuel 22 cs = some x) (hz : ∀ q ∈ x.1.weights Tryd.prog 22, q ≤ reachBytes) :
    ∃ (v : Value) (L : List ElemS), cs = [v] ∧ Se W v L ∧ L.length ≤ 140737488351232 := by
  rcases Deep.open_slice Tryd.underlying22 h with ⟨rfl, rfl⟩ | ⟨a, len, cap, m, fu, D, Pl, rfl, hb, hl, hm, hmm, rfl, hx⟩
  · exact ⟨_, [], rfl, se_nil W, Nat.zero_le _⟩
  · have hle : len ≤ m := by rw [hmm]; split <;> omega
    have hlen : len ≤ 140737488351232 := by
      have h1 := hz ((((List.range len).map D).length + ((List.range (m - len)).map fun j => D (len + j)).length) * Tryd.prog.bytesOf 71) (by
        simp only [DataW.weights, Tryd.underlying22]
        exact List.mem_cons_self)
      simp only [List.length_map, List.length_range, bytes_elem] at h1
      unfold reachBytes at h1
      omega
    obtain ⟨q, hq⟩ := Deep.choose_lt (α := ElemS) (n := len) (p := fun k e => El4 W (a.add (k * 4)) e) (fun i hi => by
      obtain ⟨cs', h1, h2⟩ := hx i (by omega)
      rw [cells_elem] at h1
      obtain ⟨b, rfl⟩ := elem_open h2
      obtain ⟨_, _, hc⟩ := World.cells?_some h1
      have g0 := hc 0 (by omega)
      have g1 := hc 1 (by omega)
      have g2 := hc 2 (by omega)
      have g3 := hc 3 (by omega)
      rw [addr_far _ 1 (by omega)] at g1
      rw [addr_far _ 2 (by omega)] at g2
      rw [addr_far _ 3 (by omega)] at g3
      exact ⟨b, by simpa [Addr.add, ElemS.vs] using g0, g1, g2, g3⟩)
    refine ⟨_, (List.range len).map q, rfl, ⟨some a, len, cap, rfl, ⟨by simp, fun k b hk => ?_⟩, hl, fun h => by cases h⟩, by simpa using hlen⟩
    have hkl : k < len := by
      by_cases hkl : k < len
      · exact hkl
      · rw [List.getElem?_eq_none (by simp; omega)] at hk; simp at hk
    rw [List.getElem?_map, List.getElem?_range hkl] at hk
    simp only [Option.map_some, Option.some.injEq] at hk
    rw [← hk]
    exact ⟨a, rfl, hq k hkl⟩
end
/-- A script of elements and ops, as it lies in memory. -/
structure ScrE where
  X : Value
  es : List ElemS
  O : Option Addr
  on : Nat
  oc : Nat
  os : List OpS
def ScrE.cells (p : ScrE) : Array Value := #[p.X, .slice p.O p.on p.oc]
/-- It reads as it should. -/
structure ScrEOk (W : World) (p : ScrE) : Prop where
  es : Se W p.X p.es
  el : p.es.length ≤ 140737488351232
  os : OpsM W p.O p.on p.os
  on : p.on ≤ 140737488351232
theorem ScrEOk.kept {w w' : World} {p : ScrE} (h : ScrEOk w p) (hk : Kept (fun _ => False) w w') : ScrEOk w' p := ⟨h.es.kept hk, h.el, h.os.kept hk (fun _ _ => id) (fun _ _ _ _ => id), h.on⟩
section
variable {H : Type} {enc : TypeId × Value → H} {W : World} {base : Nat} {sp : Nat → Bool} {held : Bool}
set_option maxRecDepth 100000 in
/-- A parameter of that type. -/
theorem scrE_open {r : Reach} {b0 : Nat} {v : Value} {d : DataW H} {p : List MemPlace} (hv : Value.okWide Tryd.prog W r b0 25 v) (h : DataW.Trod enc Tryd.prog W base sp held 25 v d p)
    (hz : ∀ q ∈ d.weights Tryd.prog 25, q ≤ reachBytes) : ∃ a : ScrE, v = .agg a.cells ∧ ScrEOk W a := by
  obtain ⟨cs, rfl, hsz⟩ := okWide_struct Tryd.underlying25 hv
  rw [cells_scr24] at hsz
  obtain ⟨l⟩ := cs
  match l, hsz with
  | [c0, c1], _ =>
    obtain ⟨fuel, hf⟩ := h
    obtain ⟨y0, y1, n, hx, _, h0, h1⟩ := trod_struct2 Tryd.underlying25 hf
    simp only [Prod.mk.injEq] at hx
    obtain ⟨rfl, rfl⟩ := hx
    simp only [Value.cells, cells_elems, cells_ops, List.drop_zero, List.drop_succ_cons, List.take_succ_cons, List.take_zero] at h0 h1
    obtain ⟨X, es, e0, hX, hel⟩ := elems_open h0 (fun q hq => hz q (by
      simp only [DataW.weights, Tryd.underlying25, List.map_cons, List.map_nil, DataW.weightsEach, List.mem_append]
      exact Or.inl hq))
    obtain ⟨O, on, oc, os, e1, hO, hon, _⟩ := ops_open h1 (fun q hq => hz q (by
      simp only [DataW.weights, Tryd.underlying25, List.map_cons, List.map_nil, DataW.weightsEach, List.mem_append]
      exact Or.inr (Or.inl hq)))
    simp only [List.cons.injEq, and_true] at e0 e1
    exact ⟨⟨X, es, O, on, oc, os⟩, by
      unfold ScrE.cells
      rw [e0, e1], ⟨hX, hel, hO, hon⟩⟩
end
/-- What Heavy tells. -/
def HvOk (n : Nat) (e : Ending) : Prop := ∃ b : Bool, e = .returned (.bool b) ∧ (b = false → n ≤ 600)
set_option maxRecDepth 100000 in
set_option maxHeartbeats 1000000 in
theorem heavy24_any (p : ScrE) (w : World) (h : ScrEOk w p) :
    Calls Tryd.prog 5 #[.agg p.cells] w fun e w' => HvOk p.es.length e ∧ Kept (fun _ => False) w w' := by
  have hK0 : Hid (Kept (fun _ => False) w (w.alloc (.cells p.cells 25))) := (Kept.refl _ w).alloc _
  have hP0 : Hid ((w.alloc (.cells p.cells 25)).heap[w.heap.size]? = some (.cells p.cells 25 (0, 0))) := heap_alloc_new w _
  have hA0 : Hid (ScrEOk (w.alloc (.cells p.cells 25)) p) := h.kept hK0.out
  obtain ⟨X, es, O, on, oc, os⟩ := p
  have hop : ∃ A c, X = .slice A es.length c := by
    obtain ⟨A, c, h1, _⟩ := h.es.open'
    exact ⟨A, c, h1⟩
  obtain ⟨A, c, rfl⟩ := hop
  obtain ⟨n, hn⟩ : ∃ n, es.length = n := ⟨_, rfl⟩
  have hel : es.length ≤ 140737488351232 := h.el
  unfold ScrE.cells at *
  simp only [hn] at *
  clear h hn
  go_enter Tryd.func5, Tryd.ntmps5
  go_upto_region 1 with fail
  generalize hpb : w.heap.size = pb at hP0 ⊢
  clear hpb
  generalize w.alloc (.cells #[.slice A n c, .slice O on oc] 25) = wa at *
  have p0 : wa.cell? ⟨pb, 0, none⟩ = some (.slice A n c) := cell_of_row _ _ _ _ _ _ hP0.out
  have p1 : wa.cell? ⟨pb, 1, none⟩ = some (.slice O on oc) := cell_of_row _ _ _ _ _ _ hP0.out
  have cO := opsweight_any O on oc os wa hA0.out.os hA0.out.on
  by_cases h6 : n ≤ 600
  · have b1 : decide (600 < n) = false := decide_eq_false (by omega)
    have b2 : decide ((600 : Int) < (n : Int)) = false := decide_eq_false (by omega)
    have H6 := Lib.hid h6
    go_wp2_with fail
    refine cO.mono ?_
    clear cO
    rintro e w' ⟨⟨q, rfl, hq1, hq2⟩, hw⟩
    have hw2 := hw.symm
    subst hw2
    rcases decI (3000 < q) with ⟨_, b3⟩ | ⟨_, b3⟩
    all_goals
      go_wp2_with fail
      go_ret
      exact ⟨⟨_, rfl, fun _ => H6.out⟩, hK0.out⟩
  · have b1 : decide (600 < n) = true := decide_eq_true (by omega)
    have b2 : decide ((600 : Int) < (n : Int)) = true := decide_eq_true (by omega)
    go_wp2_with fail
    go_ret
    exact ⟨⟨true, rfl, fun h => by cases h⟩, hK0.out⟩
end Go.Proofs.YthkohjijppbliaaDoor
