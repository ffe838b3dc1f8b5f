/-
  AN ASK OF PATCHES, OPENED: a slice of patches, cell by cell; how much an ask weighs.
-/
import Derived.Test.YtonenopfdoagcaaDoorAo2n
import Derived.Deep.Strs
set_option linter.unusedVariables false
namespace Go.Proofs.YtonenopfdoagcaaDoor
open Go Go.RowKit Go.ChangeShapes Go.WideShapes Go.ChangeAt

theorem cells_pat : Tryd.prog.cellsOf 32 = 3 := by kernel_rfl
theorem cells_pats : Tryd.prog.cellsOf 27 = 1 := by kernel_rfl
theorem cells_ask4 : Tryd.prog.cellsOf 29 = 7 := by kernel_rfl
theorem bytes_pat : Tryd.prog.bytesOf 32 = 32 := by kernel_rfl
/-- A patch, as it lies in memory. -/
structure PatS where
  a : Int
  d : Int
  s : ByteArray
instance : Inhabited PatS := ⟨⟨0, 0, .empty⟩⟩
/-- A slice of patches. -/
def Pats (w : World) (A : Option Addr) (n : Nat) (ps : List PatS) : Prop :=
  ps.length = n ∧ ∀ k b, ps[k]? = some b → (∃ ad, A = some ad ∧ w.cell? (ad.add (k * 3)) = some (.int .i64 b.a) ∧ w.cell? ⟨(ad.add (k * 3)).block, (ad.add (k * 3)).off + 1, none⟩ = some (.int .i64 b.d) ∧
    w.cell? ⟨(ad.add (k * 3)).block, (ad.add (k * 3)).off + 2, none⟩ = some (.string b.s)) ∧ I64 b.a ∧ I64 b.d ∧ b.s.size ≤ 140737488351232
theorem Pats.kept {w w' : World} {A : Option Addr} {n : Nat} {ps : List PatS} (h : Pats w A n ps) (hk : Kept (fun _ => False) w w') : Pats w' A n ps := by
  refine ⟨h.1, fun j b hj => ?_⟩
  obtain ⟨⟨ad, e, r0, r1, r2⟩, hs⟩ := h.2 j b hj
  exact ⟨⟨ad, e, cell_kept hk r0 id, cell_kept hk r1 id, cell_kept hk r2 id⟩, hs⟩
theorem Pats.at_ {w : World} {A : Option Addr} {n : Nat} {ps : List PatS} (h : Pats w A n ps) {k : Nat} (hk : k < n) : ∃ ad b, A = some ad ∧ ps[k]? = some b ∧ w.cell? (ad.add (k * 3)) = some (.int .i64 b.a) ∧ w.cell? ⟨(ad.add (k * 3)).block, (ad.add (k * 3)).off + 1, none⟩ = some (.int .i64 b.d) ∧
    w.cell? ⟨(ad.add (k * 3)).block, (ad.add (k * 3)).off + 2, none⟩ = some (.string b.s) ∧ I64 b.a ∧ I64 b.d ∧ b.s.size ≤ 140737488351232 := by
  have hl : k < ps.length := by rw [h.1]; exact hk
  obtain ⟨⟨ad, e, r0, r1, r2⟩, hs⟩ := h.2 k ps[k] (List.getElem?_eq_getElem hl)
  exact ⟨ad, ps[k], e, List.getElem?_eq_getElem hl, r0, r1, r2, hs⟩

section
variable {H : Type} {enc : TypeId × Value → H} {W : World} {base : Nat} {sp : Nat → Bool} {held : Bool}

set_option maxRecDepth 100000 in
theorem pat_open {fuel : Nat} {cs : List Value} {x : DataW H × List MemPlace} (h : DataW.trod enc Tryd.prog W base sp held fuel 32 cs = some x) (hz : ∀ q ∈ x.1.weights Tryd.prog 32, q ≤ reachBytes) :
    ∃ b : PatS, cs = [.int .i64 b.a, .int .i64 b.d, .string b.s] ∧ I64 b.a ∧ I64 b.d ∧ b.s.size ≤ 140737488351232 := by
  obtain ⟨y0, y1, y2, n, rfl, hl, h0, h1, h2⟩ := Deep.trod_struct3 Tryd.underlying32 h
  rw [cells_pat] at hl
  match cs, hl with
  | [c0, c1, c2], _ =>
    simp only [cells_int, cells_string, List.drop_zero, List.drop_succ_cons, List.take_succ_cons, List.take_zero] at h0 h1 h2
    obtain ⟨z0, e0, rfl, w0⟩ := DataW.trod_int Tryd.underlying3 h0
    obtain ⟨z1, e1, rfl, w1⟩ := DataW.trod_int Tryd.underlying3 h1
    obtain ⟨S, e2, rfl, _⟩ := DataW.trod_string Tryd.underlying9 h2
    have hsz : S.size ≤ 140737488351232 := by
      have := hz S.data.toList.length (by
        simp only [DataW.weights, Tryd.underlying32, List.map_cons, List.map_nil, DataW.weightsEach, List.nil_append, List.append_nil, List.mem_singleton])
      rw [Array.length_toList] at this
      exact this
    simp only [List.cons.injEq, and_true] at e0 e1 e2
    exact ⟨⟨z0, z1, S⟩, by rw [e0, e1, e2], i64_of_wf w0, i64_of_wf w1, hsz⟩

set_option maxRecDepth 100000 in
theorem pats_open {fuel : Nat} {cs : List Value} {x : DataW H × List MemPlace} (h : DataW.trod enc Tryd.prog W base sp held fuel 27 cs = some x) (hz : ∀ q ∈ x.1.weights Tryd.prog 27, q ≤ reachBytes) :
    ∃ (A : Option Addr) (n c : Nat) (ps : List PatS), cs = [.slice A n c] ∧ Pats W A n ps ∧ n ≤ 140737488351232 := by
  rcases Deep.open_slice Tryd.underlying27 h with ⟨rfl, rfl⟩ | ⟨a, len, cap, m, fu, D, Pl, rfl, hb, hl, hm, hmm, rfl, hx⟩
  · exact ⟨none, 0, 0, [], rfl, ⟨rfl, fun j x hj => by simp at hj⟩, by omega⟩
  · have hle : len ≤ m := by rw [hmm]; split <;> omega
    have hw : DataW.weights Tryd.prog 27 (DataW.slice ((List.range len).map D) ((List.range (m - len)).map fun j => D (len + j))) =
        (((List.range len).map D).length + ((List.range (m - len)).map fun j => D (len + j)).length) * Tryd.prog.bytesOf 32 :: (DataW.weightsAll Tryd.prog 32 ((List.range len).map D) ++ DataW.weightsAll Tryd.prog 32 ((List.range (m - len)).map fun j => D (len + j))) := by
      simp only [DataW.weights, Tryd.underlying27]
    have hlen : len ≤ 140737488351232 := by
      have h1 := hz _ (by rw [hw]; exact List.mem_cons_self)
      simp only [List.length_map, List.length_range, bytes_pat] at h1
      unfold reachBytes at h1
      omega
    obtain ⟨q, hq⟩ := Deep.choose_lt (α := PatS) (n := len) (p := fun k b => W.cell? (a.add (k * 3)) = some (.int .i64 b.a) ∧ W.cell? ⟨(a.add (k * 3)).block, (a.add (k * 3)).off + 1, none⟩ = some (.int .i64 b.d) ∧
        W.cell? ⟨(a.add (k * 3)).block, (a.add (k * 3)).off + 2, none⟩ = some (.string b.s) ∧ I64 b.a ∧ I64 b.d ∧ b.s.size ≤ 140737488351232) (fun i hi => by
      obtain ⟨cs', h1, h2⟩ := hx i (by omega)
      rw [cells_pat] at h1
      obtain ⟨b, rfl, hN⟩ := pat_open h2 (fun q hq => hz q (by
        rw [hw]
        exact List.mem_cons_of_mem _ (List.mem_append_left _ (mem_weightsAll (List.mem_map.2 ⟨i, List.mem_range.2 hi, rfl⟩) hq))))
      obtain ⟨_, _, hc⟩ := World.cells?_some h1
      have g0 := hc 0 (by omega)
      have g1 := hc 1 (by omega)
      have g2 := hc 2 (by omega)
      rw [addr_far _ 1 (by omega)] at g1
      rw [addr_far _ 2 (by omega)] at g2
      exact ⟨b, by simpa [Addr.add] using g0, g1, g2, hN⟩)
    refine ⟨some a, len, cap, (List.range len).map q, rfl, ⟨by simp, fun k b hk => ?_⟩, hlen⟩
    have hkl : k < len := by
      by_cases hkl : k < len
      · exact hkl
      · rw [List.getElem?_eq_none (by simp; omega)] at hk; simp at hk
    rw [List.getElem?_map, List.getElem?_range hkl] at hk
    simp only [Option.map_some, Option.some.injEq] at hk
    rw [← hk]
    obtain ⟨k0, k1, k2, k3⟩ := hq k hkl
    exact ⟨⟨a, rfl, k0, k1, k2⟩, k3⟩

set_option maxRecDepth 100000 in
/-- A parameter of that type. -/
theorem ask4_open {r : Reach} {b0 : Nat} {v : Value} {d : DataW H} {p : List MemPlace} (hv : Value.okWide Tryd.prog W r b0 29 v) (h : DataW.Trod enc Tryd.prog W base sp held 29 v d p)
    (hz : ∀ q ∈ d.weights Tryd.prog 29, q ≤ reachBytes) :
    ∃ (A : Option Addr) (n c : Nat) (ss : List ByteArray) (xa xb xr xc : Int) (B : Option Addr) (m e : Nat) (ps : List PatS) (xq : Int), v = .agg #[.slice A n c, .int .i64 xa, .int .i64 xb, .int .i64 xr, .int .i64 xc, .slice B m e, .int .i64 xq] ∧
      Strs W A n ss ∧ n ≤ 8796093022208 ∧ Pats W B m ps ∧ m ≤ 140737488351232 ∧ I64 xq := by
  obtain ⟨cs, rfl, hsz⟩ := okWide_struct Tryd.underlying29 hv
  rw [cells_ask4] at hsz
  obtain ⟨l⟩ := cs
  match l, hsz with
  | [c0, c1, c2, c3, c4, c5, c6], _ =>
    obtain ⟨fuel, hf⟩ := h
    obtain ⟨y0, y1, y2, n, hx, _, h0, h1, h2⟩ := Deep.trod_struct3 Tryd.underlying29 hf
    simp only [Prod.mk.injEq] at hx
    obtain ⟨rfl, rfl⟩ := hx
    simp only [Value.cells, cells_int, cells_ask1, cells_pats, List.drop_zero, List.drop_succ_cons, List.take_succ_cons, List.take_zero] at h0 h1 h2
    obtain ⟨z6, e6, _, w6⟩ := DataW.trod_int Tryd.underlying3 h2
    obtain ⟨B, m, e, ps, e5, hP, hpm⟩ := pats_open h1 (fun q hq => hz q (by
      simp only [DataW.weights, Tryd.underlying29, List.map_cons, List.map_nil, DataW.weightsEach, List.mem_append]
      exact Or.inr (Or.inl hq)))
    obtain ⟨x0, x1, x2, x3, n', hx', _, k0, k1, k2, k3⟩ := Joins.trod_struct4 Tryd.underlying26 h0
    subst hx'
    simp only [cells_int, cells_strings, cells_pos, List.drop_zero, List.drop_succ_cons, List.take_succ_cons, List.take_zero] at k0 k1 k2 k3
    obtain ⟨z1, e1, _, w1⟩ := DataW.trod_int Tryd.underlying3 k1
    obtain ⟨z2, e2, _, w2⟩ := DataW.trod_int Tryd.underlying3 k2
    obtain ⟨u0, u1, n2, hx2, _, j0, j1⟩ := trod_struct2 Tryd.underlying24 k3
    simp only [cells_int, List.drop_zero, List.drop_succ_cons, List.take_succ_cons, List.take_zero] at j0 j1
    obtain ⟨z3, e3, _, w3⟩ := DataW.trod_int Tryd.underlying3 j0
    obtain ⟨z4, e4, _, w4⟩ := DataW.trod_int Tryd.underlying3 j1
    obtain ⟨A, q, c, ss, e0, hS, hm⟩ := strs_open k0 (fun q hq => hz q (by
      simp only [DataW.weights, Tryd.underlying29, Tryd.underlying26, List.map_cons, List.map_nil, DataW.weightsEach, List.mem_append]
      exact Or.inl (Or.inl hq)))
    simp only [List.cons.injEq, and_true] at e0 e1 e2 e3 e4 e5 e6
    exact ⟨A, q, c, ss, z1, z2, z3, z4, B, m, e, ps, z6, by rw [e0, e1, e2, e3, e4, e5, e6], hS, hm, hP, hpm, i64_of_wf w6⟩
end
theorem i64_0 : I64 0 := by unfold I64; omega
/-- An ask of patches, as it lies in memory. -/
structure AskQ where
  A : Option Addr
  n : Nat
  c : Nat
  ss : List ByteArray
  xa : Int
  xb : Int
  xr : Int
  xc : Int
  B : Option Addr
  m : Nat
  e : Nat
  ps : List PatS
  xq : Int
def AskQ.cells (p : AskQ) : Array Value := #[.slice p.A p.n p.c, .int .i64 p.xa, .int .i64 p.xb, .int .i64 p.xr, .int .i64 p.xc, .slice p.B p.m p.e, .int .i64 p.xq]
/-- It reads as it should. -/
structure AskQOk (w : World) (p : AskQ) : Prop where
  ss : Strs w p.A p.n p.ss
  n : p.n ≤ 8796093022208
  ps : Pats w p.B p.m p.ps
  m : p.m ≤ 140737488351232
  xq : I64 p.xq
theorem AskQOk.kept {w w' : World} {p : AskQ} (h : AskQOk w p) (hk : Kept (fun _ => False) w w') : AskQOk w' p := ⟨h.ss.kept hk, h.n, h.ps.kept hk, h.m, h.xq⟩
/-- The block of a parameter of that type. -/
def PQ (w : World) (pb : Nat) (p : AskQ) : Prop := w.heap[pb]? = some (.cells p.cells 29 (0, 0))
theorem PQ.kept {T : Nat → Prop} {w w' : World} {pb : Nat} {p : AskQ} (h : PQ w pb p) (hk : Kept T w w') (hs : ¬ T pb) : PQ w' pb p := (hk.block pb (heap_lt h) hs).trans h
theorem PQ.c {w : World} {pb : Nat} {p : AskQ} (h : PQ w pb p) (i : Nat) : w.cell? ⟨pb, i, none⟩ = p.cells[i]? := cell_of_row w pb i _ _ _ h
/-- What a law's loops hold of every world. -/
structure HeldQ (w : World) (pb : Nat) (p : AskQ) : Prop where
  pb : PQ w pb p
  ask : AskQOk w p
  tabs : Tabs w
theorem HeldQ.kept {w w' : World} {pb : Nat} {p : AskQ} (h : HeldQ w pb p) (hk : Kept (fun _ => False) w w') : HeldQ w' pb p := ⟨h.pb.kept hk id, h.ask.kept hk, h.tabs.kept hk id id⟩

set_option maxRecDepth 100000 in
set_option maxHeartbeats 1000000 in
theorem heavy4_any (p : AskQ) (w : World) (h : AskQOk w p) :
    Calls Tryd.prog 6 #[.agg p.cells] w fun e w' => (∃ b : Bool, e = .returned (.bool b) ∧ (b = false → (∀ s ∈ p.ss, s.size ≤ 6000) ∧ (∀ b ∈ p.ps, b.s.size ≤ 6000))) ∧ Kept (fun _ => False) w w' := by
  have hK0 : Hid (Kept (fun _ => False) w (w.alloc (.cells p.cells 29))) := (Kept.refl _ w).alloc _
  have hP0 : Hid (PQ (w.alloc (.cells p.cells 29)) w.heap.size p) := heap_alloc_new w _
  have hA0 : Hid (AskQOk (w.alloc (.cells p.cells 29)) p) := h.kept hK0.out
  obtain ⟨A, n, c, ss, xa, xb, xr, xc, B, m, e, ps, xq⟩ := p
  have cT := fun v1 v2 v3 v4 => heavy1_any ⟨A, n, c, ss, 0, 0, 0, 0, 0, 0, 0⟩ (w.alloc (.cells (AskQ.cells ⟨A, n, c, ss, xa, xb, xr, xc, B, m, e, ps, xq⟩) 29)) ⟨hA0.out.ss, hA0.out.n, i64_0, i64_0, i64_0, i64_0, i64_0, i64_0, i64_0⟩ v1 v2 v3 v4
  have HCT := Lib.hid cT
  have HM : Hid (m ≤ 140737488351232) := h.m
  clear h cT
  unfold AskQ.cells at *
  simp only at *
  go_enter Tryd.func6, Tryd.ntmps6
  go_wp2_with fail
  generalize hpb : w.heap.size = pb at hP0 ⊢
  clear hpb
  generalize w.alloc (.cells #[.slice A n c, .int .i64 xa, .int .i64 xb, .int .i64 xr, .int .i64 xc, .slice B m e, .int .i64 xq] 29) = wa at *
  have p0 : wa.cell? ⟨pb, 0, none⟩ = some (.slice A n c) := hP0.out.c 0
  have p1 : wa.cell? ⟨pb, 1, none⟩ = some (.int .i64 xa) := hP0.out.c 1
  have p2 : wa.cell? ⟨pb, 2, none⟩ = some (.int .i64 xb) := hP0.out.c 2
  have p3 : wa.cell? ⟨pb, 3, none⟩ = some (.int .i64 xr) := hP0.out.c 3
  have p4 : wa.cell? ⟨pb, 4, none⟩ = some (.int .i64 xc) := hP0.out.c 4
  have p5 : wa.cell? ⟨pb, 5, none⟩ = some (.slice B m e) := hP0.out.c 5
  have hm := HM.out
  go_loop [3, 4] (fun v i => ∃ (k : Nat) (q : Int), k ≤ m ∧ i = .int .i64 k ∧ v = .int .i64 q ∧ 0 ≤ q ∧ q ≤ 300000000000000 ∧ ∀ j b, j < k → ps[j]? = some b → (b.s.size : Int) ≤ q) (fun _ i => m - (intOf i).toNat)
  case atStart => exact ⟨0, m, Nat.zero_le _, rfl, rfl, by omega, by omega, fun j s hj => by omega⟩
  case round =>
    obtain ⟨k, q, hk, rfl, rfl, h1, h2, h3⟩ := hrel
    have H3 := Lib.hid h3
    clear h3
    by_cases hlt : k < m
    · by_cases hq : q < 1048576
      · obtain ⟨ad, b, rfl, hs, c0, c1, c2, _, _, hsz⟩ := hA0.out.ps.at_ hlt
        have HS := Lib.hid hs
        clear hs c0 c1
        have bq : decide (q < 1048576) = true := by simp; omega
        go_wp2
        go_round
        case rel => exact ⟨k + 1, q + b.s.size, by omega, by go_num, by go_num, by omega, by omega, fun j b' hj hb => by
          by_cases hjk : j < k
          · have := H3.out j b' hjk hb
            omega
          · obtain rfl : j = k := by omega
            rw [HS.out] at hb
            injection hb with hb
            subst hb
            omega⟩
        case measure => simp [intOf]; omega
      · have bq : decide (q < 1048576) = false := by simp; omega
        have bq2 : ¬ q < 1048576 := hq
        have b6 : decide (6000 < q) = true := by simp; omega
        go_wp2
        go_ret
        exact ⟨.inr rfl, hK0.out⟩
    · obtain rfl : k = m := by omega
      have hall : Hid (q ≤ 6000 → ∀ b ∈ ps, b.s.size ≤ 6000) := fun h b hb => by
        obtain ⟨j, hj, rfl⟩ := List.getElem_of_mem hb
        have := H3.out j _ (by have := hA0.out.ps.1; simp only at this; omega) (List.getElem?_eq_getElem hj)
        omega
      by_cases hq6 : 6000 < q
      · have b6 : decide (6000 < q) = true := by simp; omega
        go_wp2
        go_ret
        exact ⟨.inr rfl, hK0.out⟩
      · have b6 : decide (6000 < q) = false := by simp; omega
        have hq7 := hall.out (by omega)
        have HQ7 := Lib.hid hq7
        clear hq7
        go_wp2_with (go_at_call 24; refine (HCT.out _ _ _ _).mono ?_; rintro e w' ⟨⟨b, rfl, h3⟩, hk⟩; have H4 := Lib.hid h3; have HK := Lib.hid hk; clear h3 hk)
        go_ret
        exact ⟨⟨_, rfl, fun h => ⟨H4.out h, HQ7.out⟩⟩, hK0.out.trans HK.out⟩
end Go.Proofs.YtonenopfdoagcaaDoor
