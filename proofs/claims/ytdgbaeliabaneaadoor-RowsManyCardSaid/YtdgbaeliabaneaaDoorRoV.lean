/-
  THE LAW's SCRIPTS: rows, and acts on them, opened; how much one weighs.
-/
import Derived.Test.YtdgbaeliabaneaaDoorRoU
import Derived.Test.YtdgbaeliabaneaaDoorRws
set_option linter.unusedVariables false
namespace Go.Proofs.YtdgbaeliabaneaaDoor
open Go Go.RowKit Go.ChangeShapes Go.WideShapes Go.ChangeAt

theorem cells_act3 : Tryd.prog.cellsOf 37 = 3 := by kernel_rfl
theorem cells_acts3 : Tryd.prog.cellsOf 23 = 1 := by kernel_rfl
theorem cells_scr3 : Tryd.prog.cellsOf 25 = 2 := by kernel_rfl
theorem bytes_act3 : 1 ≤ Tryd.prog.bytesOf 37 := by rw [show Tryd.prog.bytesOf 37 = 40 by kernel_rfl]; decide
/-- An act, as it lies in memory. -/
structure ActS where
  i : Int
  n : Int
  A : Option Addr
  m : Nat
  c : Nat
  l : List ByteArray
instance : Inhabited ActS := ⟨⟨0, 0, none, 0, 0, []⟩⟩
def ActS.vals (b : ActS) : List Value := [.int .i64 b.i, .int .i64 b.n, .slice b.A b.m b.c]
structure ActOk (w : World) (b : ActS) : Prop where
  ss : Strs w b.A b.m b.l
  m : b.m ≤ 8796093022208
  i : I64 b.i
  n : I64 b.n
theorem ActOk.kept {w w' : World} {b : ActS} (h : ActOk w b) (hk : Kept (fun _ => False) w w') : ActOk w' b := ⟨h.ss.kept hk, h.m, h.i, h.n⟩
/-- Where an act's cells are. -/
structure Act3 (w : World) (ad : Addr) (b : ActS) : Prop where
  c0 : w.cell? ad = some (.int .i64 b.i)
  c1 : w.cell? ⟨ad.block, ad.off + 1, none⟩ = some (.int .i64 b.n)
  c2 : w.cell? ⟨ad.block, ad.off + 2, none⟩ = some (.slice b.A b.m b.c)
theorem Act3.kept {S : Nat → Prop} {w w' : World} {ad : Addr} {b : ActS} (h : Act3 w ad b) (hk : Kept S w w') (hs : ¬ S ad.block) : Act3 w' ad b :=
  ⟨cell_kept hk h.c0 hs, cell_kept hk h.c1 hs, cell_kept hk h.c2 hs⟩
/-- A slice of acts. -/
def ActsM (w : World) (A : Option Addr) (n : Nat) (al : List ActS) : Prop :=
  al.length = n ∧ ∀ k b, al[k]? = some b → (∃ ad, A = some ad ∧ Act3 w (ad.add (k * 3)) b) ∧ ActOk w b
theorem ActsM.kept {w w' : World} {A : Option Addr} {n : Nat} {al : List ActS} (h : ActsM w A n al) (hk : Kept (fun _ => False) w w') : ActsM w' A n al := by
  refine ⟨h.1, fun j b hj => ?_⟩
  obtain ⟨⟨ad, e, r⟩, ho⟩ := h.2 j b hj
  exact ⟨⟨ad, e, r.kept hk id⟩, ho.kept hk⟩
theorem ActsM.at_ {w : World} {A : Option Addr} {n : Nat} {al : List ActS} (h : ActsM w A n al) {k : Nat} (hk : k < n) : ∃ ad b, A = some ad ∧ al[k]? = some b ∧ Act3 w (ad.add (k * 3)) b ∧ ActOk w b := by
  have hl : k < al.length := by rw [h.1]; exact hk
  obtain ⟨⟨ad, e, r⟩, ho⟩ := h.2 k al[k] (List.getElem?_eq_getElem hl)
  exact ⟨ad, al[k], e, List.getElem?_eq_getElem hl, r, ho⟩
section
variable {H : Type} {enc : TypeId × Value → H} {P : Program} {W : World} {base : Nat} {sp : Nat → Bool} {held : Bool}
theorem trod_struct3 {t : TypeId} {f0 f1 f2 : Field} {fuel : Nat} {cs : List Value} {x : DataW H × List MemPlace} (ht : P.underlying t = some (.struct #[f0, f1, f2])) (h : DataW.trod enc P W base sp held fuel t cs = some x) :
    ∃ y0 y1 y2 n, x.1 = .agg [y0.1, y1.1, y2.1] ∧ cs.length = P.cellsOf t ∧ DataW.trod enc P W base sp held n f0.type ((cs.drop f0.offset).take (P.cellsOf f0.type)) = some y0 ∧
      DataW.trod enc P W base sp held n f1.type ((cs.drop f1.offset).take (P.cellsOf f1.type)) = some y1 ∧ DataW.trod enc P W base sp held n f2.type ((cs.drop f2.offset).take (P.cellsOf f2.type)) = some y2 := by
  obtain ⟨xs, n, _, rfl, hl, hlen, hf⟩ := DataW.trod_struct ht h
  match xs, hlen with
  | [y0, y1, y2], _ => exact ⟨y0, y1, y2, n, by simp, hl, by simpa using hf 0 f0 rfl, by simpa using hf 1 f1 rfl, by simpa using hf 2 f2 rfl⟩
set_option maxRecDepth 100000 in
theorem act3_open {fuel : Nat} {cs : List Value} {x : DataW H × List MemPlace} (h : DataW.trod enc Tryd.prog W base sp held fuel 37 cs = some x) (hz : ∀ q ∈ x.1.weights Tryd.prog 37, q ≤ reachBytes) :
    ∃ b : ActS, cs = b.vals ∧ ActOk W b := by
  obtain ⟨y0, y1, y2, n, hx, hl, h0, h1, h2⟩ := trod_struct3 Tryd.underlying37 h
  rw [hx] at hz
  clear hx
  rw [cells_act3] at hl
  match cs, hl with
  | [c0, c1, c2], _ =>
    simp only [cells_int, cells_strings, List.drop_zero, List.drop_succ_cons, List.take_succ_cons, List.take_zero] at h0 h1 h2
    obtain ⟨z0, e0, _, w0⟩ := DataW.trod_int Tryd.underlying3 h0
    obtain ⟨z1, e1, _, w1⟩ := DataW.trod_int Tryd.underlying3 h1
    obtain ⟨A, m, c, ss, e2, hS, hm⟩ := strs_open h2 (fun q hq => hz q (by
      simp only [DataW.weights, Tryd.underlying37, List.map_cons, List.map_nil, DataW.weightsEach, List.mem_append]
      exact Or.inr (Or.inr (Or.inl hq))))
    simp only [List.cons.injEq, and_true] at e0 e1 e2
    exact ⟨⟨z0, z1, A, m, c, ss⟩, by unfold ActS.vals; rw [e0, e1, e2], hS, hm, i64_of_wf w0, i64_of_wf w1⟩
set_option maxRecDepth 100000 in
theorem acts3_open {fuel : Nat} {cs : List Value} {x : DataW H × List MemPlace} (h : DataW.trod enc Tryd.prog W base sp held fuel 23 cs = some x) (hz : ∀ q ∈ x.1.weights Tryd.prog 23, q ≤ reachBytes) :
    ∃ (A : Option Addr) (n c : Nat) (al : List ActS), cs = [.slice A n c] ∧ ActsM W A n al ∧ n ≤ 140737488351232 := by
  rcases Deep.open_slice Tryd.underlying23 h with ⟨rfl, rfl⟩ | ⟨a, len, cap, m, fu, D, Pl, rfl, hb, hl, hm, hmm, rfl, hx⟩
  · exact ⟨none, 0, 0, [], rfl, ⟨rfl, fun j x hj => by simp at hj⟩, by omega⟩
  · have hle : len ≤ m := by rw [hmm]; split <;> omega
    have hw : DataW.weights Tryd.prog 23 (DataW.slice ((List.range len).map D) ((List.range (m - len)).map fun j => D (len + j))) =
        (((List.range len).map D).length + ((List.range (m - len)).map fun j => D (len + j)).length) * Tryd.prog.bytesOf 37 :: (DataW.weightsAll Tryd.prog 37 ((List.range len).map D) ++ DataW.weightsAll Tryd.prog 37 ((List.range (m - len)).map fun j => D (len + j))) := by
      simp only [DataW.weights, Tryd.underlying23]
    have hlen : len ≤ 140737488351232 := by
      have h1 := hz _ (by rw [hw]; exact List.mem_cons_self)
      simp only [List.length_map, List.length_range] at h1
      unfold reachBytes at h1
      have := Nat.le_mul_of_pos_right (len + (m - len)) (show 0 < Tryd.prog.bytesOf 37 from bytes_act3)
      omega
    obtain ⟨q, hq⟩ := Deep.choose_lt (α := ActS) (n := len) (p := fun k b => Act3 W (a.add (k * 3)) b ∧ ActOk W b) (fun i hi => by
      obtain ⟨cs', h1, h2⟩ := hx i (by omega)
      rw [cells_act3] at h1
      obtain ⟨b, rfl, hN⟩ := act3_open h2 (fun q hq => hz q (by
        rw [hw]
        exact List.mem_cons_of_mem _ (List.mem_append_left _ (mem_weightsAll (List.mem_map.2 ⟨i, List.mem_range.2 hi, rfl⟩) hq))))
      obtain ⟨_, _, hc⟩ := World.cells?_some h1
      have g0 := hc 0 (by omega)
      have g1 := hc 1 (by omega)
      have g2 := hc 2 (by omega)
      rw [addr_far _ 1 (by omega)] at g1
      rw [addr_far _ 2 (by omega)] at g2
      exact ⟨b, ⟨by simpa [Addr.add, ActS.vals] using g0, g1, g2⟩, hN⟩)
    refine ⟨some a, len, cap, (List.range len).map q, rfl, ⟨by simp, fun k b hk => ?_⟩, hlen⟩
    have hkl : k < len := by
      by_cases hkl : k < len
      · exact hkl
      · rw [List.getElem?_eq_none (by simp; omega)] at hk; simp at hk
    rw [List.getElem?_map, List.getElem?_range hkl] at hk
    simp only [Option.map_some, Option.some.injEq] at hk
    rw [← hk]
    obtain ⟨k0, k1⟩ := hq k hkl
    exact ⟨⟨a, rfl, k0⟩, k1⟩
end
/-- A script, as it lies in memory. -/
structure Scr3 where
  S : Option Addr
  sn : Nat
  sc : Nat
  ss : List ByteArray
  L : Option Addr
  ln : Nat
  lc : Nat
  acts : List ActS
def Scr3.cells (p : Scr3) : Array Value := #[.slice p.S p.sn p.sc, .slice p.L p.ln p.lc]
/-- It reads as it should. -/
structure Scr3Ok (W : World) (p : Scr3) : Prop where
  ss : Strs W p.S p.sn p.ss
  sn : p.sn ≤ 8796093022208
  acts : ActsM W p.L p.ln p.acts
  ln : p.ln ≤ 140737488351232
theorem Scr3Ok.kept {w w' : World} {p : Scr3} (h : Scr3Ok w p) (hk : Kept (fun _ => False) w w') : Scr3Ok w' p := ⟨h.ss.kept hk, h.sn, h.acts.kept hk, h.ln⟩
section
variable {H : Type} {enc : TypeId × Value → H} {W : World} {base : Nat} {sp : Nat → Bool} {held : Bool}
set_option maxRecDepth 100000 in
/-- A parameter of that type. -/
theorem scr3_open {r : Reach} {b0 : Nat} {v : Value} {d : DataW H} {p : List MemPlace} (hv : Value.okWide Tryd.prog W r b0 25 v) (h : DataW.Trod enc Tryd.prog W base sp held 25 v d p)
    (hz : ∀ q ∈ d.weights Tryd.prog 25, q ≤ reachBytes) : ∃ a : Scr3, v = .agg a.cells ∧ Scr3Ok W a := by
  obtain ⟨cs, rfl, hsz⟩ := okWide_struct Tryd.underlying25 hv
  rw [cells_scr3] at hsz
  obtain ⟨l⟩ := cs
  match l, hsz with
  | [c0, c1], _ =>
    obtain ⟨fuel, hf⟩ := h
    obtain ⟨y0, y1, n, hx, _, h0, h1⟩ := trod_struct2 Tryd.underlying25 hf
    simp only [Prod.mk.injEq] at hx
    obtain ⟨rfl, rfl⟩ := hx
    simp only [Value.cells, cells_strings, cells_acts3, List.drop_zero, List.drop_succ_cons, List.take_succ_cons, List.take_zero] at h0 h1
    obtain ⟨S, sn, sc, ss, e0, hS, hsn⟩ := strs_open h0 (fun q hq => hz q (by
      simp only [DataW.weights, Tryd.underlying25, List.map_cons, List.map_nil, DataW.weightsEach, List.mem_append]
      exact Or.inl hq))
    obtain ⟨L, ln, lc, acts, e1, hL, hln⟩ := acts3_open h1 (fun q hq => hz q (by
      simp only [DataW.weights, Tryd.underlying25, List.map_cons, List.map_nil, DataW.weightsEach, List.mem_append]
      exact Or.inr (Or.inl hq)))
    simp only [List.cons.injEq, and_true] at e0 e1
    exact ⟨⟨S, sn, sc, ss, L, ln, lc, acts⟩, by
      unfold Scr3.cells
      rw [e0, e1], ⟨hS, hsn, hL, hln⟩⟩
end
/-- The block of a parameter of that type. -/
def PS3 (w : World) (pb : Nat) (p : Scr3) : Prop := w.heap[pb]? = some (.cells p.cells 25 (0, 0))
theorem PS3.kept {T : Nat → Prop} {w w' : World} {pb : Nat} {p : Scr3} (h : PS3 w pb p) (hk : Kept T w w') (hs : ¬ T pb) : PS3 w' pb p := (hk.block pb (heap_lt h) hs).trans h
theorem PS3.c {w : World} {pb : Nat} {p : Scr3} (h : PS3 w pb p) (i : Nat) : w.cell? ⟨pb, i, none⟩ = p.cells[i]? := cell_of_row w pb i _ _ _ h
/-- What weighs little. -/
structure Light (p : Scr3) : Prop where
  s : p.sn + byL p.ss ≤ 9000
  n : p.ln ≤ 9000
  a : ∀ b ∈ p.acts, b.m + byL b.l ≤ 9000
/-- What Heavy tells. -/
def HvRet (p : Scr3) (e : Ending) : Prop := ∃ E, e = .returned (.bool E) ∧ (E = false → Light p)
set_option maxRecDepth 100000 in
set_option maxHeartbeats 2000000 in
theorem heavy3_any (p : Scr3) (w : World) (h : Scr3Ok w p) : Calls Tryd.prog 5 #[.agg p.cells] w fun e w' => HvRet p e ∧ Kept (fun _ => False) w w' := by
  have hk0 : Kept (fun _ => False) w (w.alloc (.cells p.cells 25)) := (Kept.refl _ w).alloc _
  have HP := Lib.hid (h.kept hk0)
  have HPS : Hid (PS3 (w.alloc (.cells p.cells 25)) w.heap.size p) := heap_alloc_new w _
  have HK0 := Lib.hid hk0
  have cS := (texts_any p.S p.sn p.sc p.ss _ (h.kept hk0).ss h.sn)
  have hsn := h.sn
  have hln := h.ln
  clear h hk0
  obtain ⟨S, sn, sc, ss, LA, ln, lc, acts⟩ := p
  unfold Scr3.cells at *
  simp only at *
  have q0 := HPS.out.c 0
  have q1 := HPS.out.c 1
  simp only [Scr3.cells] at q0 q1
  go_enter Tryd.func5, Tryd.ntmps5
  go_upto_region 1 with fail
  generalize w.alloc (.cells #[.slice S sn sc, .slice LA ln lc] 25) = w0 at *
  generalize w.heap.size = pb at *
  have p0 : w0.cell? ⟨pb, 0, none⟩ = some (.slice S sn sc) := q0
  have p1 : w0.cell? ⟨pb, 1, none⟩ = some (.slice LA ln lc) := q1
  clear q0 q1
  go_wp2_with (go_at_call 24; refine cS.mono ?_; rintro e w1 ⟨⟨q, rfl, hq0, hq1, hq2⟩, hw⟩; have hw2 := hw.symm; subst hw2; have HQ := Lib.hid hq2; clear cS hq2)
  go_loopw [3, 4] (fun v i wr => ∃ (k : Nat) (z : Int), k ≤ ln ∧ i = .int .i64 k ∧ v = .int .i64 z ∧ 0 ≤ z ∧ z ≤ 400000000000000 ∧ wr = w0 ∧ (z ≤ 1000000 → sn + byL ss + k ≤ z ∧ ∀ j b, j < k → acts[j]? = some b → b.m + byL b.l ≤ z)) (fun _ i _ => ln - (intOf i).toNat)
  case atStart => exact ⟨0, q, Nat.zero_le _, rfl, rfl, hq0, by omega, rfl, fun hz => ⟨by have := HQ.out hz; omega, fun j b hj => absurd hj (Nat.not_lt_zero _)⟩⟩
  case round =>
    obtain ⟨k, z, hk, rfl, rfl, hz0, hz1, rfl, hz2⟩ := hrel
    have HZ := Lib.hid hz2
    clear hz2
    by_cases hlt : k < ln
    · have b1 : decide (k < ln) = true := decide_eq_true hlt
      have b2 : decide ((k : Int) < (ln : Int)) = true := decide_eq_true (by omega)
      have t1 : (0 : Int) ≤ (k : Int) := by omega
      have t2 : (k : Int) < (ln : Int) := by omega
      by_cases hq : z < 1048576
      · have b3 : decide (z < 1048576) = true := decide_eq_true hq
        obtain ⟨ad, b, rfl, hb, h3, hok⟩ := HP.out.acts.at_ hlt
        have f2 := h3.c2
        have HB := Lib.hid hb
        have cT := texts_any b.A b.m b.c b.l wr hok.ss hok.m
        have ez : IntKind.i64.wrap (z + 1) = z + 1 := IntWalk.i64_in _ ⟨by omega, by omega⟩
        clear h3 hb hok
        go_wp2_with (go_at_call 24; refine cT.mono ?_; rintro e w2 ⟨⟨y, rfl, hy0, hy1, hy2⟩, hw⟩; have hw2 := hw.symm; subst hw2; have HY := Lib.hid hy2; have ey : IntKind.i64.wrap (z + 1 + y) = z + 1 + y := IntWalk.i64_in _ ⟨by omega, by omega⟩; clear cT hy2)
        go_roundw
        case rel => exact ⟨k + 1, z + 1 + y, by omega, by go_num, by go_num, by omega, by omega, trivial, fun hz => ⟨by have := (HZ.out (by omega)).1; omega, fun j b' hj hb' => by
          by_cases hjk : j < k
          · have := (HZ.out (by omega)).2 j b' hjk hb'
            omega
          · obtain rfl : j = k := by omega
            rw [HB.out] at hb'
            cases hb'
            have := HY.out (by omega)
            omega⟩⟩
        case measure => simp [intOf] <;> omega
      · have b3 : decide (z < 1048576) = false := decide_eq_false hq
        have b4 : decide (9000 < z) = true := decide_eq_true (by omega)
        go_wp2_with fail
        go_ret
        exact ⟨⟨true, rfl, fun h => by cases h⟩, HK0.out⟩
    · obtain rfl : k = ln := by omega
      have b1 : decide (k < k) = false := decide_eq_false (by omega)
      have b2 : decide ((k : Int) < (k : Int)) = false := decide_eq_false (by omega)
      have HF : Hid (decide (9000 < z) = false → Light ⟨S, sn, sc, ss, LA, k, lc, acts⟩) := fun h => by
        have hz9 : ¬ 9000 < z := of_decide_eq_false h
        obtain ⟨g1, g2⟩ := HZ.out (by omega)
        refine ⟨by simp only; omega, by simp only; omega, fun b hb => ?_⟩
        obtain ⟨j, hj, rfl⟩ := List.getElem_of_mem hb
        have := g2 j _ (by have := HP.out.acts.1; simp only at this hj; omega) (List.getElem?_eq_getElem hj)
        omega
      go_wp2_with fail
      go_ret
      exact ⟨⟨_, rfl, HF.out⟩, HK0.out⟩
end Go.Proofs.YtdgbaeliabaneaaDoor
