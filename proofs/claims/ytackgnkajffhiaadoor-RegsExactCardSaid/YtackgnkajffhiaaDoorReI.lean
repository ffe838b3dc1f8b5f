/-
  REGISTERS: a script opened, whole; how much it weighs; Get, whatever is asked.
-/
import Derived.Test.YtackgnkajffhiaaDoorReE
import Derived.Test.YtackgnkajffhiaaDoorReD
import Derived.Test.YtackgnkajffhiaaDoorRsO
set_option linter.unusedVariables false
namespace Go.Proofs.YtackgnkajffhiaaDoor
open Go Go.RowKit Go.ChangeShapes Go.WideShapes Go.ChangeAt

theorem cells_bool : Tryd.prog.cellsOf 4 = 1 := by kernel_rfl
theorem cells_reg : Tryd.prog.cellsOf 41 = 3 := by kernel_rfl
theorem cells_act9 : Tryd.prog.cellsOf 35 = 4 := by kernel_rfl
theorem bytes_reg : Tryd.prog.bytesOf 41 = 32 := by kernel_rfl
theorem bytes_act9 : 0 < Tryd.prog.bytesOf 35 := by rw [show Tryd.prog.bytesOf 35 = 40 by kernel_rfl]; decide
/-- An act, as it lies in memory. -/
structure ActR where
  k : Int
  nm : Int
  s : ByteArray
  b : Bool
instance : Inhabited ActR := ⟨⟨0, 0, .empty, false⟩⟩
def ActR.vals (a : ActR) : List Value := [.int .i64 a.k, .int .i64 a.nm, .string a.s, .bool a.b]
def ActR.good (a : ActR) : Prop := I64 a.k ∧ I64 a.nm ∧ a.s.size ≤ 140737488351232
/-- A slice of acts. -/
def ActsR (w : World) (A : Option Addr) (n : Nat) (al : List ActR) : Prop :=
  al.length = n ∧ ∀ k b, al[k]? = some b → (∃ ad, A = some ad ∧ w.cell? (ad.add (k * 4)) = some (.int .i64 b.k) ∧ w.cell? ⟨(ad.add (k * 4)).block, (ad.add (k * 4)).off + 1, none⟩ = some (.int .i64 b.nm) ∧
    w.cell? ⟨(ad.add (k * 4)).block, (ad.add (k * 4)).off + 2, none⟩ = some (.string b.s) ∧ w.cell? ⟨(ad.add (k * 4)).block, (ad.add (k * 4)).off + 3, none⟩ = some (.bool b.b)) ∧ b.good
theorem ActsR.kept {w w' : World} {A : Option Addr} {n : Nat} {al : List ActR} (h : ActsR w A n al) (hk : Kept (fun _ => False) w w') : ActsR w' A n al := by
  refine ⟨h.1, fun j b hj => ?_⟩
  obtain ⟨⟨ad, e, r0, r1, r2, r3⟩, hs⟩ := h.2 j b hj
  exact ⟨⟨ad, e, cell_kept hk r0 id, cell_kept hk r1 id, cell_kept hk r2 id, cell_kept hk r3 id⟩, hs⟩
theorem ActsR.at_ {w : World} {A : Option Addr} {n : Nat} {al : List ActR} (h : ActsR w A n al) {k : Nat} (hk : k < n) : ∃ ad b, A = some ad ∧ al[k]? = some b ∧ w.cell? (ad.add (k * 4)) = some (.int .i64 b.k) ∧ w.cell? ⟨(ad.add (k * 4)).block, (ad.add (k * 4)).off + 1, none⟩ = some (.int .i64 b.nm) ∧
    w.cell? ⟨(ad.add (k * 4)).block, (ad.add (k * 4)).off + 2, none⟩ = some (.string b.s) ∧ w.cell? ⟨(ad.add (k * 4)).block, (ad.add (k * 4)).off + 3, none⟩ = some (.bool b.b) ∧ b.good := by
  have hl : k < al.length := by rw [h.1]; exact hk
  obtain ⟨⟨ad, e, r0, r1, r2, r3⟩, hs⟩ := h.2 k al[k] (List.getElem?_eq_getElem hl)
  exact ⟨ad, al[k], e, List.getElem?_eq_getElem hl, r0, r1, r2, r3, hs⟩
section
variable {H : Type} {enc : TypeId × Value → H} {W : World} {base : Nat} {sp : Nat → Bool} {held : Bool}
set_option maxRecDepth 100000 in
theorem reg_open {fuel : Nat} {cs : List Value} {x : DataW H × List MemPlace} (h : DataW.trod enc Tryd.prog W base sp held fuel 41 cs = some x) (hz : ∀ q ∈ x.1.weights Tryd.prog 41, q ≤ reachBytes) :
    ∃ r : RegS, cs = r.vs ∧ r.s.size ≤ 140737488351232 := by
  obtain ⟨y0, y1, y2, n, rfl, hl, h0, h1, h2⟩ := Deep.trod_struct3 Tryd.underlying41 h
  rw [cells_reg] at hl
  match cs, hl with
  | [c0, c1, c2], _ =>
    simp only [cells_int, cells_string, cells_bool, List.drop_zero, List.drop_succ_cons, List.take_succ_cons, List.take_zero] at h0 h1 h2
    obtain ⟨z0, e0, rfl, _⟩ := DataW.trod_int Tryd.underlying3 h0
    obtain ⟨S, e1, rfl, _⟩ := DataW.trod_string Tryd.underlying9 h1
    obtain ⟨b, e2, rfl⟩ := DataW.trod_bool Tryd.underlying4 h2
    have hsz : S.size ≤ 140737488351232 := by
      have := hz S.data.toList.length (by
        simp only [DataW.weights, Tryd.underlying41, List.map_cons, List.map_nil, DataW.weightsEach, List.nil_append, List.append_nil, List.mem_singleton])
      rw [Array.length_toList] at this
      exact this
    simp only [List.cons.injEq, and_true] at e0 e1 e2
    exact ⟨⟨z0, S, b⟩, by unfold RegS.vs; rw [e0, e1, e2], hsz⟩
set_option maxRecDepth 100000 in
theorem act9_open {fuel : Nat} {cs : List Value} {x : DataW H × List MemPlace} (h : DataW.trod enc Tryd.prog W base sp held fuel 35 cs = some x) (hz : ∀ q ∈ x.1.weights Tryd.prog 35, q ≤ reachBytes) :
    ∃ b : ActR, cs = b.vals ∧ b.good := by
  obtain ⟨y0, y1, y2, y3, n, rfl, hl, h0, h1, h2, h3⟩ := Joins.trod_struct4 Tryd.underlying35 h
  rw [cells_act9] at hl
  match cs, hl with
  | [c0, c1, c2, c3], _ =>
    simp only [cells_int, cells_string, cells_bool, List.drop_zero, List.drop_succ_cons, List.take_succ_cons, List.take_zero] at h0 h1 h2 h3
    obtain ⟨z0, e0, rfl, w0⟩ := DataW.trod_int Tryd.underlying3 h0
    obtain ⟨z1, e1, rfl, w1⟩ := DataW.trod_int Tryd.underlying3 h1
    obtain ⟨S, e2, rfl, _⟩ := DataW.trod_string Tryd.underlying9 h2
    obtain ⟨b, e3, rfl⟩ := DataW.trod_bool Tryd.underlying4 h3
    have hsz : S.size ≤ 140737488351232 := by
      have := hz S.data.toList.length (by
        simp only [DataW.weights, Tryd.underlying35, List.map_cons, List.map_nil, DataW.weightsEach, List.nil_append, List.append_nil, List.mem_singleton])
      rw [Array.length_toList] at this
      exact this
    simp only [List.cons.injEq, and_true] at e0 e1 e2 e3
    exact ⟨⟨z0, z1, S, b⟩, by unfold ActR.vals; rw [e0, e1, e2, e3], i64_of_wf w0, i64_of_wf w1, hsz⟩
set_option maxRecDepth 100000 in
theorem regs_open {fuel : Nat} {cs : List Value} {x : DataW H × List MemPlace} (h : DataW.trod enc Tryd.prog W base sp held fuel 22 cs = some x) (hz : ∀ q ∈ x.1.weights Tryd.prog 22, q ≤ reachBytes) :
    ∃ (A : Option Addr) (n c : Nat) (M : List RegS), cs = [.slice A n c] ∧ Rg W A n M ∧ n ≤ 140737488351232 ∧ (A = none → n = 0 ∧ c = 0) := by
  rcases Deep.open_slice Tryd.underlying22 h with ⟨rfl, rfl⟩ | ⟨a, len, cap, m, fu, D, Pl, rfl, hb, hl, hm, hmm, rfl, hx⟩
  · exact ⟨none, 0, 0, [], rfl, ⟨rfl, (fun j x hj => by simp at hj), fun r hr => by simp at hr⟩, by omega, fun _ => ⟨rfl, rfl⟩⟩
  · have hle : len ≤ m := by rw [hmm]; split <;> omega
    have hw : DataW.weights Tryd.prog 22 (DataW.slice ((List.range len).map D) ((List.range (m - len)).map fun j => D (len + j))) =
        (((List.range len).map D).length + ((List.range (m - len)).map fun j => D (len + j)).length) * Tryd.prog.bytesOf 41 :: (DataW.weightsAll Tryd.prog 41 ((List.range len).map D) ++ DataW.weightsAll Tryd.prog 41 ((List.range (m - len)).map fun j => D (len + j))) := by
      simp only [DataW.weights, Tryd.underlying22]
    have hlen : len ≤ 140737488351232 := by
      have h1 := hz _ (by rw [hw]; exact List.mem_cons_self)
      simp only [List.length_map, List.length_range, bytes_reg] at h1
      unfold reachBytes at h1
      omega
    obtain ⟨q, hq⟩ := Deep.choose_lt (α := RegS) (n := len) (p := fun k r => Rg3 W (a.add (k * 3)) r ∧ r.s.size ≤ 140737488351232) (fun i hi => by
      obtain ⟨cs', h1, h2⟩ := hx i (by omega)
      rw [cells_reg] at h1
      obtain ⟨b, rfl, hN⟩ := reg_open h2 (fun q hq => hz q (by
        rw [hw]
        exact List.mem_cons_of_mem _ (List.mem_append_left _ (mem_weightsAll (List.mem_map.2 ⟨i, List.mem_range.2 hi, rfl⟩) hq))))
      obtain ⟨_, _, hc⟩ := World.cells?_some h1
      have g0 := hc 0 (by omega)
      have g1 := hc 1 (by omega)
      have g2 := hc 2 (by omega)
      rw [addr_far _ 1 (by omega)] at g1
      rw [addr_far _ 2 (by omega)] at g2
      exact ⟨b, ⟨by simpa [Addr.add, RegS.vs] using g0, g1, g2⟩, hN⟩)
    refine ⟨some a, len, cap, (List.range len).map q, rfl, ⟨by simp, fun k b hk => ?_, fun r hr => ?_⟩, hlen, fun h => by cases h⟩
    · have hkl : k < len := by
        by_cases hkl : k < len
        · exact hkl
        · rw [List.getElem?_eq_none (by simp; omega)] at hk; simp at hk
      rw [List.getElem?_map, List.getElem?_range hkl] at hk
      simp only [Option.map_some, Option.some.injEq] at hk
      rw [← hk]
      exact ⟨a, rfl, (hq k hkl).1⟩
    · obtain ⟨i, hi, rfl⟩ := List.mem_map.1 hr
      exact (hq i (List.mem_range.1 hi)).2
set_option maxRecDepth 100000 in
theorem acts9_open {fuel : Nat} {cs : List Value} {x : DataW H × List MemPlace} (h : DataW.trod enc Tryd.prog W base sp held fuel 23 cs = some x) (hz : ∀ q ∈ x.1.weights Tryd.prog 23, q ≤ reachBytes) :
    ∃ (A : Option Addr) (n c : Nat) (ps : List ActR), cs = [.slice A n c] ∧ ActsR W A n ps ∧ n ≤ 140737488351232 := by
  rcases Deep.open_slice Tryd.underlying23 h with ⟨rfl, rfl⟩ | ⟨a, len, cap, m, fu, D, Pl, rfl, hb, hl, hm, hmm, rfl, hx⟩
  · exact ⟨none, 0, 0, [], rfl, ⟨rfl, fun j x hj => by simp at hj⟩, by omega⟩
  · have hle : len ≤ m := by rw [hmm]; split <;> omega
    have hw : DataW.weights Tryd.prog 23 (DataW.slice ((List.range len).map D) ((List.range (m - len)).map fun j => D (len + j))) =
        (((List.range len).map D).length + ((List.range (m - len)).map fun j => D (len + j)).length) * Tryd.prog.bytesOf 35 :: (DataW.weightsAll Tryd.prog 35 ((List.range len).map D) ++ DataW.weightsAll Tryd.prog 35 ((List.range (m - len)).map fun j => D (len + j))) := by
      simp only [DataW.weights, Tryd.underlying23]
    have hlen : len ≤ 140737488351232 := by
      have h1 := hz _ (by rw [hw]; exact List.mem_cons_self)
      simp only [List.length_map, List.length_range] at h1
      unfold reachBytes at h1
      have := Nat.le_mul_of_pos_right (len + (m - len)) (show 0 < Tryd.prog.bytesOf 35 from bytes_act9)
      omega
    obtain ⟨q, hq⟩ := Deep.choose_lt (α := ActR) (n := len) (p := fun k b => W.cell? (a.add (k * 4)) = some (.int .i64 b.k) ∧ W.cell? ⟨(a.add (k * 4)).block, (a.add (k * 4)).off + 1, none⟩ = some (.int .i64 b.nm) ∧
        W.cell? ⟨(a.add (k * 4)).block, (a.add (k * 4)).off + 2, none⟩ = some (.string b.s) ∧ W.cell? ⟨(a.add (k * 4)).block, (a.add (k * 4)).off + 3, none⟩ = some (.bool b.b) ∧ b.good) (fun i hi => by
      obtain ⟨cs', h1, h2⟩ := hx i (by omega)
      rw [cells_act9] at h1
      obtain ⟨b, rfl, hN⟩ := act9_open h2 (fun q hq => hz q (by
        rw [hw]
        exact List.mem_cons_of_mem _ (List.mem_append_left _ (mem_weightsAll (List.mem_map.2 ⟨i, List.mem_range.2 hi, rfl⟩) hq))))
      obtain ⟨_, _, hc⟩ := World.cells?_some h1
      have g0 := hc 0 (by omega)
      have g1 := hc 1 (by omega)
      have g2 := hc 2 (by omega)
      have g3 := hc 3 (by omega)
      rw [addr_far _ 1 (by omega)] at g1
      rw [addr_far _ 2 (by omega)] at g2
      rw [addr_far _ 3 (by omega)] at g3
      exact ⟨b, by simpa [Addr.add, ActR.vals] using g0, g1, g2, g3, hN⟩)
    refine ⟨some a, len, cap, (List.range len).map q, rfl, ⟨by simp, fun k b hk => ?_⟩, hlen⟩
    have hkl : k < len := by
      by_cases hkl : k < len
      · exact hkl
      · rw [List.getElem?_eq_none (by simp; omega)] at hk; simp at hk
    rw [List.getElem?_map, List.getElem?_range hkl] at hk
    simp only [Option.map_some, Option.some.injEq] at hk
    rw [← hk]
    obtain ⟨k0, k1, k2, k3, k4⟩ := hq k hkl
    exact ⟨⟨a, rfl, k0, k1, k2, k3⟩, k4⟩
end
/-- A script of registers, as it lies in memory. -/
structure ScrR where
  R : Option Addr
  rn : Nat
  rc : Nat
  regs : List RegS
  L : Option Addr
  ln : Nat
  lc : Nat
  acts : List ActR
def ScrR.cells (p : ScrR) : Array Value := #[.slice p.R p.rn p.rc, .slice p.L p.ln p.lc]
/-- It reads as it should. -/
structure ScrROk (W : World) (p : ScrR) : Prop where
  regs : Rg W p.R p.rn p.regs
  rn : p.rn ≤ 140737488351232
  cp : p.R = none → p.rn = 0 ∧ p.rc = 0
  acts : ActsR W p.L p.ln p.acts
  ln : p.ln ≤ 140737488351232
theorem ScrROk.kept {w w' : World} {p : ScrR} (h : ScrROk w p) (hk : Kept (fun _ => False) w w') : ScrROk w' p := ⟨h.regs.kept hk (fun _ _ => id), h.rn, h.cp, h.acts.kept hk, h.ln⟩
section
variable {H : Type} {enc : TypeId × Value → H} {W : World} {base : Nat} {sp : Nat → Bool} {held : Bool}
set_option maxRecDepth 100000 in
/-- A parameter of that type. -/
theorem scrR_open {r : Reach} {b0 : Nat} {v : Value} {d : DataW H} {p : List MemPlace} (hv : Value.okWide Tryd.prog W r b0 25 v) (h : DataW.Trod enc Tryd.prog W base sp held 25 v d p)
    (hz : ∀ q ∈ d.weights Tryd.prog 25, q ≤ reachBytes) : ∃ a : ScrR, v = .agg a.cells ∧ ScrROk W a := by
  obtain ⟨cs, rfl, hsz⟩ := okWide_struct Tryd.underlying25 hv
  rw [cells_scr9] at hsz
  obtain ⟨l⟩ := cs
  match l, hsz with
  | [c0, c1], _ =>
    obtain ⟨fuel, hf⟩ := h
    obtain ⟨y0, y1, n, hx, _, h0, h1⟩ := trod_struct2 Tryd.underlying25 hf
    simp only [Prod.mk.injEq] at hx
    obtain ⟨rfl, rfl⟩ := hx
    simp only [Value.cells, cells_regs9, cells_acts9, List.drop_zero, List.drop_succ_cons, List.take_succ_cons, List.take_zero] at h0 h1
    obtain ⟨R, rn, rc, regs, e0, hR, hrn, hcp⟩ := regs_open h0 (fun q hq => hz q (by
      simp only [DataW.weights, Tryd.underlying25, List.map_cons, List.map_nil, DataW.weightsEach, List.mem_append]
      exact Or.inl hq))
    obtain ⟨L, ln, lc, acts, e1, hL, hln⟩ := acts9_open h1 (fun q hq => hz q (by
      simp only [DataW.weights, Tryd.underlying25, List.map_cons, List.map_nil, DataW.weightsEach, List.mem_append]
      exact Or.inr (Or.inl hq)))
    simp only [List.cons.injEq, and_true] at e0 e1
    exact ⟨⟨R, rn, rc, regs, L, ln, lc, acts⟩, by
      unfold ScrR.cells
      rw [e0, e1], ⟨hR, hrn, hcp, hL, hln⟩⟩
end
/-- The block of a parameter of that type. -/
def PSr (w : World) (pb : Nat) (p : ScrR) : Prop := w.heap[pb]? = some (.cells p.cells 25 (0, 0))
theorem PSr.kept {T : Nat → Prop} {w w' : World} {pb : Nat} {p : ScrR} (h : PSr w pb p) (hk : Kept T w w') (hs : ¬ T pb) : PSr w' pb p := (hk.block pb (heap_lt h) hs).trans h
theorem PSr.c {w : World} {pb : Nat} {p : ScrR} (h : PSr w pb p) (i : Nat) : w.cell? ⟨pb, i, none⟩ = p.cells[i]? := cell_of_row w pb i _ _ _ h
set_option maxRecDepth 100000 in
set_option maxHeartbeats 1000000 in
theorem regsweight_any (A : Option Addr) (n c : Nat) (M : List RegS) (w : World) (h : Rg w A n M) (hn : n ≤ 140737488351232) :
    Calls Tryd.prog 15 #[.slice A n c] w fun e w' => (∃ q : Int, e = .returned (.int .i64 q) ∧ (n : Int) ≤ q ∧ q ≤ 281474978000000) ∧ w' = w := by
  have HA := Lib.hid h
  clear h
  go_enter Tryd.func15, Tryd.ntmps15
  go_wp2_with fail
  go_loop [3, 4] (fun v i => ∃ (k : Nat) (q : Int), k ≤ n ∧ i = .int .i64 k ∧ v = .int .i64 q ∧ (n : Int) ≤ q ∧ q ≤ 281474978000000) (fun _ i => n - (intOf i).toNat)
  case atStart => exact ⟨0, n, Nat.zero_le _, rfl, rfl, by omega, by omega⟩
  case round =>
    obtain ⟨k, q, hk, rfl, rfl, h1, h2⟩ := hrel
    by_cases hlt : k < n
    · have b2 : decide ((k : Int) < (n : Int)) = true := decide_eq_true (by omega)
      have b1 : decide (k < n) = true := decide_eq_true hlt
      by_cases hq : q < 1048576
      · obtain ⟨ad, b, rfl, hs, h3, hsz⟩ := HA.out.at_ hlt
        have c1 := h3.c1
        have t1 : (0 : Int) ≤ (k : Int) := by omega
        have t2 : (k : Int) < (n : Int) := by omega
        clear hs h3
        have bq : decide (q < 1048576) = true := by simp; omega
        go_wp2
        go_round
        case rel => exact ⟨k + 1, q + b.s.size, by omega, by go_num, by go_num, by omega, by omega⟩
        case measure => simp [intOf]; omega
      · have bq : decide (q < 1048576) = false := by simp; omega
        go_wp2
        go_ret
        exact ⟨⟨_, rfl, h1, h2⟩, rfl⟩
    · obtain rfl : k = n := by omega
      have b1 : decide (k < k) = false := decide_eq_false (by omega)
      have b2 : decide ((k : Int) < (k : Int)) = false := decide_eq_false (by omega)
      go_wp2
      go_ret
      exact ⟨⟨_, rfl, h1, h2⟩, rfl⟩
set_option maxRecDepth 100000 in
set_option maxHeartbeats 1000000 in
theorem heavy9_any (p : ScrR) (w : World) (h : ScrROk w p) :
    Calls Tryd.prog 5 #[.agg p.cells] w fun e w' => (∃ b : Bool, e = .returned (.bool b) ∧ (b = false → p.rn ≤ 20000)) ∧ Kept (fun _ => False) w w' := by
  have hK0 : Hid (Kept (fun _ => False) w (w.alloc (.cells p.cells 25))) := (Kept.refl _ w).alloc _
  have hP0 : Hid (PSr (w.alloc (.cells p.cells 25)) w.heap.size p) := heap_alloc_new w _
  have hA0 : Hid (ScrROk (w.alloc (.cells p.cells 25)) p) := h.kept hK0.out
  obtain ⟨R, rn, rc, regs, L, ln, lc, acts⟩ := p
  have hmn : rn ≤ 140737488351232 := h.rn
  have hln : ln ≤ 140737488351232 := h.ln
  clear h
  unfold ScrR.cells at *
  simp only at *
  go_enter Tryd.func5, Tryd.ntmps5
  go_upto_region 1 with fail
  generalize hpb : w.heap.size = pb at hP0 ⊢
  clear hpb
  generalize w.alloc (.cells #[.slice R rn rc, .slice L ln lc] 25) = wa at *
  have p0 : wa.cell? ⟨pb, 0, none⟩ = some (.slice R rn rc) := hP0.out.c 0
  have p1 : wa.cell? ⟨pb, 1, none⟩ = some (.slice L ln lc) := hP0.out.c 1
  have cW := regsweight_any R rn rc regs wa hA0.out.regs hmn
  go_wp2_with (go_at_call 15; refine cW.mono ?_; clear cW; rintro e w' ⟨⟨q0, rfl, hq1, hq2⟩, hw⟩; have hw2 := hw.symm; subst hw2)
  go_loop [3, 4] (fun v i => ∃ (k : Nat) (q : Int), k ≤ ln ∧ i = .int .i64 k ∧ v = .int .i64 q ∧ (rn : Int) ≤ q ∧ q ≤ 600000000000000) (fun _ i => ln - (intOf i).toNat)
  case atStart => exact ⟨0, q0, Nat.zero_le _, rfl, rfl, by omega, by omega⟩
  case round =>
    obtain ⟨k, q, hk, rfl, rfl, h1, h2⟩ := hrel
    by_cases hlt : k < ln
    · by_cases hq : q < 1048576
      · obtain ⟨ad, b, rfl, hs, c0, c1, c2, c3, _, _, hsz⟩ := hA0.out.acts.at_ hlt
        clear hs c0 c1 c3
        have bq : decide (q < 1048576) = true := by simp; omega
        go_wp2
        go_round
        case rel => exact ⟨k + 1, q + 1 + b.s.size, by omega, by go_num, by go_num, by omega, by omega⟩
        case measure => simp [intOf]; omega
      · have bq : decide (q < 1048576) = false := by simp; omega
        have b6 : decide (20000 < q) = true := by simp; omega
        go_wp2
        go_ret
        exact ⟨.inr rfl, hK0.out⟩
    · obtain rfl : k = ln := by omega
      by_cases hq6 : 20000 < q
      · have b6 : decide (20000 < q) = true := by simp; omega
        go_wp2
        go_ret
        exact ⟨.inr rfl, hK0.out⟩
      · have b6 : decide (20000 < q) = false := by simp; omega
        have hm4 : rn ≤ 20000 := by omega
        go_wp2
        go_ret
        exact ⟨.inl rfl, hK0.out⟩
/-- What Get tells. -/
def getA (M : List RegS) (z : Int) : Value := if Rs.okB M = true ∧ Rs.Td z then gotV (Rs.get M (nmOf z)) else .tuple #[regV zReg, .int .i64 1]
set_option maxRecDepth 100000 in
set_option maxHeartbeats 4000000 in
theorem get_all (v : Value) (M : List RegS) (z : Int) (w : World) (h : Sl w v M) (hn : M.length ≤ 90000) (hT : Tabs w) :
    Calls Tryd.prog 14 #[v, .int .i64 z] w fun e w' => e = .returned (getA M z) ∧ Kept (fun _ => False) w w' := by
  unfold getA
  by_cases hc : Rs.okB M = true ∧ Rs.Td z
  · rw [if_pos hc]
    exact get_sl v M z w h (by omega) (Rs.ok_of hc.1) hc.2 hT
  · rw [if_neg hc]
    have hk0 : Kept (fun _ => False) w (w.alloc (regO zReg)) := (Kept.refl _ w).alloc _
    have hz0 : (w.alloc (regO zReg)).heap[w.heap.size]? = some (regO zReg) := heap_alloc_new w _
    have cC := check_sl_any v M _ (h.kept hk0) (by omega) (hT.kept hk0 id id)
    have cT := fun W => told_any z W
    have HK0 := Lib.hid hk0
    have HZ := Lib.hid hz0
    unfold okE at cC
    have hcc : Rs.okB M = false ∨ (Rs.okB M = true ∧ ¬ Rs.Td z) := by
      cases hb : Rs.okB M with
      | false => exact .inl rfl
      | true => exact .inr ⟨rfl, fun ht => hc ⟨hb, ht⟩⟩
    clear h hk0 hz0 hT hc
    have HZA : Hid (∀ w3, Kept (fun _ => False) (w.alloc (regO zReg)) w3 → (w3.cell? ⟨w.heap.size, 0, none⟩ = some (.int .i64 0) ∧ w3.cell? ⟨w.heap.size, 1, none⟩ = some (.string ⟨#[]⟩) ∧ w3.cell? ⟨w.heap.size, 2, none⟩ = some (.bool false)) ∧ w3.frozen? ⟨w.heap.size, 0, none⟩ = false ∧ w3.frozen? ⟨w.heap.size, 1, none⟩ = false ∧ w3.frozen? ⟨w.heap.size, 2, none⟩ = false) := fun w3 hk => rzs (r := zReg) (hk.cellsAt HZ.out id)
    go_enter Tryd.func14, Tryd.ntmps14
    go_upto_region 1 with fail
    simp only [regO] at cC HK0 HZ HZA
    generalize w.alloc (.cells #[.int .i64 0, .string ⟨#[]⟩, .bool false] 41) = w1 at *
    generalize hrb : w.heap.size = rb at *
    have HRB := Lib.hid hrb
    clear hrb
    rcases hcc with hb | ⟨hb, ht⟩
    · simp only [hb, Bool.false_eq_true, if_false] at cC
      clear hb cT
      go_wp2_with (go_at_call 8; refine cC.mono ?_; clear cC; rintro e w3 ⟨rfl, hk3⟩; have HK3 := Lib.hid hk3; obtain ⟨⟨d0, d1, d2⟩, f0, f1, f2⟩ := HZA.out w3 hk3; clear hk3)
      exact bodyPost_ret (res_reg2 rfl _ _ rb zReg (0, 0) rfl (three (HK3.out.cellsAt HZ.out id) _ _ _)) rfl ⟨rfl, (HK0.out.trans HK3.out).fresh (Kept.three (Kept.refl (fun q => q = rb) w3) rfl _ _ _) (fun q hq e => by have e : q = rb := e; have := HRB.out; omega)⟩
    · simp only [hb, if_true] at cC
      rw [decide_eq_false ht] at cT
      clear hb ht
      go_wp2_with (first
        | (go_at_call 8; refine cC.mono ?_; clear cC; rintro e w3 ⟨rfl, hk3⟩; have HK3 := Lib.hid hk3; obtain ⟨⟨d0, d1, d2⟩, f0, f1, f2⟩ := HZA.out w3 hk3; clear hk3)
        | (go_at_call 29; refine (cT _).mono ?_; rintro e w' ⟨rfl, hw⟩; have hw2 := hw.symm; subst hw2))
      exact bodyPost_ret (res_reg2 rfl _ _ rb zReg (0, 0) rfl (three (HK3.out.cellsAt HZ.out id) _ _ _)) rfl ⟨rfl, (HK0.out.trans HK3.out).fresh (Kept.three (Kept.refl (fun q => q = rb) w3) rfl _ _ _) (fun q hq e => by have e : q = rb := e; have := HRB.out; omega)⟩
end Go.Proofs.YtackgnkajffhiaaDoor
