/-
  ELEMENTS: an id that none has is not found; an op is made.
-/
import Derived.Test.YtlminkbaafjloaaDoorOdF
import Derived.Laws.ResultCell
import Derived.Lib.MinMax
set_option linter.unusedVariables false
namespace Go.Proofs.YtlminkbaafjloaaDoor
open Go Go.RowKit

set_option maxRecDepth 100000 in
set_option maxHeartbeats 2000000 in
theorem findc_no (xb : Nat) (t s : Int) (e : ElemS) (w : World) (hX : w.heap[xb]? = some (.cells #[.int .i64 t, .int .i64 s] 47 (0, 0))) (hne : ¬ (e.t = t ∧ e.si = s)) :
    Calls Tryd.prog 63 #[elemV e, .pointer (some ⟨xb, 0, none⟩)] w fun ee w' => ee = .returned (.bool false) ∧ Kept (fun _ => False) w w' := by
  have hk0 : Kept (fun _ => False) w (w.alloc (elemO e)) := (Kept.refl _ w).alloc _
  have HK0 := Lib.hid hk0
  have HE : Hid (El4 (w.alloc (elemO e)) ⟨w.heap.size, 0, none⟩ e) := el4_new
  have hX1 := (hk0.block xb (heap_lt hX) id).trans hX
  have x0 : (w.alloc (elemO e)).cell? ⟨xb, 0, none⟩ = some (.int .i64 t) := cell_of_row _ _ _ _ _ _ hX1
  have x1 : (w.alloc (elemO e)).cell? ⟨xb, 1, none⟩ = some (.int .i64 s) := cell_of_row _ _ _ _ _ _ hX1
  have hss : (e.t == t) = false ∨ ((e.t == t) = true ∧ (e.si == s) = false) := by
    by_cases h1 : e.t = t
    · exact .inr ⟨by simp [h1], beq_eq_false_iff_ne.2 (fun h2 => hne ⟨h1, h2⟩)⟩
    · exact .inl (beq_eq_false_iff_ne.2 h1)
  clear hk0 hX hX1 hne
  go_enter Tryd.func63, Tryd.ntmps63
  go_upto_region 1 with fail
  simp only [elemO] at HK0 HE x0 x1
  generalize w.alloc (.cells #[.int .i64 e.t, .int .i64 e.si, .int .i64 e.r, .bool e.d] 56) = w1 at *
  generalize w.heap.size = pb at *
  obtain ⟨c0, c1, c2, c3⟩ := HE.out.cs
  rcases hss with z1 | ⟨z1, z2⟩
  all_goals
    go_wp2_with fail
    go_ret
    exact ⟨rfl, HK0.out⟩
set_option maxRecDepth 100000 in
set_option maxHeartbeats 4000000 in
theorem index_no (L : List ElemS) (v : Value) (xb : Nat) (t s : Int) (w : World) (h : Se w v L) (hn : L.length ≤ 1000) (hX : w.heap[xb]? = some (.cells #[.int .i64 t, .int .i64 s] 47 (0, 0))) (hne : ∀ e ∈ L, ¬ (e.t = t ∧ e.si = s)) :
    Calls Tryd.prog 62 #[v, .func (.func 63) #[] #[.pointer (some ⟨xb, 0, none⟩)]] w fun e w' => e = .returned (.int .i64 (-1)) ∧ Kept (fun _ => False) w w' := by
  obtain ⟨A, c, rfl, hA, _, _⟩ := h.open'
  obtain ⟨n, hN⟩ : ∃ n, L.length = n := ⟨_, rfl⟩
  rw [hN] at hn hA ⊢
  have HA := Lib.hid hA
  have HX := Lib.hid hX
  have HNE := Lib.hid hne
  clear h hA hX hne hN
  go_enter Tryd.func62, Tryd.ntmps62
  go_wp2_with fail
  go_loopw [8] (fun v wr => ∃ k : Nat, k ≤ n ∧ v = .int .i64 k ∧ Kept (fun _ => False) w wr) (fun v _ => n - (intOf v).toNat)
  case atStart => exact ⟨0, Nat.zero_le _, rfl, Kept.refl _ _⟩
  case round =>
    obtain ⟨k, hk, rfl, hkept⟩ := hrel
    have HK := Lib.hid hkept
    clear hkept
    by_cases hlt : k < n
    · obtain ⟨ad, e, rfl, he, h4⟩ := (HA.out.kept HK.out (fun _ _ => id)).at_ hlt
      have cC := findc_no xb t s e wr ((HK.out.block xb (heap_lt HX.out) id).trans HX.out) (HNE.out e (List.mem_of_getElem? he))
      have c0 := h4.c0
      have c1 := h4.c1
      have c2 := h4.c2
      have c3 := h4.c3
      have b1 : decide (k < n) = true := decide_eq_true hlt
      have b2 : decide ((k : Int) < (n : Int)) = true := decide_eq_true (by omega)
      have t1 : (0 : Int) ≤ (k : Int) := by omega
      have t2 : (k : Int) < (n : Int) := by omega
      clear he h4
      go_wp2_with (go_at_call 63; refine cC.mono ?_; clear cC; rintro ee w2 ⟨rfl, hk2⟩; have HK2 := Lib.hid (HK.out.trans hk2); clear hk2)
      go_roundw
      case rel => exact ⟨k + 1, by omega, by go_num, HK2.out⟩
      case measure => simp [intOf] <;> omega
    · obtain rfl : k = n := by omega
      have b1 : decide (k < k) = false := decide_eq_false (by omega)
      have b2 : decide ((k : Int) < (k : Int)) = false := decide_eq_false (by omega)
      go_wp2_with fail
      go_ret
      exact ⟨rfl, HK.out⟩
set_option maxRecDepth 100000 in
set_option maxHeartbeats 2000000 in
theorem find_no (L : List ElemS) (v : Value) (t s : Int) (w : World) (h : Se w v L) (hn : L.length ≤ 1000) (hne : ∀ e ∈ L, ¬ (e.t = t ∧ e.si = s)) :
    Calls Tryd.prog 39 #[v, idV t s] w fun e w' => e = .returned (.int .i64 (-1)) ∧ Kept (fun _ => False) w w' := by
  have hk0 : Kept (fun _ => False) w (w.alloc (.cells #[.int .i64 t, .int .i64 s] 47)) := (Kept.refl _ w).alloc _
  have cI := index_no L v w.heap.size t s (w.alloc (.cells #[.int .i64 t, .int .i64 s] 47)) (h.kept hk0) hn (heap_alloc_new w _) hne
  have HK0 := Lib.hid hk0
  clear h hne hk0
  go_enter Tryd.func39, Tryd.ntmps39
  go_upto_region 1 with fail
  generalize w.alloc _ = w1 at *
  generalize w.heap.size = pb at *
  go_wp2_with (go_at_call 62; refine cI.mono ?_; clear cI; rintro ee w2 ⟨rfl, hk2⟩; have HK2 := Lib.hid (HK0.out.trans hk2); clear hk2)
  go_ret
  exact ⟨rfl, HK2.out⟩
theorem info_int : (Tryd.prog.info? 3).map (fun i => (i.zero, i.size, i.bytes)) = some (some (.int .i64 0), 1, 8) := by kernel_rfl
theorem make_four (W : World) : (Instr.makeSlice 48 (.int .i64 4) (.int .i64 4)).run Tryd.prog W = .ok (.slice (some ⟨W.heap.size, 0, none⟩) 4 4) (W.alloc (.cells #[.int .i64 0, .int .i64 0, .int .i64 0, .int .i64 0] 3)) := by
  obtain ⟨i0, hi, hz0, hz1, hz2⟩ := info_parts info_int
  have hr := run_make (P := Tryd.prog) W 48 3 i0 _ Tryd.underlying48 hi hz0 .i64 .i64 4 4 (by omega) (by omega) (by rw [hz2]; omega) (by omega)
  rw [hz1] at hr
  have e : madeCells (Value.int .i64 0).cells 4 = #[.int .i64 0, .int .i64 0, .int .i64 0, .int .i64 0] := by
    apply Array.ext'
    simp [madeCells, Value.cells, List.range, List.range.loop]
  have e3 : Int.toNat 4 = 4 := rfl
  rw [e3, Nat.mul_one, e] at hr
  exact hr
theorem Kept.cellsAtE {S : Nat → Prop} {w w' : World} {g : Nat} {o : Obj} (hk : Kept S w w') (h : w.heap[g]? = some o) (hs : ¬ S g) : w'.heap[g]? = some o := (hk.block g (heap_lt h) hs).trans h
/-- An op that wakes makes. -/
def wkOp (si r : Int) : Cd.OpP := ⟨1, 1, si, 0, 0, r, si, 1, [0, 0, 0, 0]⟩
theorem results_cell1 {fn : Func} {p : Tmp} {ty : TypeId} (h : fn.results = #[.cell p ty]) (tmps : Array Value) (P : Program) (w : World) :
    (results fn tmps).run P w = ((asAddr (tmps.getD p undef)).run P w).andThen fun a w₁ => (loadVar ty a).run P w₁ := by
  simp only [results, h]
  simp [Sem.run_bind, Result.andThen]
set_option maxRecDepth 100000 in
theorem res_op {fn : Func} {p : Tmp} (h : fn.results = #[.cell p 50]) (tmps : Array Value) (w : World) (g : Nat) (b : OpS) (fr : Nat × Nat) (hp : tmps.getD p undef = .pointer (some ⟨g, 0, none⟩)) (hg : w.heap[g]? = some (.cells #[.int .i64 b.o.kd, .int .i64 b.o.t, .int .i64 b.o.si, .int .i64 b.o.t0, .int .i64 b.o.s0, .int .i64 b.o.rn, .int .i64 b.o.st, .int .i64 b.o.nn, .slice b.A b.n b.c] 50 fr)) :
    (results fn tmps).run Tryd.prog w = .ok (opV b) w := by
  rw [results_cell1 h, hp]
  simp [asAddr, Result.andThen, run_loadVar_row w g _ _ _ _ _ hg Tryd.underlying50 rfl (by kernel_rfl), opV]
/-- Nine cells, stored. -/
def S9 (w : World) (g : Nat) (u0 u1 u2 u3 u4 u5 u6 u7 u8 : Value) : World := ((((((((w.setCell ⟨g, 0, none⟩ u0).setCell ⟨g, 1, none⟩ u1).setCell ⟨g, 2, none⟩ u2).setCell ⟨g, 3, none⟩ u3).setCell ⟨g, 4, none⟩ u4).setCell ⟨g, 5, none⟩ u5).setCell ⟨g, 6, none⟩ u6).setCell ⟨g, 7, none⟩ u7).setCell ⟨g, 8, none⟩ u8
theorem s9_heap {w : World} {g : Nat} {a0 a1 a2 a3 a4 a5 a6 a7 a8 : Value} {t : TypeId} {f : Nat × Nat} (h : w.heap[g]? = some (.cells #[a0, a1, a2, a3, a4, a5, a6, a7, a8] t f)) (u0 u1 u2 u3 u4 u5 u6 u7 u8 : Value) :
    (S9 w g u0 u1 u2 u3 u4 u5 u6 u7 u8).heap[g]? = some (.cells #[u0, u1, u2, u3, u4, u5, u6, u7, u8] t f) := by
  have h0 : (w.setCell ⟨g, 0, none⟩ u0).heap[g]? = some (.cells #[u0, a1, a2, a3, a4, a5, a6, a7, a8] t f) := heap_set h u0
  have h1 : ((w.setCell ⟨g, 0, none⟩ u0).setCell ⟨g, 1, none⟩ u1).heap[g]? = some (.cells #[u0, u1, a2, a3, a4, a5, a6, a7, a8] t f) := heap_set h0 u1
  have h2 : (((w.setCell ⟨g, 0, none⟩ u0).setCell ⟨g, 1, none⟩ u1).setCell ⟨g, 2, none⟩ u2).heap[g]? = some (.cells #[u0, u1, u2, a3, a4, a5, a6, a7, a8] t f) := heap_set h1 u2
  have h3 : ((((w.setCell ⟨g, 0, none⟩ u0).setCell ⟨g, 1, none⟩ u1).setCell ⟨g, 2, none⟩ u2).setCell ⟨g, 3, none⟩ u3).heap[g]? = some (.cells #[u0, u1, u2, u3, a4, a5, a6, a7, a8] t f) := heap_set h2 u3
  have h4 : (((((w.setCell ⟨g, 0, none⟩ u0).setCell ⟨g, 1, none⟩ u1).setCell ⟨g, 2, none⟩ u2).setCell ⟨g, 3, none⟩ u3).setCell ⟨g, 4, none⟩ u4).heap[g]? = some (.cells #[u0, u1, u2, u3, u4, a5, a6, a7, a8] t f) := heap_set h3 u4
  have h5 : ((((((w.setCell ⟨g, 0, none⟩ u0).setCell ⟨g, 1, none⟩ u1).setCell ⟨g, 2, none⟩ u2).setCell ⟨g, 3, none⟩ u3).setCell ⟨g, 4, none⟩ u4).setCell ⟨g, 5, none⟩ u5).heap[g]? = some (.cells #[u0, u1, u2, u3, u4, u5, a6, a7, a8] t f) := heap_set h4 u5
  have h6 : (((((((w.setCell ⟨g, 0, none⟩ u0).setCell ⟨g, 1, none⟩ u1).setCell ⟨g, 2, none⟩ u2).setCell ⟨g, 3, none⟩ u3).setCell ⟨g, 4, none⟩ u4).setCell ⟨g, 5, none⟩ u5).setCell ⟨g, 6, none⟩ u6).heap[g]? = some (.cells #[u0, u1, u2, u3, u4, u5, u6, a7, a8] t f) := heap_set h5 u6
  have h7 : ((((((((w.setCell ⟨g, 0, none⟩ u0).setCell ⟨g, 1, none⟩ u1).setCell ⟨g, 2, none⟩ u2).setCell ⟨g, 3, none⟩ u3).setCell ⟨g, 4, none⟩ u4).setCell ⟨g, 5, none⟩ u5).setCell ⟨g, 6, none⟩ u6).setCell ⟨g, 7, none⟩ u7).heap[g]? = some (.cells #[u0, u1, u2, u3, u4, u5, u6, u7, a8] t f) := heap_set h6 u7
  have h8 : (((((((((w.setCell ⟨g, 0, none⟩ u0).setCell ⟨g, 1, none⟩ u1).setCell ⟨g, 2, none⟩ u2).setCell ⟨g, 3, none⟩ u3).setCell ⟨g, 4, none⟩ u4).setCell ⟨g, 5, none⟩ u5).setCell ⟨g, 6, none⟩ u6).setCell ⟨g, 7, none⟩ u7).setCell ⟨g, 8, none⟩ u8).heap[g]? = some (.cells #[u0, u1, u2, u3, u4, u5, u6, u7, u8] t f) := heap_set h7 u8
  exact h8
theorem i64_0 : I64 0 := ⟨by decide, by decide⟩
theorem i64_1 : I64 1 := ⟨by decide, by decide⟩
theorem i64_2 : I64 2 := ⟨by decide, by decide⟩
theorem kset {w w' : World} {g : Nat} (h : Kept (fun p => p = g) w w') (i : Nat) (u : Value) : Kept (fun p => p = g) w (w'.setCell ⟨g, i, none⟩ u) := h.setCell (p := ⟨g, i, none⟩) rfl u
theorem s9_kept (w : World) (g : Nat) (u0 u1 u2 u3 u4 u5 u6 u7 u8 : Value) : Kept (fun p => p = g) w (S9 w g u0 u1 u2 u3 u4 u5 u6 u7 u8) :=
  kset (kset (kset (kset (kset (kset (kset (kset (kset (Kept.refl (fun p => p = g) w) 0 u0) 1 u1) 2 u2) 3 u3) 4 u4) 5 u5) 6 u6) 7 u7) 8 u8
theorem four_nums {w : World} {g : Nat} (h : w.heap[g]? = some (.cells #[.int .i64 0, .int .i64 0, .int .i64 0, .int .i64 0] 3 (0, 0))) : Nums w (some ⟨g, 0, none⟩) 4 [0, 0, 0, 0] := by
  refine ⟨rfl, fun j x hj => ⟨_, rfl, ?_⟩⟩
  rw [addr_add, cell_of_row _ _ _ _ _ _ h]
  match j, hj with
  | 0, hj => simpa using hj
  | 1, hj => simpa using hj
  | 2, hj => simpa using hj
  | 3, hj => simpa using hj
theorem s9_size (w : World) (g : Nat) (u0 u1 u2 u3 u4 u5 u6 u7 u8 : Value) : (S9 w g u0 u1 u2 u3 u4 u5 u6 u7 u8).heap.size = w.heap.size := by
  unfold S9
  simp
abbrev zOp : OpS := ⟨⟨0, 0, 0, 0, 0, 0, 0, 0, []⟩, none, 0, 0⟩
set_option maxRecDepth 100000 in
set_option maxHeartbeats 8000000 in
theorem op_any (si r : Int) (hs : si = 1 ∨ si = 2) (hri : I64 r) (w : World) :
    Calls Tryd.prog 26 #[.int .i64 1, .int .i64 si, idV 0 0, .int .i64 r] w fun e w' => (∃ g, e = .returned (opV ⟨wkOp si r, some ⟨g, 0, none⟩, 4, 4⟩) ∧ OpOk w' ⟨wkOp si r, some ⟨g, 0, none⟩, 4, 4⟩) ∧ Kept (fun _ => False) w w' := by
  have hk0 : Kept (fun _ => False) w ((w.alloc (.cells #[.int .i64 0, .int .i64 0] 47)).alloc (opO zOp)) := ((Kept.refl _ w).alloc _).alloc _
  have hx : ((w.alloc (.cells #[.int .i64 0, .int .i64 0] 47)).alloc (opO zOp)).heap[w.heap.size]? = some (.cells #[.int .i64 0, .int .i64 0] 47 (0, 0)) := Kept.cellsAtE (S := fun _ => False) ((Kept.refl _ _).alloc _) (heap_alloc_new w _) id
  have ho : ((w.alloc (.cells #[.int .i64 0, .int .i64 0] 47)).alloc (opO zOp)).heap[w.heap.size + 1]? = some (opO zOp) := by
    have h := heap_alloc_new (w.alloc (.cells #[.int .i64 0, .int .i64 0] 47)) (opO zOp)
    rwa [show (w.alloc (.cells #[.int .i64 0, .int .i64 0] 47)).heap.size = w.heap.size + 1 from Array.size_push _] at h
  have HK0 := Lib.hid hk0
  have HX := Lib.hid hx
  have HO := Lib.hid ho
  have hmk := make_four
  clear hk0 hx ho
  rcases hs with rfl | rfl
  · go_enter Tryd.func26, Tryd.ntmps26
    go_upto_region 1 with fail
    simp only [opO] at HK0 HX HO
    generalize (w.alloc (.cells #[.int .i64 0, .int .i64 0] 47)).alloc (.cells #[.int .i64 0, .int .i64 0, .int .i64 0, .int .i64 0, .int .i64 0, .int .i64 0, .int .i64 0, .int .i64 0, .slice none 0 0] 50) = w1 at *
    have x0 : w1.cell? ⟨w.heap.size, 0, none⟩ = some (.int .i64 0) := cell_of_row _ _ _ _ _ _ HX.out
    have x1 : w1.cell? ⟨w.heap.size, 1, none⟩ = some (.int .i64 0) := cell_of_row _ _ _ _ _ _ HX.out
    have o0 : w1.cell? ⟨w.heap.size + 1, 0, none⟩ = some (.int .i64 0) := cell_of_row _ _ _ _ _ _ HO.out
    have o1 : w1.cell? ⟨w.heap.size + 1, 1, none⟩ = some (.int .i64 0) := cell_of_row _ _ _ _ _ _ HO.out
    have o2 : w1.cell? ⟨w.heap.size + 1, 2, none⟩ = some (.int .i64 0) := cell_of_row _ _ _ _ _ _ HO.out
    have o3 : w1.cell? ⟨w.heap.size + 1, 3, none⟩ = some (.int .i64 0) := cell_of_row _ _ _ _ _ _ HO.out
    have o4 : w1.cell? ⟨w.heap.size + 1, 4, none⟩ = some (.int .i64 0) := cell_of_row _ _ _ _ _ _ HO.out
    have o5 : w1.cell? ⟨w.heap.size + 1, 5, none⟩ = some (.int .i64 0) := cell_of_row _ _ _ _ _ _ HO.out
    have o6 : w1.cell? ⟨w.heap.size + 1, 6, none⟩ = some (.int .i64 0) := cell_of_row _ _ _ _ _ _ HO.out
    have o7 : w1.cell? ⟨w.heap.size + 1, 7, none⟩ = some (.int .i64 0) := cell_of_row _ _ _ _ _ _ HO.out
    have o8 : w1.cell? ⟨w.heap.size + 1, 8, none⟩ = some (.slice none 0 0) := cell_of_row _ _ _ _ _ _ HO.out
    have hlt : w.heap.size + 1 < w1.heap.size := heap_lt HO.out
    have HLT := Lib.hid hlt
    have fz : ∀ i, w1.frozen? ⟨w.heap.size + 1, i, none⟩ = false := fun i => frozen_of HO.out
    have f0 := fz 0
    have f1 := fz 1
    have f2 := fz 2
    have f3 := fz 3
    have f4 := fz 4
    have f5 := fz 5
    have f6 := fz 6
    have f7 := fz 7
    have f8 := fz 8
    clear fz
    have hkz : Kept (fun _ => False) w1 (w1.alloc (.cells #[.int .i64 0, .int .i64 0, .int .i64 0, .int .i64 0] 3)) := (Kept.refl _ w1).alloc _
    have HO2 := Lib.hid (hkz.cellsAtE HO.out id)
    have HZ2 : Hid ((w1.alloc (.cells #[.int .i64 0, .int .i64 0, .int .i64 0, .int .i64 0] 3)).heap[w1.heap.size]? = some (.cells #[.int .i64 0, .int .i64 0, .int .i64 0, .int .i64 0] 3 (0, 0))) := heap_alloc_new w1 _
    have HK2 := Lib.hid (HK0.out.trans hkz)
    have y0 := cell_kept hkz x0 id
    have y1 := cell_kept hkz x1 id
    have p0 := cell_kept hkz o0 id
    have p1 := cell_kept hkz o1 id
    have p2 := cell_kept hkz o2 id
    have p3 := cell_kept hkz o3 id
    have p4 := cell_kept hkz o4 id
    have p5 := cell_kept hkz o5 id
    have p6 := cell_kept hkz o6 id
    have p7 := cell_kept hkz o7 id
    have p8 := cell_kept hkz o8 id
    have fz : ∀ i, (w1.alloc (.cells #[.int .i64 0, .int .i64 0, .int .i64 0, .int .i64 0] 3)).frozen? ⟨w.heap.size + 1, i, none⟩ = false := fun i => frozen_of HO2.out
    have h0 := fz 0
    have h1 := fz 1
    have h2 := fz 2
    have h3 := fz 3
    have h4 := fz 4
    have h5 := fz 5
    have h6 := fz 6
    have h7 := fz 7
    have h8 := fz 8
    clear fz hkz
    go_region
    clear x0 x1 o0 o1 o2 o3 o4 o5 o6 o7 o8 f0 f1 f2 f3 f4 f5 f6 f7 f8 y0 y1 p0 p1 p2 p3 p4 p5 p6 p7 p8 h0 h1 h2 h3 h4 h5 h6 h7 h8 hmk
    have hsh := s9_heap HO.out (.int .i64 1) (.int .i64 1) (.int .i64 1) (.int .i64 0) (.int .i64 0) (.int .i64 r) (.int .i64 1) (.int .i64 1) (.slice (some ⟨w1.heap.size, 0, none⟩) 4 4)
    have hsk := s9_kept w1 (w.heap.size + 1) (.int .i64 1) (.int .i64 1) (.int .i64 1) (.int .i64 0) (.int .i64 0) (.int .i64 r) (.int .i64 1) (.int .i64 1) (.slice (some ⟨w1.heap.size, 0, none⟩) 4 4)
    have hss := s9_size w1 (w.heap.size + 1) (.int .i64 1) (.int .i64 1) (.int .i64 1) (.int .i64 0) (.int .i64 0) (.int .i64 r) (.int .i64 1) (.int .i64 1) (.slice (some ⟨w1.heap.size, 0, none⟩) 4 4)
    unfold S9 at hsh hsk hss
    try simp only [show (max (1 : Int) 2) = 2 from rfl]
    generalize ((((((((w1.setCell ⟨w.heap.size + 1, 0, none⟩ (.int .i64 1)).setCell ⟨w.heap.size + 1, 1, none⟩ (.int .i64 1)).setCell ⟨w.heap.size + 1, 2, none⟩ (.int .i64 1)).setCell ⟨w.heap.size + 1, 3, none⟩ (.int .i64 0)).setCell ⟨w.heap.size + 1, 4, none⟩ (.int .i64 0)).setCell ⟨w.heap.size + 1, 5, none⟩ (.int .i64 r)).setCell ⟨w.heap.size + 1, 6, none⟩ (.int .i64 1)).setCell ⟨w.heap.size + 1, 7, none⟩ (.int .i64 1)).setCell ⟨w.heap.size + 1, 8, none⟩ (.slice (some ⟨w1.heap.size, 0, none⟩) 4 4) = wS at *
    have hkf : Kept (fun _ => False) wS (wS.alloc (.cells #[.int .i64 0, .int .i64 0, .int .i64 0, .int .i64 0] 3)).drew := ((Kept.refl _ wS).alloc _).drew
    have hz : (wS.alloc (.cells #[.int .i64 0, .int .i64 0, .int .i64 0, .int .i64 0] 3)).heap[wS.heap.size]? = some (.cells #[.int .i64 0, .int .i64 0, .int .i64 0, .int .i64 0] 3 (0, 0)) := heap_alloc_new wS _
    rw [hss] at hz
    have HZ := Lib.hid hz
    have HOP := Lib.hid (hkf.cellsAtE hsh id)
    have HKF : Hid (Kept (fun _ => False) w (wS.alloc (.cells #[.int .i64 0, .int .i64 0, .int .i64 0, .int .i64 0] 3)).drew) := HK0.out.fresh (hsk.trans hkf.any) (fun p hp e => by have e : p = w.heap.size + 1 := e; omega)
    clear hsh hsk hss hkf hz
    generalize hzb : w1.heap.size = zb at *
    clear hzb
    have HNU : Hid (OpOk (wS.alloc (.cells #[.int .i64 0, .int .i64 0, .int .i64 0, .int .i64 0] 3)).drew ⟨wkOp 1 r, some ⟨zb, 0, none⟩, 4, 4⟩) :=
      ⟨four_nums HZ.out, (fun x hx => by simp [wkOp] at hx; subst hx; exact ⟨by omega, by omega⟩), by show 4 ≤ _; omega, Nat.le_refl _, ⟨i64_1, i64_1, i64_1, i64_0, i64_0, hri, i64_1, i64_1⟩⟩
    generalize (wS.alloc (.cells #[.int .i64 0, .int .i64 0, .int .i64 0, .int .i64 0] 3)).drew = wZ at *
    go_wp2_with fail
    refine bodyPost_ret (res_op rfl _ _ (w.heap.size + 1) ⟨wkOp 1 r, some ⟨zb, 0, none⟩, 4, 4⟩ (0, 0) rfl HOP.out) rfl ⟨⟨zb, rfl, HNU.out⟩, HKF.out⟩
  · go_enter Tryd.func26, Tryd.ntmps26
    go_upto_region 1 with fail
    simp only [opO] at HK0 HX HO
    generalize (w.alloc (.cells #[.int .i64 0, .int .i64 0] 47)).alloc (.cells #[.int .i64 0, .int .i64 0, .int .i64 0, .int .i64 0, .int .i64 0, .int .i64 0, .int .i64 0, .int .i64 0, .slice none 0 0] 50) = w1 at *
    have x0 : w1.cell? ⟨w.heap.size, 0, none⟩ = some (.int .i64 0) := cell_of_row _ _ _ _ _ _ HX.out
    have x1 : w1.cell? ⟨w.heap.size, 1, none⟩ = some (.int .i64 0) := cell_of_row _ _ _ _ _ _ HX.out
    have o0 : w1.cell? ⟨w.heap.size + 1, 0, none⟩ = some (.int .i64 0) := cell_of_row _ _ _ _ _ _ HO.out
    have o1 : w1.cell? ⟨w.heap.size + 1, 1, none⟩ = some (.int .i64 0) := cell_of_row _ _ _ _ _ _ HO.out
    have o2 : w1.cell? ⟨w.heap.size + 1, 2, none⟩ = some (.int .i64 0) := cell_of_row _ _ _ _ _ _ HO.out
    have o3 : w1.cell? ⟨w.heap.size + 1, 3, none⟩ = some (.int .i64 0) := cell_of_row _ _ _ _ _ _ HO.out
    have o4 : w1.cell? ⟨w.heap.size + 1, 4, none⟩ = some (.int .i64 0) := cell_of_row _ _ _ _ _ _ HO.out
    have o5 : w1.cell? ⟨w.heap.size + 1, 5, none⟩ = some (.int .i64 0) := cell_of_row _ _ _ _ _ _ HO.out
    have o6 : w1.cell? ⟨w.heap.size + 1, 6, none⟩ = some (.int .i64 0) := cell_of_row _ _ _ _ _ _ HO.out
    have o7 : w1.cell? ⟨w.heap.size + 1, 7, none⟩ = some (.int .i64 0) := cell_of_row _ _ _ _ _ _ HO.out
    have o8 : w1.cell? ⟨w.heap.size + 1, 8, none⟩ = some (.slice none 0 0) := cell_of_row _ _ _ _ _ _ HO.out
    have hlt : w.heap.size + 1 < w1.heap.size := heap_lt HO.out
    have HLT := Lib.hid hlt
    have fz : ∀ i, w1.frozen? ⟨w.heap.size + 1, i, none⟩ = false := fun i => frozen_of HO.out
    have f0 := fz 0
    have f1 := fz 1
    have f2 := fz 2
    have f3 := fz 3
    have f4 := fz 4
    have f5 := fz 5
    have f6 := fz 6
    have f7 := fz 7
    have f8 := fz 8
    clear fz
    have hkz : Kept (fun _ => False) w1 (w1.alloc (.cells #[.int .i64 0, .int .i64 0, .int .i64 0, .int .i64 0] 3)) := (Kept.refl _ w1).alloc _
    have HO2 := Lib.hid (hkz.cellsAtE HO.out id)
    have HZ2 : Hid ((w1.alloc (.cells #[.int .i64 0, .int .i64 0, .int .i64 0, .int .i64 0] 3)).heap[w1.heap.size]? = some (.cells #[.int .i64 0, .int .i64 0, .int .i64 0, .int .i64 0] 3 (0, 0))) := heap_alloc_new w1 _
    have HK2 := Lib.hid (HK0.out.trans hkz)
    have y0 := cell_kept hkz x0 id
    have y1 := cell_kept hkz x1 id
    have p0 := cell_kept hkz o0 id
    have p1 := cell_kept hkz o1 id
    have p2 := cell_kept hkz o2 id
    have p3 := cell_kept hkz o3 id
    have p4 := cell_kept hkz o4 id
    have p5 := cell_kept hkz o5 id
    have p6 := cell_kept hkz o6 id
    have p7 := cell_kept hkz o7 id
    have p8 := cell_kept hkz o8 id
    have fz : ∀ i, (w1.alloc (.cells #[.int .i64 0, .int .i64 0, .int .i64 0, .int .i64 0] 3)).frozen? ⟨w.heap.size + 1, i, none⟩ = false := fun i => frozen_of HO2.out
    have h0 := fz 0
    have h1 := fz 1
    have h2 := fz 2
    have h3 := fz 3
    have h4 := fz 4
    have h5 := fz 5
    have h6 := fz 6
    have h7 := fz 7
    have h8 := fz 8
    clear fz hkz
    go_region
    clear x0 x1 o0 o1 o2 o3 o4 o5 o6 o7 o8 f0 f1 f2 f3 f4 f5 f6 f7 f8 y0 y1 p0 p1 p2 p3 p4 p5 p6 p7 p8 h0 h1 h2 h3 h4 h5 h6 h7 h8 hmk
    have hsh := s9_heap HO.out (.int .i64 1) (.int .i64 1) (.int .i64 2) (.int .i64 0) (.int .i64 0) (.int .i64 r) (.int .i64 2) (.int .i64 1) (.slice (some ⟨w1.heap.size, 0, none⟩) 4 4)
    have hsk := s9_kept w1 (w.heap.size + 1) (.int .i64 1) (.int .i64 1) (.int .i64 2) (.int .i64 0) (.int .i64 0) (.int .i64 r) (.int .i64 2) (.int .i64 1) (.slice (some ⟨w1.heap.size, 0, none⟩) 4 4)
    have hss := s9_size w1 (w.heap.size + 1) (.int .i64 1) (.int .i64 1) (.int .i64 2) (.int .i64 0) (.int .i64 0) (.int .i64 r) (.int .i64 2) (.int .i64 1) (.slice (some ⟨w1.heap.size, 0, none⟩) 4 4)
    unfold S9 at hsh hsk hss
    try simp only [show (max (1 : Int) 2) = 2 from rfl]
    generalize ((((((((w1.setCell ⟨w.heap.size + 1, 0, none⟩ (.int .i64 1)).setCell ⟨w.heap.size + 1, 1, none⟩ (.int .i64 1)).setCell ⟨w.heap.size + 1, 2, none⟩ (.int .i64 2)).setCell ⟨w.heap.size + 1, 3, none⟩ (.int .i64 0)).setCell ⟨w.heap.size + 1, 4, none⟩ (.int .i64 0)).setCell ⟨w.heap.size + 1, 5, none⟩ (.int .i64 r)).setCell ⟨w.heap.size + 1, 6, none⟩ (.int .i64 2)).setCell ⟨w.heap.size + 1, 7, none⟩ (.int .i64 1)).setCell ⟨w.heap.size + 1, 8, none⟩ (.slice (some ⟨w1.heap.size, 0, none⟩) 4 4) = wS at *
    have hkf : Kept (fun _ => False) wS (wS.alloc (.cells #[.int .i64 0, .int .i64 0, .int .i64 0, .int .i64 0] 3)).drew := ((Kept.refl _ wS).alloc _).drew
    have hz : (wS.alloc (.cells #[.int .i64 0, .int .i64 0, .int .i64 0, .int .i64 0] 3)).heap[wS.heap.size]? = some (.cells #[.int .i64 0, .int .i64 0, .int .i64 0, .int .i64 0] 3 (0, 0)) := heap_alloc_new wS _
    rw [hss] at hz
    have HZ := Lib.hid hz
    have HOP := Lib.hid (hkf.cellsAtE hsh id)
    have HKF : Hid (Kept (fun _ => False) w (wS.alloc (.cells #[.int .i64 0, .int .i64 0, .int .i64 0, .int .i64 0] 3)).drew) := HK0.out.fresh (hsk.trans hkf.any) (fun p hp e => by have e : p = w.heap.size + 1 := e; omega)
    clear hsh hsk hss hkf hz
    generalize hzb : w1.heap.size = zb at *
    clear hzb
    have HNU : Hid (OpOk (wS.alloc (.cells #[.int .i64 0, .int .i64 0, .int .i64 0, .int .i64 0] 3)).drew ⟨wkOp 2 r, some ⟨zb, 0, none⟩, 4, 4⟩) :=
      ⟨four_nums HZ.out, (fun x hx => by simp [wkOp] at hx; subst hx; exact ⟨by omega, by omega⟩), by show 4 ≤ _; omega, Nat.le_refl _, ⟨i64_1, i64_1, i64_2, i64_0, i64_0, hri, i64_2, i64_1⟩⟩
    generalize (wS.alloc (.cells #[.int .i64 0, .int .i64 0, .int .i64 0, .int .i64 0] 3)).drew = wZ at *
    go_wp2_with fail
    refine bodyPost_ret (res_op rfl _ _ (w.heap.size + 1) ⟨wkOp 2 r, some ⟨zb, 0, none⟩, 4, 4⟩ (0, 0) rfl HOP.out) rfl ⟨⟨zb, rfl, HNU.out⟩, HKF.out⟩
end Go.Proofs.YtlminkbaafjloaaDoor
