/-
  ELEMENTS: an insert at the begin, among none and among one.
-/
import Derived.Test.YtlminkbaafjloaaDoorOdG
import Derived.Deep.RegionHeld3
set_option linter.unusedVariables false
namespace Go.Proofs.YtlminkbaafjloaaDoor
open Go Go.RowKit

theorem make_el (W : World) (n : Nat) (hn : n = 1 ∨ n = 2) : ∃ cs : Array Value, (Instr.makeSlice 22 (.int .i64 0) (.int .i64 (n : Int))).run Tryd.prog W = .ok (.slice (some ⟨W.heap.size, 0, none⟩) 0 n) (W.alloc (.cells cs 56)) ∧ cs = (if n = 1 then #[.int .i64 0, .int .i64 0, .int .i64 0, .bool false] else #[.int .i64 0, .int .i64 0, .int .i64 0, .bool false, .int .i64 0, .int .i64 0, .int .i64 0, .bool false]) := by
  obtain ⟨i0, hi, hz0, hz1, hz2⟩ := info_parts info_elem
  rcases hn with rfl | rfl
  · have hr := run_make (P := Tryd.prog) W 22 56 i0 _ Tryd.underlying22 hi hz0 .i64 .i64 0 1 (by omega) (by omega) (by rw [hz2]; omega) (by omega)
    rw [hz1] at hr
    refine ⟨_, hr, ?_⟩
    apply Array.ext'
    simp [madeCells, Value.cells, List.range, List.range.loop]
  · have hr := run_make (P := Tryd.prog) W 22 56 i0 _ Tryd.underlying22 hi hz0 .i64 .i64 0 2 (by omega) (by omega) (by rw [hz2]; omega) (by omega)
    rw [hz1] at hr
    refine ⟨_, hr, ?_⟩
    apply Array.ext'
    simp [madeCells, Value.cells, List.range, List.range.loop]
theorem s4_heap {w : World} {g : Nat} {a0 a1 a2 a3 : Value} {t : TypeId} {f : Nat × Nat} (h : w.heap[g]? = some (.cells #[a0, a1, a2, a3] t f)) (u0 u1 u2 u3 : Value) :
    ((((w.setCell ⟨g, 0, none⟩ u0).setCell ⟨g, 1, none⟩ u1).setCell ⟨g, 2, none⟩ u2).setCell ⟨g, 3, none⟩ u3).heap[g]? = some (.cells #[u0, u1, u2, u3] t f) := by
  have h0 : (w.setCell ⟨g, 0, none⟩ u0).heap[g]? = some (.cells #[u0, a1, a2, a3] t f) := heap_set h u0
  have h1 : ((w.setCell ⟨g, 0, none⟩ u0).setCell ⟨g, 1, none⟩ u1).heap[g]? = some (.cells #[u0, u1, a2, a3] t f) := heap_set h0 u1
  have h2 : (((w.setCell ⟨g, 0, none⟩ u0).setCell ⟨g, 1, none⟩ u1).setCell ⟨g, 2, none⟩ u2).heap[g]? = some (.cells #[u0, u1, u2, a3] t f) := heap_set h1 u2
  have h3 : ((((w.setCell ⟨g, 0, none⟩ u0).setCell ⟨g, 1, none⟩ u1).setCell ⟨g, 2, none⟩ u2).setCell ⟨g, 3, none⟩ u3).heap[g]? = some (.cells #[u0, u1, u2, u3] t f) := heap_set h2 u3
  exact h3
theorem s4_kept (w : World) (g : Nat) (u0 u1 u2 u3 : Value) : Kept (fun p => p = g) w ((((w.setCell ⟨g, 0, none⟩ u0).setCell ⟨g, 1, none⟩ u1).setCell ⟨g, 2, none⟩ u2).setCell ⟨g, 3, none⟩ u3) := kset (kset (kset (kset (Kept.refl (fun p => p = g) w) 0 u0) 1 u1) 2 u2) 3 u3
set_option maxRecDepth 100000 in
set_option maxHeartbeats 8000000 in
theorem insert_nil (b : OpS) (hb : b.o = wkOp 1 97) (w : World) :
    Calls Tryd.prog 40 #[.slice none 0 0, opV b, .bool false] w fun e w' => (∃ g, e = .returned (.tuple #[.slice (some ⟨g, 0, none⟩) 1 1, .int .i64 0]) ∧ w'.heap[g]? = some (elemO ⟨1, 1, 97, false⟩)) ∧ Kept (fun _ => False) w w' := by
  obtain ⟨o, A, n, c⟩ := b
  simp only at hb
  subst hb
  have hk0 : Kept (fun _ => False) w (w.alloc (opO ⟨wkOp 1 97, A, n, c⟩)) := (Kept.refl _ w).alloc _
  have HO : Hid (Op9 (w.alloc (opO ⟨wkOp 1 97, A, n, c⟩)) ⟨w.heap.size, 0, none⟩ ⟨wkOp 1 97, A, n, c⟩) := op9_new
  have HK0 := Lib.hid hk0
  have cF := fun W => find_no [] (.slice none 0 0) 0 0 W (se_nil W) (Nat.zero_le _) (fun e he => by cases he)
  clear hk0
  unfold opV
  go_enter Tryd.func40, Tryd.ntmps40
  go_upto_region 1 with fail
  simp only [opO, wkOp] at HK0 HO
  simp only [wkOp]
  generalize w.alloc _ = w1 at *
  generalize w.heap.size = pb at *
  obtain ⟨c0, c1, c2, c3, c4, c5, c6, c7, c8⟩ := HO.out.cs
  simp only at c0 c1 c2 c3 c4 c5 c6 c7 c8
  go_wp2_with (go_at_call 39; refine (cF _).mono ?_; clear cF c0 c1 c2 c3 c4 c5 c6 c7 c8; rintro ee w2 ⟨rfl, hk2⟩; have HK2 := Lib.hid (HK0.out.trans hk2); have HO2 := Lib.hid (HO.out.kept hk2 id); obtain ⟨c0, c1, c2, c3, c4, c5, c6, c7, c8⟩ := HO2.out.cs; simp only at c0 c1 c2 c3 c4 c5 c6 c7 c8; clear hk2)
  clear c0 c1 c2 c3 c4 c5 c6 c7 c8
  go_loopw [8] (fun v wr => v = .int .i64 0 ∧ Kept (fun _ => False) w2 wr) (fun _ _ => 0)
  case atStart => exact ⟨rfl, Kept.refl _ _⟩
  case round =>
    obtain ⟨rfl, hkept⟩ := hrel
    have HK := Lib.hid hkept
    clear hkept
    go_wp2_with fail
    go_quiet (fail)
    obtain ⟨w3, hw3⟩ : ∃ w3, wr.drewN nq = w3 := ⟨_, rfl⟩
    have hk3 : Kept (fun _ => False) w2 w3 := by rw [← hw3]; exact HK.out.drewN _
    have HK3 := Lib.hid hk3
    rw [hw3]
    clear hw3 hk3
    obtain ⟨cs, hmk, hcs⟩ := make_el w3 1 (.inl rfl)
    rw [if_pos rfl] at hcs
    subst hcs
    have hmk1 : (Instr.makeSlice 22 (.int .i64 0) (.int .i64 1)).run Tryd.prog w3 = .ok (.slice (some ⟨w3.heap.size, 0, none⟩) 0 1) (w3.alloc (.cells #[.int .i64 0, .int .i64 0, .int .i64 0, .bool false] 56)) := hmk
    clear hmk
    have hr4 := heap_alloc_new w3 (.cells #[.int .i64 0, .int .i64 0, .int .i64 0, .bool false] 56)
    have hk4 : Kept (fun _ => False) w3 (w3.alloc (.cells #[.int .i64 0, .int .i64 0, .int .i64 0, .bool false] 56)) := (Kept.refl _ w3).alloc _
    have HR4 := Lib.hid hr4
    have HK4 := Lib.hid (HK3.out.trans hk4)
    have HRB : Hid (w3.heap.size ≤ w3.heap.size) := Nat.le_refl _
    clear hr4 hk4
    go_upto_region 11 with fail
    clear hmk1
    generalize w3.alloc (.cells #[.int .i64 0, .int .i64 0, .int .i64 0, .bool false] 56) = w4 at *
    obtain ⟨rb, hrb⟩ : ∃ rb, w3.heap.size = rb := ⟨_, rfl⟩
    rw [hrb] at HR4
    have HRBW : Hid (w.heap.size ≤ rb) := by show _ ≤ _; rw [← hrb]; exact (HK2.out.trans HK3.out).size
    obtain ⟨c0, c1, c2, c3, c4, c5, c6, c7, c8⟩ := (HO2.out.kept HK4.out id).cs
    simp only at c0 c1 c2 c3 c4 c5 c6 c7 c8
    have r0 : w4.cell? ⟨rb, 0, none⟩ = some (.int .i64 0) := cell_of_row _ _ _ _ _ _ HR4.out
    have r1 : w4.cell? ⟨rb, 1, none⟩ = some (.int .i64 0) := cell_of_row _ _ _ _ _ _ HR4.out
    have r2 : w4.cell? ⟨rb, 2, none⟩ = some (.int .i64 0) := cell_of_row _ _ _ _ _ _ HR4.out
    have r3 : w4.cell? ⟨rb, 3, none⟩ = some (.bool false) := cell_of_row _ _ _ _ _ _ HR4.out
    have fz : ∀ i, w4.frozen? ⟨rb, i, none⟩ = false := fun i => frozen_of HR4.out
    have f0 := fz 0
    have f1 := fz 1
    have f2 := fz 2
    have f3 := fz 3
    have hrb4 : rb < w4.heap.size := heap_lt HR4.out
    clear fz
    go_region
    clear c0 c1 c2 c3 c4 c5 c6 c7 c8 r0 r1 r2 r3 f0 f1 f2 f3 hrb4
    have hsh := s4_heap HR4.out (.int .i64 1) (.int .i64 1) (.int .i64 97) (.bool false)
    have hsk := s4_kept w4 rb (.int .i64 1) (.int .i64 1) (.int .i64 97) (.bool false)
    generalize (((w4.setCell ⟨rb, 0, none⟩ (.int .i64 1)).setCell ⟨rb, 1, none⟩ (.int .i64 1)).setCell ⟨rb, 2, none⟩ (.int .i64 97)).setCell ⟨rb, 3, none⟩ (.bool false) = wS at *
    have hkf : Kept (fun _ => False) wS (wS.alloc (.cells #[.int .i64 1, .int .i64 1, .int .i64 97, .bool false] 56)).drew := ((Kept.refl _ wS).alloc _).drew
    have HF := Lib.hid (hkf.cellsAtE hsh id)
    have HKF : Hid (Kept (fun _ => False) w (wS.alloc (.cells #[.int .i64 1, .int .i64 1, .int .i64 97, .bool false] 56)).drew) := (HK2.out.trans HK4.out).fresh (hsk.trans hkf.any) (fun p hp e => by have e : p = rb := e; have := HRBW.out; omega)
    clear hsh hsk hkf hrb
    generalize (wS.alloc (.cells #[.int .i64 1, .int .i64 1, .int .i64 97, .bool false] 56)).drew = wZ at *
    go_wp2_with fail
    go_ret2
    exact ⟨⟨rb, rfl, HF.out⟩, HKF.out⟩
end Go.Proofs.YtlminkbaafjloaaDoor
