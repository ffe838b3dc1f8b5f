/-
  ELEMENTS: an insert ahead of one.
-/
import Derived.Test.YtlminkbaafjloaaDoorOdH
set_option linter.unusedVariables false
namespace Go.Proofs.YtlminkbaafjloaaDoor
open Go Go.RowKit

theorem se_one {w : World} {g : Nat} {e : ElemS} (h : w.heap[g]? = some (elemO e)) : Se w (.slice (some ⟨g, 0, none⟩) 1 1) [e] := by
  refine ⟨_, 1, 1, rfl, ⟨rfl, fun k x hx => ?_⟩, Nat.le_refl _, fun h => by cases h⟩
  match k, hx with
  | 0, hx =>
    simp only [List.getElem?_cons_zero, Option.some.injEq] at hx
    subst hx
    refine ⟨_, rfl, ?_⟩
    rw [addr_add]
    exact ⟨cell_of_row _ _ _ _ _ _ h, cell_of_row _ _ _ _ _ _ h, cell_of_row _ _ _ _ _ _ h, cell_of_row _ _ _ _ _ _ h⟩
theorem s8_heap {w : World} {g : Nat} {a0 a1 a2 a3 a4 a5 a6 a7 : Value} {t : TypeId} {f : Nat × Nat} (h : w.heap[g]? = some (.cells #[a0, a1, a2, a3, a4, a5, a6, a7] t f)) (u0 u1 u2 u3 : Value) :
    ((((w.setCell ⟨g, 0, none⟩ u0).setCell ⟨g, 1, none⟩ u1).setCell ⟨g, 2, none⟩ u2).setCell ⟨g, 3, none⟩ u3).heap[g]? = some (.cells #[u0, u1, u2, u3, a4, a5, a6, a7] t f) := by
  have h0 : (w.setCell ⟨g, 0, none⟩ u0).heap[g]? = some (.cells #[u0, a1, a2, a3, a4, a5, a6, a7] t f) := heap_set h u0
  have h1 : ((w.setCell ⟨g, 0, none⟩ u0).setCell ⟨g, 1, none⟩ u1).heap[g]? = some (.cells #[u0, u1, a2, a3, a4, a5, a6, a7] t f) := heap_set h0 u1
  have h2 : (((w.setCell ⟨g, 0, none⟩ u0).setCell ⟨g, 1, none⟩ u1).setCell ⟨g, 2, none⟩ u2).heap[g]? = some (.cells #[u0, u1, u2, a3, a4, a5, a6, a7] t f) := heap_set h1 u2
  have h3 : ((((w.setCell ⟨g, 0, none⟩ u0).setCell ⟨g, 1, none⟩ u1).setCell ⟨g, 2, none⟩ u2).setCell ⟨g, 3, none⟩ u3).heap[g]? = some (.cells #[u0, u1, u2, u3, a4, a5, a6, a7] t f) := heap_set h2 u3
  exact h3
theorem t8_heap {w : World} {g : Nat} {a0 a1 a2 a3 a4 a5 a6 a7 : Value} {t : TypeId} {f : Nat × Nat} (h : w.heap[g]? = some (.cells #[a0, a1, a2, a3, a4, a5, a6, a7] t f)) (u0 u1 u2 u3 : Value) :
    ((((w.setCell ⟨g, 4, none⟩ u0).setCell ⟨g, 5, none⟩ u1).setCell ⟨g, 6, none⟩ u2).setCell ⟨g, 7, none⟩ u3).heap[g]? = some (.cells #[a0, a1, a2, a3, u0, u1, u2, u3] t f) := by
  have h0 : (w.setCell ⟨g, 4, none⟩ u0).heap[g]? = some (.cells #[a0, a1, a2, a3, u0, a5, a6, a7] t f) := heap_set h u0
  have h1 : ((w.setCell ⟨g, 4, none⟩ u0).setCell ⟨g, 5, none⟩ u1).heap[g]? = some (.cells #[a0, a1, a2, a3, u0, u1, a6, a7] t f) := heap_set h0 u1
  have h2 : (((w.setCell ⟨g, 4, none⟩ u0).setCell ⟨g, 5, none⟩ u1).setCell ⟨g, 6, none⟩ u2).heap[g]? = some (.cells #[a0, a1, a2, a3, u0, u1, u2, a7] t f) := heap_set h1 u2
  have h3 : ((((w.setCell ⟨g, 4, none⟩ u0).setCell ⟨g, 5, none⟩ u1).setCell ⟨g, 6, none⟩ u2).setCell ⟨g, 7, none⟩ u3).heap[g]? = some (.cells #[a0, a1, a2, a3, u0, u1, u2, u3] t f) := heap_set h2 u3
  exact h3
theorem t4_kept (w : World) (g : Nat) (u0 u1 u2 u3 : Value) : Kept (fun p => p = g) w ((((w.setCell ⟨g, 4, none⟩ u0).setCell ⟨g, 5, none⟩ u1).setCell ⟨g, 6, none⟩ u2).setCell ⟨g, 7, none⟩ u3) := kset (kset (kset (kset (Kept.refl (fun p => p = g) w) 4 u0) 5 u1) 6 u2) 7 u3
set_option maxRecDepth 100000 in
set_option maxHeartbeats 16000000 in
theorem insert_one (lg : Nat) (b : OpS) (hb : b.o = wkOp 2 98) (w : World) (hl : w.heap[lg]? = some (elemO ⟨1, 1, 97, false⟩)) :
    Calls Tryd.prog 40 #[.slice (some ⟨lg, 0, none⟩) 1 1, opV b, .bool false] w fun e w' => (∃ g, e = .returned (.tuple #[.slice (some ⟨g, 0, none⟩) 2 2, .int .i64 0]) ∧ w'.heap[g]? = some (.cells #[.int .i64 1, .int .i64 2, .int .i64 98, .bool false, .int .i64 1, .int .i64 1, .int .i64 97, .bool false] 56 (0, 0))) ∧ Kept (fun _ => False) w w' := by
  obtain ⟨o, A, n, c⟩ := b
  simp only at hb
  subst hb
  have hk0 : Kept (fun _ => False) w (w.alloc (opO ⟨wkOp 2 98, A, n, c⟩)) := (Kept.refl _ w).alloc _
  have HO : Hid (Op9 (w.alloc (opO ⟨wkOp 2 98, A, n, c⟩)) ⟨w.heap.size, 0, none⟩ ⟨wkOp 2 98, A, n, c⟩) := op9_new
  have HK0 := Lib.hid hk0
  have HL := Lib.hid (hk0.cellsAtE hl id)
  have cF := fun W (h' : W.heap[lg]? = some (elemO ⟨1, 1, 97, false⟩)) => find_no [⟨1, 1, 97, false⟩] (.slice (some ⟨lg, 0, none⟩) 1 1) 0 0 W (se_one h') (by decide) (fun e he => by simp at he; subst he; decide)
  clear hk0 hl
  unfold opV
  go_enter Tryd.func40, Tryd.ntmps40
  go_upto_region 1 with fail
  simp only [opO, wkOp, elemO] at HK0 HO HL
  simp only [wkOp]
  generalize w.alloc _ = w1 at *
  generalize w.heap.size = pb at *
  obtain ⟨c0, c1, c2, c3, c4, c5, c6, c7, c8⟩ := HO.out.cs
  simp only at c0 c1 c2 c3 c4 c5 c6 c7 c8
  go_wp2_with (go_at_call 39; refine (cF _ HL.out).mono ?_; clear cF c0 c1 c2 c3 c4 c5 c6 c7 c8; rintro ee w2 ⟨rfl, hk2⟩; have HK2 := Lib.hid (HK0.out.trans hk2); have HO2 := Lib.hid (HO.out.kept hk2 id); have HL2 := Lib.hid (hk2.cellsAtE HL.out id); obtain ⟨c0, c1, c2, c3, c4, c5, c6, c7, c8⟩ := HO2.out.cs; simp only at c0 c1 c2 c3 c4 c5 c6 c7 c8; clear hk2)
  clear c0 c1 c2 c3 c4 c5 c6 c7 c8
  have cL := fun W => less_any 1 2 1 1 W
  rw [decide_eq_false (show ¬ Cd.lessP 1 2 1 1 by decide)] at cL
  go_loopw [8] (fun v wr => v = .int .i64 0 ∧ Kept (fun _ => False) w2 wr) (fun _ _ => 0)
  case atStart => exact ⟨rfl, Kept.refl _ _⟩
  case round =>
    obtain ⟨rfl, hkept⟩ := hrel
    have HK := Lib.hid hkept
    clear hkept
    have HFC : Hid (∀ W, Kept (fun _ => False) w2 W → W.cell? ⟨pb, 1, none⟩ = some (.int .i64 1) ∧ W.cell? ⟨pb, 2, none⟩ = some (.int .i64 2) ∧ W.cell? ⟨lg, 0, none⟩ = some (.int .i64 1) ∧ W.cell? ⟨lg, 1, none⟩ = some (.int .i64 1)) := fun W hk => by
      have h9 := (HO2.out.kept hk id).cs
      have hl := hk.cellsAtE HL2.out id
      exact ⟨h9.2.1, h9.2.2.1, cell_of_row _ _ _ _ _ _ hl, cell_of_row _ _ _ _ _ _ hl⟩
    go_wp2_with fail
    have KA := HFC.out wr.drew HK.out.drew
    have cL5 := cL wr.drew
    clear cL
    go_region_held3 (fun (W : World) => W.cell? ⟨pb, 1, none⟩ = some (.int .i64 1) ∧ W.cell? ⟨pb, 2, none⟩ = some (.int .i64 2) ∧ W.cell? ⟨lg, 0, none⟩ = some (.int .i64 1) ∧ W.cell? ⟨lg, 1, none⟩ = some (.int .i64 1))
      (first | with_reducible exact KB | with_reducible exact KA)
      (first | (go_at_call 61; refine cL5.mono ?_; rintro e w3 ⟨rfl, hk3⟩; have HK3 : Hid (Kept (fun _ => False) w2 w3) := HK.out.drew.trans hk3; have KB := HFC.out w3 HK3.out; clear hk3))
    all_goals
      clear KA
      obtain ⟨cs, hmk, hcs⟩ := make_el w3 2 (.inr rfl)
      rw [if_neg (by decide)] at hcs
      subst hcs
      have hmk1 : (Instr.makeSlice 22 (.int .i64 0) (.int .i64 2)).run Tryd.prog w3 = .ok (.slice (some ⟨w3.heap.size, 0, none⟩) 0 2) (w3.alloc (.cells #[.int .i64 0, .int .i64 0, .int .i64 0, .bool false, .int .i64 0, .int .i64 0, .int .i64 0, .bool false] 56)) := hmk
      clear hmk
      have hr4 := heap_alloc_new w3 (.cells #[.int .i64 0, .int .i64 0, .int .i64 0, .bool false, .int .i64 0, .int .i64 0, .int .i64 0, .bool false] 56)
      have hk4 : Kept (fun _ => False) w3 (w3.alloc (.cells #[.int .i64 0, .int .i64 0, .int .i64 0, .bool false, .int .i64 0, .int .i64 0, .int .i64 0, .bool false] 56)) := (Kept.refl _ w3).alloc _
      have HR4 := Lib.hid hr4
      have HK4 := Lib.hid (HK3.out.trans hk4)
      clear hr4 hk4
      go_upto_region 11 with fail
      clear hmk1
      generalize w3.alloc (.cells #[.int .i64 0, .int .i64 0, .int .i64 0, .bool false, .int .i64 0, .int .i64 0, .int .i64 0, .bool false] 56) = w4 at *
      obtain ⟨rb, hrb⟩ : ∃ rb, w3.heap.size = rb := ⟨_, rfl⟩
      rw [hrb] at HR4
      have HRBW : Hid (w.heap.size ≤ rb ∧ lg ≠ rb) := by
        refine ⟨?_, ?_⟩
        · rw [← hrb]; exact (HK2.out.trans HK3.out).size
        · have := heap_lt (HK3.out.cellsAtE HL2.out id); omega
      have h9 := (HO2.out.kept HK4.out id).cs
      obtain ⟨c0, c1, c2, c3, c4, c5, c6, c7, c8⟩ := h9
      simp only at c0 c1 c2 c3 c4 c5 c6 c7 c8
      have fz : ∀ i, w4.frozen? ⟨rb, i, none⟩ = false := fun i => frozen_of HR4.out
      have r0 : w4.cell? ⟨rb, 0, none⟩ = some (.int .i64 0) := cell_of_row _ _ _ _ _ _ HR4.out
      have r1 : w4.cell? ⟨rb, 1, none⟩ = some (.int .i64 0) := cell_of_row _ _ _ _ _ _ HR4.out
      have r2 : w4.cell? ⟨rb, 2, none⟩ = some (.int .i64 0) := cell_of_row _ _ _ _ _ _ HR4.out
      have r3 : w4.cell? ⟨rb, 3, none⟩ = some (.bool false) := cell_of_row _ _ _ _ _ _ HR4.out
      have f0 := fz 0
      have f1 := fz 1
      have f2 := fz 2
      have f3 := fz 3
      have hrb4 : rb < w4.heap.size := heap_lt HR4.out
      clear fz
      go_region
      clear c0 c1 c2 c3 c4 c5 c6 c7 c8 r0 r1 r2 r3 f0 f1 f2 f3 hrb4
      have hsh := s8_heap HR4.out (.int .i64 1) (.int .i64 2) (.int .i64 98) (.bool false)
      have hsk := s4_kept w4 rb (.int .i64 1) (.int .i64 2) (.int .i64 98) (.bool false)
      generalize (((w4.setCell ⟨rb, 0, none⟩ (.int .i64 1)).setCell ⟨rb, 1, none⟩ (.int .i64 2)).setCell ⟨rb, 2, none⟩ (.int .i64 98)).setCell ⟨rb, 3, none⟩ (.bool false) = wS at *
      have hkf : Kept (fun _ => False) wS (wS.alloc (.cells #[.int .i64 1, .int .i64 2, .int .i64 98, .bool false] 56)).drew := ((Kept.refl _ wS).alloc _).drew
      have HF := Lib.hid (hkf.cellsAtE hsh id)
      have HKF : Hid (Kept (fun p => p = rb) w2 (wS.alloc (.cells #[.int .i64 1, .int .i64 2, .int .i64 98, .bool false] 56)).drew) := (HK4.out.any).trans (hsk.trans hkf.any)
      clear hsh hsk hkf hrb
      generalize (wS.alloc (.cells #[.int .i64 1, .int .i64 2, .int .i64 98, .bool false] 56)).drew = wZ at *
      have hl := HKF.out.cellsAtE HL2.out HRBW.out.2
      have l0 : wZ.cell? ⟨lg, 0, none⟩ = some (.int .i64 1) := cell_of_row _ _ _ _ _ _ hl
      have l1 : wZ.cell? ⟨lg, 1, none⟩ = some (.int .i64 1) := cell_of_row _ _ _ _ _ _ hl
      have l2 : wZ.cell? ⟨lg, 2, none⟩ = some (.int .i64 97) := cell_of_row _ _ _ _ _ _ hl
      have l3 : wZ.cell? ⟨lg, 3, none⟩ = some (.bool false) := cell_of_row _ _ _ _ _ _ hl
      clear hl
      have r4 : wZ.cell? ⟨rb, 4, none⟩ = some (.int .i64 0) := cell_of_row _ _ _ _ _ _ HF.out
      have r5 : wZ.cell? ⟨rb, 5, none⟩ = some (.int .i64 0) := cell_of_row _ _ _ _ _ _ HF.out
      have r6 : wZ.cell? ⟨rb, 6, none⟩ = some (.int .i64 0) := cell_of_row _ _ _ _ _ _ HF.out
      have r7 : wZ.cell? ⟨rb, 7, none⟩ = some (.bool false) := cell_of_row _ _ _ _ _ _ HF.out
      have fz : ∀ i, wZ.frozen? ⟨rb, i, none⟩ = false := fun i => frozen_of HF.out
      have f4 := fz 4
      have f5 := fz 5
      have f6 := fz 6
      have f7 := fz 7
      have hrb4 : rb < wZ.heap.size := heap_lt HF.out
      have hlg : lg ≠ rb := HRBW.out.2
      clear fz
      go_wp2_with fail
      clear l0 l1 l2 l3 r4 r5 r6 r7 f4 f5 f6 f7 hrb4 hlg
      have hsh := t8_heap HF.out (.int .i64 1) (.int .i64 1) (.int .i64 97) (.bool false)
      have hsk := t4_kept wZ rb (.int .i64 1) (.int .i64 1) (.int .i64 97) (.bool false)
      generalize (((wZ.setCell ⟨rb, 4, none⟩ (.int .i64 1)).setCell ⟨rb, 5, none⟩ (.int .i64 1)).setCell ⟨rb, 6, none⟩ (.int .i64 97)).setCell ⟨rb, 7, none⟩ (.bool false) = wY at *
      go_ret2
      exact ⟨⟨rb, rfl, hsh⟩, HK2.out.fresh (HKF.out.trans hsk) (fun p hp e => by have e : p = rb := e; have := HRBW.out.1; omega)⟩
end Go.Proofs.YtlminkbaafjloaaDoor
