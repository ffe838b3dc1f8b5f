/-
  THE REFERENCE's PLACE: the row and the column of an offset.
-/
import Derived.Test.YtnjknebhogdgfaaDoorSp
import Derived.Test.YtnjknebhogdgfaaDoorNlP
import Derived.Laws.Rows
set_option linter.unusedVariables false
namespace Go.Proofs.YtnjknebhogdgfaaDoor
open Go Go.RowKit

abbrev zeroP : Obj := .cells #[.int .i64 0, .int .i64 0] 24
theorem rplace_any (A : Option Addr) (n c : Nat) (t : List Int) (k : Nat) (w : World) (hA : Rn w A n t) (hk : k ≤ n) (hn : n ≤ 100000) :
    Calls Tryd.prog 28 #[.slice A n c, .int .i64 k] w fun e w' => e = .returned (.agg #[.int .i64 (Rw.nl t k : Nat), .int .i64 (k - Rw.beg t k : Nat)]) ∧ Kept (fun _ => False) w w' := by
  have hA1 : Rn (w.alloc zeroP) A n t := hA.kept ((Kept.refl (fun _ => False) w).alloc _) (fun _ _ => id)
  have cB := rbegin_any A n c t k (w.alloc zeroP) hA1 hk hn
  have hb := Rw.beg_le t k
  have hb2 : ((k : Int) - (Rw.beg t k : Nat)) = ((k - Rw.beg t k : Nat) : Int) := by omega
  generalize Rw.beg t k = b at *
  generalize k - b = col at *
  have hcol : col ≤ 100000 := by omega
  have HA := Lib.hid hA
  clear hA hA1
  go_enter Tryd.func28, Tryd.ntmps28
  go_wp2_with (go_at_call 40; refine cB.mono ?_; rintro e w' ⟨rfl, rfl⟩)
  have h5 : ((w.alloc zeroP).alloc (.cells #[.int .i64 0, .int .i64 (col : Nat)] 24)).heap[w.heap.size + 1]? = some (.cells #[.int .i64 (Rw.nl t 0 : Nat), .int .i64 (col : Nat)] 24 (0, 0)) := by
    have := heap_alloc_new (w.alloc zeroP) (.cells #[.int .i64 0, .int .i64 (col : Nat)] 24)
    rw [show (w.alloc zeroP).heap.size = w.heap.size + 1 by simp] at this
    rw [this, Rw.nl_zero]
    rfl
  have h4 : ((w.alloc zeroP).alloc (.cells #[.int .i64 0, .int .i64 (col : Nat)] 24)).heap[w.heap.size]? = some zeroP :=
    (heap_alloc_old (w.alloc zeroP) _ (by simp)).trans (heap_alloc_new w zeroP)
  have hk0 : Kept (fun _ => False) w ((w.alloc zeroP).alloc (.cells #[.int .i64 0, .int .i64 (col : Nat)] 24)) := ((Kept.refl _ w).alloc _).alloc _
  have H4 := Lib.hid h4
  have H5 := Lib.hid h5
  have HK := Lib.hid hk0
  clear h4 h5 hk0 cB
  generalize (w.alloc zeroP).alloc (.cells #[.int .i64 0, .int .i64 (col : Nat)] 24) = W at *
  generalize hg5 : w.heap.size + 1 = g5 at *
  generalize hg4 : w.heap.size = g4 at *
  have HG5 := Lib.hid hg5
  have HG4 := Lib.hid hg4
  have hne : g4 ≠ g5 := by omega
  have HNE := Lib.hid hne
  clear hg5 hg4 hne
  go_loopw [6] (fun v wr => ∃ i : Nat, i ≤ k ∧ v = .int .i64 i ∧ wr.heap[g5]? = some (.cells #[.int .i64 (Rw.nl t i : Nat), .int .i64 (col : Nat)] 24 (0, 0)) ∧ wr.heap[g4]? = some zeroP ∧ Kept (fun _ => False) w wr) (fun v _ => k - (intOf v).toNat)
  case atStart => exact ⟨0, Nat.zero_le _, rfl, H5.out, H4.out, HK.out⟩
  case round =>
    obtain ⟨i, hi, rfl, r5, r4, rk⟩ := hrel
    have R5 := Lib.hid r5
    have R4 := Lib.hid r4
    have RK := Lib.hid rk
    have c0 : wr.cell? ⟨g5, 0, none⟩ = some (.int .i64 (Rw.nl t i : Nat)) := by rw [cell_of_row _ _ _ _ _ _ r5]; rfl
    have c1 : wr.cell? ⟨g5, 1, none⟩ = some (.int .i64 (col : Nat)) := by rw [cell_of_row _ _ _ _ _ _ r5]; rfl
    have f0 : wr.frozen? ⟨g5, 0, none⟩ = false := frozen_of r5
    have d0 : wr.cell? ⟨g4, 0, none⟩ = some (.int .i64 0) := by rw [cell_of_row _ _ _ _ _ _ r4]; rfl
    have d1 : wr.cell? ⟨g4, 1, none⟩ = some (.int .i64 0) := by rw [cell_of_row _ _ _ _ _ _ r4]; rfl
    have e0 : wr.frozen? ⟨g4, 0, none⟩ = false := frozen_of r4
    have e1 : wr.frozen? ⟨g4, 1, none⟩ = false := frozen_of r4
    have hnl := Rw.nl_le t i
    by_cases hik : i < k
    · obtain ⟨ad, x, rfl, hx, hc⟩ := (HA.out.kept rk (fun _ _ => id)).cell (j := i) (by omega)
      have HX := Lib.hid hx
      clear hx r5 r4 rk
      have b1 : decide (i < k) = true := by simp; omega
      by_cases h10 : x = 10
      · subst h10
        have HU := Lib.hid (Rw.nl_up HX.out)
        go_wp2
        go_roundw
        case rel =>
          refine ⟨i + 1, by omega, by go_num, ?_, ?_, ?_⟩
          · rw [heap_set R5.out, HU.out]
            rfl
          · exact (heap_far HNE.out _).trans R4.out
          · exact RK.out.fresh ((Kept.refl (fun b => b = g5) wr).setCell rfl _) (fun b hb e => by have := HG5.out; have := HG4.out; omega)
        case measure => simp [intOf]; omega
      · have b3 : (x == 10) = false := by rw [beq_eq_false_iff_ne]; exact h10
        have HU := Lib.hid (Rw.nl_stay (t := t) (k := i) (by rw [HX.out]; intro e; injection e with e; exact h10 e))
        clear h10
        go_wp2
        go_roundw
        case rel =>
          refine ⟨i + 1, by omega, by go_num, ?_, R4.out, RK.out⟩
          rw [R5.out, HU.out]
        case measure => simp [intOf]; omega
    · obtain rfl : i = k := by omega
      clear r5 r4 rk
      go_wp2
      refine bodyPost_ret (results_cell_row (cs := #[.int .i64 (Rw.nl t i : Nat), .int .i64 (col : Nat)]) rfl _ _ g4 24 _ _ rfl (by rw [heap_set (heap_set R4.out _) _]; rfl) Tryd.underlying24 rfl (by kernel_rfl)) rfl ⟨rfl, ?_⟩
      exact RK.out.fresh (((Kept.refl (fun b => b = g4) wr).setCell (p := ⟨g4, 0, none⟩) rfl _).setCell (p := ⟨g4, 1, none⟩) rfl _) (fun b hb e => by have := HG4.out; omega)
theorem field_row (w : World) (r c : Int) : (Instr.field 24 (.agg #[.int .i64 r, .int .i64 c]) 0).run Tryd.prog w = .ok (.int .i64 r) w := by
  kernel_rfl
end Go.Proofs.YtnjknebhogdgfaaDoor
