/-
  THE MOTION j, of the program; that the package of the motions by rows wakes.
-/
import Derived.Test.YtonenopfdoagcaaDoorLn2j
import Derived.Test.YtonenopfdoagcaaDoorRunesK
import Derived.Test.YtonenopfdoagcaaDoorAoHn
set_option linter.unusedVariables false
namespace Go.Proofs.YtonenopfdoagcaaDoor
open Go Go.RowKit

theorem heap_two {w : World} {g : Nat} {a b x k : Value} (h : w.heap[g]? = some (.cells #[a, b] 68 (0, 0))) : ((w.setCell ⟨g, 0, none⟩ x).setCell ⟨g, 1, none⟩ k).heap[g]? = some (.cells #[x, k] 68 (0, 0)) := by
  rw [heap_set (heap_set h x) k]
  rfl
theorem res_two {fn : Func} {p u : Tmp} (h : fn.results = #[.cell p 68, .tmp u]) (tmps : Array Value) {w : World} {g : Nat} {a b : Value} (x k : Int) (hb : w.heap[g]? = some (.cells #[a, b] 68 (0, 0))) (hp : tmps.getD p undef = .pointer (some ⟨g, 0, none⟩)) :
    (results fn tmps).run Tryd.prog ((w.setCell ⟨g, 0, none⟩ (.int .i64 x)).setCell ⟨g, 1, none⟩ (.int .i64 k)) = .ok (.tuple #[tgt x k, tmps.getD u undef]) ((w.setCell ⟨g, 0, none⟩ (.int .i64 x)).setCell ⟨g, 1, none⟩ (.int .i64 k)) := by
  have hl : (loadVar 68 ⟨g, 0, none⟩).run Tryd.prog ((w.setCell ⟨g, 0, none⟩ (.int .i64 x)).setCell ⟨g, 1, none⟩ (.int .i64 k)) = .ok (tgt x k) ((w.setCell ⟨g, 0, none⟩ (.int .i64 x)).setCell ⟨g, 1, none⟩ (.int .i64 k)) :=
    run_loadVar_row _ _ _ _ _ _ _ (heap_two hb) Tryd.underlying68 rfl (by kernel_rfl)
  rw [results_cell_tmp h, hp]
  simp [asAddr, Result.andThen, hl]
theorem Kept.two {w w2 : World} (h : Kept (fun _ => False) (w.alloc zeroT) w2) (x k : Value) : Kept (fun _ => False) w ((w2.setCell ⟨w.heap.size, 0, none⟩ x).setCell ⟨w.heap.size, 1, none⟩ k) :=
  ((Kept.refl (fun _ => False) w).alloc zeroT).fresh ((h.mono (T := fun g => g = w.heap.size) (fun _ _ h => h.elim)).setCell rfl x |>.setCell rfl k) (fun k hk e => by omega)
theorem m106_any (s : ByteArray) (k m : Nat) (w : World) (hT : Tabs w) (hm : mayB s = true) (hk : k ≤ (rs s).length) (hc : m ≤ 999) :
    Calls Tryd.prog 38 #[.string s, .int .i64 k, .int .i64 106, .int .i64 m] w fun e w' => e = .returned (ans (Rw.to (rs s) k 106 m) 2) ∧ Kept (fun _ => False) w w' := by
  have hT1 : Tabs (w.alloc zeroT) := hT.kept ((Kept.refl (fun _ => False) w).alloc _) id id
  have cU := runes_yes s k (w.alloc zeroT) hT1 hm hk
  have hl := rs_len s
  have hsz := mayB_size hm
  have hry := rs_runey (mayB_valid hm)
  have hto : Rw.to (rs s) k 106 m = Rw.to (rs s) k 106 (max m 1) := by unfold Rw.to; simp [show max (max m 1) 1 = max m 1 by omega]
  rw [hto]
  clear hto
  have b1 : decide ((m : Int) < 0) = false := by simp
  have b2 : decide (999 < (m : Int)) = false := by simp; omega
  have hq : max (m : Int) 1 = ((max m 1 : Nat) : Int) := by omega
  have hq1 : 1 ≤ max m 1 ∧ max m 1 ≤ 1000 := by omega
  generalize max m 1 = q at *
  obtain ⟨hq1, hq2⟩ := hq1
  have hb : Hid ((w.alloc zeroT).heap[w.heap.size]? = some zeroT) := heap_alloc_new w _
  have hbs : w.heap.size < (w.alloc zeroT).heap.size := by simp
  generalize rs s = t at *
  clear hT hm hT1
  go_enter Tryd.func38, Tryd.ntmps38
  go_wp2_with (go_at_call 32; refine cU.mono ?_; rintro e w1 ⟨hk1, b, cap, rfl, hbg, hR⟩)
  clear cU
  have cW := a106_any (m := q) (c := cap) hR hry hk (by omega) hq2 hq1
  refine cW.mono ?_
  rintro e w2 ⟨rfl, hk2⟩
  clear cW
  have h2 : w2.heap[w.heap.size]? = some zeroT := ((hk2.block _ (Nat.lt_of_lt_of_le hbs hk1.size) id).trans (hk1.block _ hbs id)).trans hb.out
  have c0 : w2.cell? ⟨w.heap.size, 0, none⟩ = some (.int .i64 0) := by rw [cell_of_row _ _ _ _ _ _ h2]; rfl
  have c1 : w2.cell? ⟨w.heap.size, 1, none⟩ = some (.int .i64 0) := by rw [cell_of_row _ _ _ _ _ _ h2]; rfl
  have f0 : w2.frozen? ⟨w.heap.size, 0, none⟩ = false := frozen_of h2
  have f1 : w2.frozen? ⟨w.heap.size, 1, none⟩ = false := frozen_of h2
  have H2 := Lib.hid h2
  have HK := Lib.hid (hk1.trans hk2)
  clear hk1 hk2 h2 hR hb
  cases hto : Rw.to t k 106 q with
  | none =>
    have HO := Lib.hid hto
    clear hto
    unfold ans tgt
    simp only
    go_wp2
    refine bodyPost_ret (res_two rfl _ 0 0 H2.out rfl) rfl ⟨?_, HK.out.two _ _⟩
    rw [HO.out]
    rfl
  | some x =>
    have HO := Lib.hid hto
    clear hto
    unfold ans tgt
    simp only
    go_wp2
    refine bodyPost_ret (res_two rfl _ x 2 H2.out rfl) rfl ⟨?_, HK.out.two _ _⟩
    rw [HO.out]
    rfl
theorem num_any (x : Int) (w : World) : Calls Tryd.prog 22 #[.int .i64 x] w fun e w' => e = .returned (.int .i64 x) ∧ w' = w := by
  go_enter Tryd.func22, Tryd.ntmps22
  go_wp2
  go_ret
  exact ⟨rfl, rfl⟩
/-- The text that wakes. -/
def abc : ByteArray := ⟨#[97, 98, 10, 99]⟩
theorem abc_rs : rs abc = [97, 98, 10, 99] := by decide
theorem abc_may : mayB abc = true := by decide
theorem abc_to : ans (Rw.to (rs abc) 1 106 0) 2 = .tuple #[tgt 4 2, .int .i64 0] := by
  rw [abc_rs]
  rfl
theorem wakes_any (w : World) (hT : Tabs w) : Calls Tryd.prog 23 #[] w fun e w' => e = .returned (.bool true) ∧ Kept (fun _ => False) w w' := by
  have cM := m106_any abc 1 0 w hT abc_may (by rw [abc_rs]; decide) (by decide)
  rw [abc_to] at cM
  unfold abc tgt at cM
  clear hT
  go_enter Tryd.func23, Tryd.ntmps23
  go_wp2_with (first | (go_at_call 38; refine cM.mono ?_; rintro e w1 ⟨rfl, hk1⟩) | (go_at_call 22; refine (num_any _ _).mono ?_; rintro e w2 ⟨rfl, rfl⟩))
  go_ret
  exact ⟨rfl, hk1.alloc _⟩

end Go.Proofs.YtonenopfdoagcaaDoor
