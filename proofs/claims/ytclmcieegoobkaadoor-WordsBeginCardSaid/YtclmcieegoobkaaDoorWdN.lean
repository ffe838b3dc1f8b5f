/-
  THE LAWS OF MOTIONS BY WORDS: each calls the common walk with its keys.
-/
import Derived.Test.YtclmcieegoobkaaDoorWdL
set_option linter.unusedVariables false
namespace Go.Proofs.YtclmcieegoobkaaDoor
open Go Go.RowKit

theorem moves_lit (p : AskV) (keys : List Int) (w : World) (hp : AskOk w p) (hT : Tabs w) (hk : keys.length ≤ 100) :
    Calls Tryd.prog 25 #[.agg p.cells, .slice (some ⟨w.heap.size + 1, 0, none⟩) keys.length keys.length] ((w.alloc (.cells p.cells 39)).alloc (.cells (keys.map (Value.int .i64)).toArray 3)) fun e w' => e = .returned (.bool true) ∧ Kept (fun _ => False) w w' := by
  have hk1 : Kept (fun _ => False) w (w.alloc (.cells p.cells 39)) := (Kept.refl _ w).alloc _
  have hN := nums_new (w.alloc (.cells p.cells 39)) keys 3
  rw [show (w.alloc (.cells p.cells 39)).heap.size = w.heap.size + 1 by simp] at hN
  have hk2 : Kept (fun _ => False) w ((w.alloc (.cells p.cells 39)).alloc (.cells (keys.map (Value.int .i64)).toArray 3)) := hk1.alloc _
  exact (moves_any p _ keys.length keys.length keys _ (hp.kept hk2) hN hk (hT.kept hk2 id id)).mono fun e w' h => ⟨h.1, hk2.trans h.2⟩
theorem wordsBegin_any (p : AskV) (w : World) (hp : AskOk w p) (hT : Tabs w) : Calls Tryd.prog 4 #[.agg p.cells] w fun e w' => e = .returned (.bool true) ∧ Kept (fun _ => False) w w' := by
  have cM := moves_lit p [119, 87] w hp hT (by simp)
  clear hp hT
  obtain ⟨A, n0, c0, ss, xa, xb, xr, xc, xk, xn, xq⟩ := p
  unfold AskV.cells at *
  simp only [List.map_cons, List.map_nil, List.length_cons, List.length_nil] at cM
  go_enter Tryd.func4, Tryd.ntmps4
  go_wp2_with (go_at_call 25; refine cM.mono ?_; rintro e w' ⟨rfl, hk⟩)
  go_ret
  exact ⟨rfl, hk⟩
theorem wordsBack_any (p : AskV) (w : World) (hp : AskOk w p) (hT : Tabs w) : Calls Tryd.prog 5 #[.agg p.cells] w fun e w' => e = .returned (.bool true) ∧ Kept (fun _ => False) w w' := by
  have cM := moves_lit p [98, 66] w hp hT (by simp)
  clear hp hT
  obtain ⟨A, n0, c0, ss, xa, xb, xr, xc, xk, xn, xq⟩ := p
  unfold AskV.cells at *
  simp only [List.map_cons, List.map_nil, List.length_cons, List.length_nil] at cM
  go_enter Tryd.func5, Tryd.ntmps5
  go_wp2_with (go_at_call 25; refine cM.mono ?_; rintro e w' ⟨rfl, hk⟩)
  go_ret
  exact ⟨rfl, hk⟩
theorem wordsEnd_any (p : AskV) (w : World) (hp : AskOk w p) (hT : Tabs w) : Calls Tryd.prog 6 #[.agg p.cells] w fun e w' => e = .returned (.bool true) ∧ Kept (fun _ => False) w w' := by
  have cM := moves_lit p [101, 69, p.xk] w hp hT (by simp)
  clear hp hT
  obtain ⟨A, n0, c0, ss, xa, xb, xr, xc, xk, xn, xq⟩ := p
  unfold AskV.cells at *
  simp only [List.map_cons, List.map_nil, List.length_cons, List.length_nil] at cM
  go_enter Tryd.func6, Tryd.ntmps6
  go_wp2_with (go_at_call 25; refine cM.mono ?_; rintro e w' ⟨rfl, hk⟩)
  go_ret
  exact ⟨rfl, hk⟩
theorem wordW_any (p : AskV) (w : World) (hp : AskOk w p) (hT : Tabs w) : Calls Tryd.prog 9 #[.agg p.cells] w fun e w' => e = .returned (.bool true) ∧ Kept (fun _ => False) w w' := by
  have cM := moves_lit p [119] w hp hT (by simp)
  clear hp hT
  obtain ⟨A, n0, c0, ss, xa, xb, xr, xc, xk, xn, xq⟩ := p
  unfold AskV.cells at *
  simp only [List.map_cons, List.map_nil, List.length_cons, List.length_nil] at cM
  go_enter Tryd.func9, Tryd.ntmps9
  go_wp2_with (go_at_call 25; refine cM.mono ?_; rintro e w' ⟨rfl, hk⟩)
  go_ret
  exact ⟨rfl, hk⟩
theorem wordB_any (p : AskV) (w : World) (hp : AskOk w p) (hT : Tabs w) : Calls Tryd.prog 10 #[.agg p.cells] w fun e w' => e = .returned (.bool true) ∧ Kept (fun _ => False) w w' := by
  have cM := moves_lit p [98] w hp hT (by simp)
  clear hp hT
  obtain ⟨A, n0, c0, ss, xa, xb, xr, xc, xk, xn, xq⟩ := p
  unfold AskV.cells at *
  simp only [List.map_cons, List.map_nil, List.length_cons, List.length_nil] at cM
  go_enter Tryd.func10, Tryd.ntmps10
  go_wp2_with (go_at_call 25; refine cM.mono ?_; rintro e w' ⟨rfl, hk⟩)
  go_ret
  exact ⟨rfl, hk⟩
theorem wordE_any (p : AskV) (w : World) (hp : AskOk w p) (hT : Tabs w) : Calls Tryd.prog 11 #[.agg p.cells] w fun e w' => e = .returned (.bool true) ∧ Kept (fun _ => False) w w' := by
  have cM := moves_lit p [101] w hp hT (by simp)
  clear hp hT
  obtain ⟨A, n0, c0, ss, xa, xb, xr, xc, xk, xn, xq⟩ := p
  unfold AskV.cells at *
  simp only [List.map_cons, List.map_nil, List.length_cons, List.length_nil] at cM
  go_enter Tryd.func11, Tryd.ntmps11
  go_wp2_with (go_at_call 25; refine cM.mono ?_; rintro e w' ⟨rfl, hk⟩)
  go_ret
  exact ⟨rfl, hk⟩
theorem wordBigW_any (p : AskV) (w : World) (hp : AskOk w p) (hT : Tabs w) : Calls Tryd.prog 12 #[.agg p.cells] w fun e w' => e = .returned (.bool true) ∧ Kept (fun _ => False) w w' := by
  have cM := moves_lit p [87] w hp hT (by simp)
  clear hp hT
  obtain ⟨A, n0, c0, ss, xa, xb, xr, xc, xk, xn, xq⟩ := p
  unfold AskV.cells at *
  simp only [List.map_cons, List.map_nil, List.length_cons, List.length_nil] at cM
  go_enter Tryd.func12, Tryd.ntmps12
  go_wp2_with (go_at_call 25; refine cM.mono ?_; rintro e w' ⟨rfl, hk⟩)
  go_ret
  exact ⟨rfl, hk⟩
theorem wordBigB_any (p : AskV) (w : World) (hp : AskOk w p) (hT : Tabs w) : Calls Tryd.prog 13 #[.agg p.cells] w fun e w' => e = .returned (.bool true) ∧ Kept (fun _ => False) w w' := by
  have cM := moves_lit p [66] w hp hT (by simp)
  clear hp hT
  obtain ⟨A, n0, c0, ss, xa, xb, xr, xc, xk, xn, xq⟩ := p
  unfold AskV.cells at *
  simp only [List.map_cons, List.map_nil, List.length_cons, List.length_nil] at cM
  go_enter Tryd.func13, Tryd.ntmps13
  go_wp2_with (go_at_call 25; refine cM.mono ?_; rintro e w' ⟨rfl, hk⟩)
  go_ret
  exact ⟨rfl, hk⟩
theorem wordBigE_any (p : AskV) (w : World) (hp : AskOk w p) (hT : Tabs w) : Calls Tryd.prog 14 #[.agg p.cells] w fun e w' => e = .returned (.bool true) ∧ Kept (fun _ => False) w w' := by
  have cM := moves_lit p [69] w hp hT (by simp)
  clear hp hT
  obtain ⟨A, n0, c0, ss, xa, xb, xr, xc, xk, xn, xq⟩ := p
  unfold AskV.cells at *
  simp only [List.map_cons, List.map_nil, List.length_cons, List.length_nil] at cM
  go_enter Tryd.func14, Tryd.ntmps14
  go_wp2_with (go_at_call 25; refine cM.mono ?_; rintro e w' ⟨rfl, hk⟩)
  go_ret
  exact ⟨rfl, hk⟩
end Go.Proofs.YtclmcieegoobkaaDoor
