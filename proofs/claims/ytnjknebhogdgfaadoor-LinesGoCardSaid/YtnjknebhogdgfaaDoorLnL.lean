/-
  THE LAWS OF MOTIONS BY ROWS: each calls the common walk with its keys.
-/
import Derived.Test.YtnjknebhogdgfaaDoorLnM
set_option linter.unusedVariables false
namespace Go.Proofs.YtnjknebhogdgfaaDoor
open Go Go.RowKit

theorem moves_lit (p : AskV) (keys : List Int) (w : World) (hp : AskOk w p) (hT : Tabs w) (hk : keys.length ≤ 100) :
    Calls Tryd.prog 20 #[.agg p.cells, .slice (some ⟨w.heap.size + 1, 0, none⟩) keys.length keys.length] ((w.alloc (.cells p.cells 28)).alloc (.cells (keys.map (Value.int .i64)).toArray 3)) fun e w' => e = .returned (.bool true) ∧ Kept (fun _ => False) w w' := by
  have hk1 : Kept (fun _ => False) w (w.alloc (.cells p.cells 28)) := (Kept.refl _ w).alloc _
  have hN := nums_new (w.alloc (.cells p.cells 28)) keys 3
  rw [show (w.alloc (.cells p.cells 28)).heap.size = w.heap.size + 1 by simp] at hN
  have hk2 : Kept (fun _ => False) w ((w.alloc (.cells p.cells 28)).alloc (.cells (keys.map (Value.int .i64)).toArray 3)) := hk1.alloc _
  exact (moves_any p _ keys.length keys.length keys _ (hp.kept hk2) hN hk (hT.kept hk2 id id)).mono fun e w' h => ⟨h.1, hk2.trans h.2⟩
theorem linesWithin_any (p : AskV) (w : World) (hp : AskOk w p) (hT : Tabs w) : Calls Tryd.prog 3 #[.agg p.cells] w fun e w' => e = .returned (.bool true) ∧ Kept (fun _ => False) w w' := by
  have cM := moves_lit p [104, 108, 48, 94, 36] w hp hT (by simp)
  clear hp hT
  obtain ⟨A, n0, c0, ss, xa, xb, xr, xc, xk, xn, xq⟩ := p
  unfold AskV.cells at *
  simp only [List.map_cons, List.map_nil, List.length_cons, List.length_nil] at cM
  go_enter Tryd.func3, Tryd.ntmps3
  go_wp2_with (go_at_call 20; refine cM.mono ?_; rintro e w' ⟨rfl, hk⟩)
  go_ret
  exact ⟨rfl, hk⟩
theorem linesDown_any (p : AskV) (w : World) (hp : AskOk w p) (hT : Tabs w) : Calls Tryd.prog 4 #[.agg p.cells] w fun e w' => e = .returned (.bool true) ∧ Kept (fun _ => False) w w' := by
  have cM := moves_lit p [106, 107, 43, 45, 95] w hp hT (by simp)
  clear hp hT
  obtain ⟨A, n0, c0, ss, xa, xb, xr, xc, xk, xn, xq⟩ := p
  unfold AskV.cells at *
  simp only [List.map_cons, List.map_nil, List.length_cons, List.length_nil] at cM
  go_enter Tryd.func4, Tryd.ntmps4
  go_wp2_with (go_at_call 20; refine cM.mono ?_; rintro e w' ⟨rfl, hk⟩)
  go_ret
  exact ⟨rfl, hk⟩
theorem linesGo_any (p : AskV) (w : World) (hp : AskOk w p) (hT : Tabs w) : Calls Tryd.prog 5 #[.agg p.cells] w fun e w' => e = .returned (.bool true) ∧ Kept (fun _ => False) w w' := by
  have cM := moves_lit p [71, 16777319, 103, p.xk] w hp hT (by simp)
  clear hp hT
  obtain ⟨A, n0, c0, ss, xa, xb, xr, xc, xk, xn, xq⟩ := p
  unfold AskV.cells at *
  simp only [List.map_cons, List.map_nil, List.length_cons, List.length_nil] at cM
  go_enter Tryd.func5, Tryd.ntmps5
  go_wp2_with (go_at_call 20; refine cM.mono ?_; rintro e w' ⟨rfl, hk⟩)
  go_ret
  exact ⟨rfl, hk⟩
theorem lineLeft_any (p : AskV) (w : World) (hp : AskOk w p) (hT : Tabs w) : Calls Tryd.prog 8 #[.agg p.cells] w fun e w' => e = .returned (.bool true) ∧ Kept (fun _ => False) w w' := by
  have cM := moves_lit p [104] w hp hT (by simp)
  clear hp hT
  obtain ⟨A, n0, c0, ss, xa, xb, xr, xc, xk, xn, xq⟩ := p
  unfold AskV.cells at *
  simp only [List.map_cons, List.map_nil, List.length_cons, List.length_nil] at cM
  go_enter Tryd.func8, Tryd.ntmps8
  go_wp2_with (go_at_call 20; refine cM.mono ?_; rintro e w' ⟨rfl, hk⟩)
  go_ret
  exact ⟨rfl, hk⟩
theorem lineRight_any (p : AskV) (w : World) (hp : AskOk w p) (hT : Tabs w) : Calls Tryd.prog 9 #[.agg p.cells] w fun e w' => e = .returned (.bool true) ∧ Kept (fun _ => False) w w' := by
  have cM := moves_lit p [108] w hp hT (by simp)
  clear hp hT
  obtain ⟨A, n0, c0, ss, xa, xb, xr, xc, xk, xn, xq⟩ := p
  unfold AskV.cells at *
  simp only [List.map_cons, List.map_nil, List.length_cons, List.length_nil] at cM
  go_enter Tryd.func9, Tryd.ntmps9
  go_wp2_with (go_at_call 20; refine cM.mono ?_; rintro e w' ⟨rfl, hk⟩)
  go_ret
  exact ⟨rfl, hk⟩
theorem lineZero_any (p : AskV) (w : World) (hp : AskOk w p) (hT : Tabs w) : Calls Tryd.prog 10 #[.agg p.cells] w fun e w' => e = .returned (.bool true) ∧ Kept (fun _ => False) w w' := by
  have cM := moves_lit p [48] w hp hT (by simp)
  clear hp hT
  obtain ⟨A, n0, c0, ss, xa, xb, xr, xc, xk, xn, xq⟩ := p
  unfold AskV.cells at *
  simp only [List.map_cons, List.map_nil, List.length_cons, List.length_nil] at cM
  go_enter Tryd.func10, Tryd.ntmps10
  go_wp2_with (go_at_call 20; refine cM.mono ?_; rintro e w' ⟨rfl, hk⟩)
  go_ret
  exact ⟨rfl, hk⟩
theorem lineCaret_any (p : AskV) (w : World) (hp : AskOk w p) (hT : Tabs w) : Calls Tryd.prog 11 #[.agg p.cells] w fun e w' => e = .returned (.bool true) ∧ Kept (fun _ => False) w w' := by
  have cM := moves_lit p [94] w hp hT (by simp)
  clear hp hT
  obtain ⟨A, n0, c0, ss, xa, xb, xr, xc, xk, xn, xq⟩ := p
  unfold AskV.cells at *
  simp only [List.map_cons, List.map_nil, List.length_cons, List.length_nil] at cM
  go_enter Tryd.func11, Tryd.ntmps11
  go_wp2_with (go_at_call 20; refine cM.mono ?_; rintro e w' ⟨rfl, hk⟩)
  go_ret
  exact ⟨rfl, hk⟩
theorem lineDollar_any (p : AskV) (w : World) (hp : AskOk w p) (hT : Tabs w) : Calls Tryd.prog 12 #[.agg p.cells] w fun e w' => e = .returned (.bool true) ∧ Kept (fun _ => False) w w' := by
  have cM := moves_lit p [36] w hp hT (by simp)
  clear hp hT
  obtain ⟨A, n0, c0, ss, xa, xb, xr, xc, xk, xn, xq⟩ := p
  unfold AskV.cells at *
  simp only [List.map_cons, List.map_nil, List.length_cons, List.length_nil] at cM
  go_enter Tryd.func12, Tryd.ntmps12
  go_wp2_with (go_at_call 20; refine cM.mono ?_; rintro e w' ⟨rfl, hk⟩)
  go_ret
  exact ⟨rfl, hk⟩
theorem lineDown_any (p : AskV) (w : World) (hp : AskOk w p) (hT : Tabs w) : Calls Tryd.prog 13 #[.agg p.cells] w fun e w' => e = .returned (.bool true) ∧ Kept (fun _ => False) w w' := by
  have cM := moves_lit p [106] w hp hT (by simp)
  clear hp hT
  obtain ⟨A, n0, c0, ss, xa, xb, xr, xc, xk, xn, xq⟩ := p
  unfold AskV.cells at *
  simp only [List.map_cons, List.map_nil, List.length_cons, List.length_nil] at cM
  go_enter Tryd.func13, Tryd.ntmps13
  go_wp2_with (go_at_call 20; refine cM.mono ?_; rintro e w' ⟨rfl, hk⟩)
  go_ret
  exact ⟨rfl, hk⟩
theorem lineUp_any (p : AskV) (w : World) (hp : AskOk w p) (hT : Tabs w) : Calls Tryd.prog 14 #[.agg p.cells] w fun e w' => e = .returned (.bool true) ∧ Kept (fun _ => False) w w' := by
  have cM := moves_lit p [107] w hp hT (by simp)
  clear hp hT
  obtain ⟨A, n0, c0, ss, xa, xb, xr, xc, xk, xn, xq⟩ := p
  unfold AskV.cells at *
  simp only [List.map_cons, List.map_nil, List.length_cons, List.length_nil] at cM
  go_enter Tryd.func14, Tryd.ntmps14
  go_wp2_with (go_at_call 20; refine cM.mono ?_; rintro e w' ⟨rfl, hk⟩)
  go_ret
  exact ⟨rfl, hk⟩
theorem linePlus_any (p : AskV) (w : World) (hp : AskOk w p) (hT : Tabs w) : Calls Tryd.prog 15 #[.agg p.cells] w fun e w' => e = .returned (.bool true) ∧ Kept (fun _ => False) w w' := by
  have cM := moves_lit p [43] w hp hT (by simp)
  clear hp hT
  obtain ⟨A, n0, c0, ss, xa, xb, xr, xc, xk, xn, xq⟩ := p
  unfold AskV.cells at *
  simp only [List.map_cons, List.map_nil, List.length_cons, List.length_nil] at cM
  go_enter Tryd.func15, Tryd.ntmps15
  go_wp2_with (go_at_call 20; refine cM.mono ?_; rintro e w' ⟨rfl, hk⟩)
  go_ret
  exact ⟨rfl, hk⟩
theorem lineMinus_any (p : AskV) (w : World) (hp : AskOk w p) (hT : Tabs w) : Calls Tryd.prog 16 #[.agg p.cells] w fun e w' => e = .returned (.bool true) ∧ Kept (fun _ => False) w w' := by
  have cM := moves_lit p [45] w hp hT (by simp)
  clear hp hT
  obtain ⟨A, n0, c0, ss, xa, xb, xr, xc, xk, xn, xq⟩ := p
  unfold AskV.cells at *
  simp only [List.map_cons, List.map_nil, List.length_cons, List.length_nil] at cM
  go_enter Tryd.func16, Tryd.ntmps16
  go_wp2_with (go_at_call 20; refine cM.mono ?_; rintro e w' ⟨rfl, hk⟩)
  go_ret
  exact ⟨rfl, hk⟩
theorem lineUnder_any (p : AskV) (w : World) (hp : AskOk w p) (hT : Tabs w) : Calls Tryd.prog 17 #[.agg p.cells] w fun e w' => e = .returned (.bool true) ∧ Kept (fun _ => False) w w' := by
  have cM := moves_lit p [95] w hp hT (by simp)
  clear hp hT
  obtain ⟨A, n0, c0, ss, xa, xb, xr, xc, xk, xn, xq⟩ := p
  unfold AskV.cells at *
  simp only [List.map_cons, List.map_nil, List.length_cons, List.length_nil] at cM
  go_enter Tryd.func17, Tryd.ntmps17
  go_wp2_with (go_at_call 20; refine cM.mono ?_; rintro e w' ⟨rfl, hk⟩)
  go_ret
  exact ⟨rfl, hk⟩
theorem lineLast_any (p : AskV) (w : World) (hp : AskOk w p) (hT : Tabs w) : Calls Tryd.prog 18 #[.agg p.cells] w fun e w' => e = .returned (.bool true) ∧ Kept (fun _ => False) w w' := by
  have cM := moves_lit p [71] w hp hT (by simp)
  clear hp hT
  obtain ⟨A, n0, c0, ss, xa, xb, xr, xc, xk, xn, xq⟩ := p
  unfold AskV.cells at *
  simp only [List.map_cons, List.map_nil, List.length_cons, List.length_nil] at cM
  go_enter Tryd.func18, Tryd.ntmps18
  go_wp2_with (go_at_call 20; refine cM.mono ?_; rintro e w' ⟨rfl, hk⟩)
  go_ret
  exact ⟨rfl, hk⟩
theorem lineTop_any (p : AskV) (w : World) (hp : AskOk w p) (hT : Tabs w) : Calls Tryd.prog 19 #[.agg p.cells] w fun e w' => e = .returned (.bool true) ∧ Kept (fun _ => False) w w' := by
  have cM := moves_lit p [16777319] w hp hT (by simp)
  clear hp hT
  obtain ⟨A, n0, c0, ss, xa, xb, xr, xc, xk, xn, xq⟩ := p
  unfold AskV.cells at *
  simp only [List.map_cons, List.map_nil, List.length_cons, List.length_nil] at cM
  go_enter Tryd.func19, Tryd.ntmps19
  go_wp2_with (go_at_call 20; refine cM.mono ?_; rintro e w' ⟨rfl, hk⟩)
  go_ret
  exact ⟨rfl, hk⟩
end Go.Proofs.YtnjknebhogdgfaaDoor
