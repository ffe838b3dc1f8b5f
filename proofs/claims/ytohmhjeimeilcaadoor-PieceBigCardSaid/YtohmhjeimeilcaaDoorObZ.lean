/-
  THE LAWS OF PIECES, by keys.
-/
import Derived.Test.YtohmhjeimeilcaaDoorObL
set_option linter.unusedVariables false
namespace Go.Proofs.YtohmhjeimeilcaaDoor
open Go Go.RowKit

theorem pieces_lit (p : AskV) (keys : List Int) (w : World) (hp : AskOk w p) (hT : Tabs w) (hk : keys.length ≤ 100) :
    Calls Tryd.prog 25 #[.agg p.cells, .slice (some ⟨w.heap.size + 1, 0, none⟩) keys.length keys.length] ((w.alloc (.cells p.cells 28)).alloc (.cells (keys.map (Value.int .i64)).toArray 3)) fun e w' => e = .returned (.bool true) ∧ Kept (fun _ => False) w w' := by
  have hk1 : Kept (fun _ => False) w (w.alloc (.cells p.cells 28)) := (Kept.refl _ w).alloc _
  have hN := nums_new (w.alloc (.cells p.cells 28)) keys 3
  rw [show (w.alloc (.cells p.cells 28)).heap.size = w.heap.size + 1 by simp] at hN
  have hk2 : Kept (fun _ => False) w ((w.alloc (.cells p.cells 28)).alloc (.cells (keys.map (Value.int .i64)).toArray 3)) := hk1.alloc _
  exact (pieces_any p _ keys.length keys.length keys _ (hp.kept hk2) hN hk (hT.kept hk2 id id)).mono fun e w' h => ⟨h.1, hk2.trans h.2⟩
theorem objectWords_any (p : AskV) (w : World) (hp : AskOk w p) (hT : Tabs w) : Calls Tryd.prog 5 #[.agg p.cells] w fun e w' => e = .returned (.bool true) ∧ Kept (fun _ => False) w w' := by
  have cM := pieces_lit p [119, 87] w hp hT (by simp)
  clear hp hT
  obtain ⟨A, n0, c0, ss, xa, xb, xr, xc, xk, xn, xq⟩ := p
  unfold AskV.cells at *
  simp only [List.map_cons, List.map_nil, List.length_cons, List.length_nil] at cM
  go_enter Tryd.func5, Tryd.ntmps5
  go_wp2_with (go_at_call 25; refine cM.mono ?_; rintro e w' ⟨rfl, hk⟩)
  go_ret
  exact ⟨rfl, hk⟩
theorem objectQuotes_any (p : AskV) (w : World) (hp : AskOk w p) (hT : Tabs w) : Calls Tryd.prog 6 #[.agg p.cells] w fun e w' => e = .returned (.bool true) ∧ Kept (fun _ => False) w w' := by
  have cM := pieces_lit p [34] w hp hT (by simp)
  clear hp hT
  obtain ⟨A, n0, c0, ss, xa, xb, xr, xc, xk, xn, xq⟩ := p
  unfold AskV.cells at *
  simp only [List.map_cons, List.map_nil, List.length_cons, List.length_nil] at cM
  go_enter Tryd.func6, Tryd.ntmps6
  go_wp2_with (go_at_call 25; refine cM.mono ?_; rintro e w' ⟨rfl, hk⟩)
  go_ret
  exact ⟨rfl, hk⟩
theorem objectPairs_any (p : AskV) (w : World) (hp : AskOk w p) (hT : Tabs w) : Calls Tryd.prog 7 #[.agg p.cells] w fun e w' => e = .returned (.bool true) ∧ Kept (fun _ => False) w w' := by
  have cM := pieces_lit p [40, 41, 98, 91, 93, 123, 125, 66] w hp hT (by simp)
  clear hp hT
  obtain ⟨A, n0, c0, ss, xa, xb, xr, xc, xk, xn, xq⟩ := p
  unfold AskV.cells at *
  simp only [List.map_cons, List.map_nil, List.length_cons, List.length_nil] at cM
  go_enter Tryd.func7, Tryd.ntmps7
  go_wp2_with (go_at_call 25; refine cM.mono ?_; rintro e w' ⟨rfl, hk⟩)
  go_ret
  exact ⟨rfl, hk⟩
theorem objectParas_any (p : AskV) (w : World) (hp : AskOk w p) (hT : Tabs w) : Calls Tryd.prog 8 #[.agg p.cells] w fun e w' => e = .returned (.bool true) ∧ Kept (fun _ => False) w w' := by
  have cM := pieces_lit p [112, p.xk, 120] w hp hT (by simp)
  clear hp hT
  obtain ⟨A, n0, c0, ss, xa, xb, xr, xc, xk, xn, xq⟩ := p
  unfold AskV.cells at *
  simp only [List.map_cons, List.map_nil, List.length_cons, List.length_nil] at cM
  go_enter Tryd.func8, Tryd.ntmps8
  go_wp2_with (go_at_call 25; refine cM.mono ?_; rintro e w' ⟨rfl, hk⟩)
  go_ret
  exact ⟨rfl, hk⟩
theorem pieceSmall_any (p : AskV) (w : World) (hp : AskOk w p) (hT : Tabs w) : Calls Tryd.prog 10 #[.agg p.cells] w fun e w' => e = .returned (.bool true) ∧ Kept (fun _ => False) w w' := by
  have cM := pieces_lit p [119] w hp hT (by simp)
  clear hp hT
  obtain ⟨A, n0, c0, ss, xa, xb, xr, xc, xk, xn, xq⟩ := p
  unfold AskV.cells at *
  simp only [List.map_cons, List.map_nil, List.length_cons, List.length_nil] at cM
  go_enter Tryd.func10, Tryd.ntmps10
  go_wp2_with (go_at_call 25; refine cM.mono ?_; rintro e w' ⟨rfl, hk⟩)
  go_ret
  exact ⟨rfl, hk⟩
theorem pieceBig_any (p : AskV) (w : World) (hp : AskOk w p) (hT : Tabs w) : Calls Tryd.prog 11 #[.agg p.cells] w fun e w' => e = .returned (.bool true) ∧ Kept (fun _ => False) w w' := by
  have cM := pieces_lit p [87] w hp hT (by simp)
  clear hp hT
  obtain ⟨A, n0, c0, ss, xa, xb, xr, xc, xk, xn, xq⟩ := p
  unfold AskV.cells at *
  simp only [List.map_cons, List.map_nil, List.length_cons, List.length_nil] at cM
  go_enter Tryd.func11, Tryd.ntmps11
  go_wp2_with (go_at_call 25; refine cM.mono ?_; rintro e w' ⟨rfl, hk⟩)
  go_ret
  exact ⟨rfl, hk⟩
theorem pieceRound_any (p : AskV) (w : World) (hp : AskOk w p) (hT : Tabs w) : Calls Tryd.prog 12 #[.agg p.cells] w fun e w' => e = .returned (.bool true) ∧ Kept (fun _ => False) w w' := by
  have cM := pieces_lit p [40, 98] w hp hT (by simp)
  clear hp hT
  obtain ⟨A, n0, c0, ss, xa, xb, xr, xc, xk, xn, xq⟩ := p
  unfold AskV.cells at *
  simp only [List.map_cons, List.map_nil, List.length_cons, List.length_nil] at cM
  go_enter Tryd.func12, Tryd.ntmps12
  go_wp2_with (go_at_call 25; refine cM.mono ?_; rintro e w' ⟨rfl, hk⟩)
  go_ret
  exact ⟨rfl, hk⟩
theorem pieceCurly_any (p : AskV) (w : World) (hp : AskOk w p) (hT : Tabs w) : Calls Tryd.prog 13 #[.agg p.cells] w fun e w' => e = .returned (.bool true) ∧ Kept (fun _ => False) w w' := by
  have cM := pieces_lit p [123, 66] w hp hT (by simp)
  clear hp hT
  obtain ⟨A, n0, c0, ss, xa, xb, xr, xc, xk, xn, xq⟩ := p
  unfold AskV.cells at *
  simp only [List.map_cons, List.map_nil, List.length_cons, List.length_nil] at cM
  go_enter Tryd.func13, Tryd.ntmps13
  go_wp2_with (go_at_call 25; refine cM.mono ?_; rintro e w' ⟨rfl, hk⟩)
  go_ret
  exact ⟨rfl, hk⟩
end Go.Proofs.YtohmhjeimeilcaaDoor
