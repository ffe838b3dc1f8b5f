/-
  REGISTERS: a script opened, so far that its acts are a slice.
-/
import Derived.Test.YtackgnkajffhiaaDoorRsL
set_option linter.unusedVariables false
namespace Go.Proofs.YtackgnkajffhiaaDoor
open Go Go.RowKit Go.ChangeShapes Go.WideShapes Go.ChangeAt

theorem cells_scr9 : Tryd.prog.cellsOf 25 = 2 := by kernel_rfl
theorem cells_regs9 : Tryd.prog.cellsOf 22 = 1 := by kernel_rfl
theorem cells_acts9 : Tryd.prog.cellsOf 23 = 1 := by kernel_rfl
section
variable {H : Type} {enc : TypeId × Value → H} {W : World} {base : Nat} {sp : Nat → Bool} {held : Bool}
set_option maxRecDepth 100000 in
theorem scr9_open {r : Reach} {b0 : Nat} {v : Value} {d : DataW H} {p : List MemPlace} (hv : Value.okWide Tryd.prog W r b0 25 v) (h : DataW.Trod enc Tryd.prog W base sp held 25 v d p) :
    ∃ c0 L ln lc, v = .agg #[c0, .slice L ln lc] := by
  obtain ⟨cs, rfl, hsz⟩ := okWide_struct Tryd.underlying25 hv
  rw [cells_scr9] at hsz
  obtain ⟨l⟩ := cs
  match l, hsz with
  | [c0, c1], _ =>
    obtain ⟨fuel, hf⟩ := h
    obtain ⟨y0, y1, n, hx, _, h0, h1⟩ := trod_struct2 Tryd.underlying25 hf
    simp only [Value.cells, cells_regs9, cells_acts9, List.drop_zero, List.drop_succ_cons, List.take_succ_cons, List.take_zero] at h0 h1
    rcases Deep.open_slice Tryd.underlying23 h1 with ⟨e, _⟩ | ⟨a, len, cap, m, fu, D, Pl, e, _⟩
    · simp only [List.cons.injEq, and_true] at e
      exact ⟨c0, _, _, _, by rw [e]⟩
    · simp only [List.cons.injEq, and_true] at e
      exact ⟨c0, _, _, _, by rw [e]⟩
end
end Go.Proofs.YtackgnkajffhiaaDoor
