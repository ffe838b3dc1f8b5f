/-
  THE LIBRARY's Split AT THIS TRANSLATION; what Join asks for.
-/
import Derived.Test.YtbofjefblhnkoaaGreatDoorSfP
import Derived.Test.YtbofjefblhnkoaaGreatDoorShelf2
import Derived.Test.YtbofjefblhnkoaaGreatDoorZMh
import Derived.Shelf.Strings.Split
import Derived.Shelf.Vars
set_option linter.unusedVariables false
namespace Go.Proofs.YtbofjefblhnkoaaGreatDoor
open Go Go.RowKit

/-- The library's own variable holds some number. -/
def Mx (w : World) : Prop := ∃ m, w.cell? ⟨Tryz.lays146_ren.g 1, 0, none⟩ = some (.int .i64 m)
theorem Mx.kept {w w' : World} (h : Mx w) (hk : Kept (fun _ => False) w w') : Mx w' := by
  obtain ⟨m, h⟩ := h
  exact ⟨m, cell_kept hk h id⟩
theorem mx_of {W : World} (h : W.ShapedOpen Tryz.prog) : Mx W :=
  cell_of_shapedOpen_int (zero := #[.int .i64 0]) (t := 3) h (of_decide_eq_true (by kernel_rfl)) (by kernel_rfl) rfl (by kernel_rfl) (by kernel_rfl) Tryz.underlying3
theorem split_any (u : List Int) (w : World) (hv : Vld u) (hl : u.length ≤ 100000) (hM : Mx w) :
    Calls Tryz.prog 84 #[.string (runesBytes u), .string ⟨#[10]⟩] w fun e w' => e = .returned (.slice (some ⟨w.heap.size, 0, none⟩) (rowsOf u).length (rowsOf u).length) ∧ w' = w.alloc (.cells (((rowsOf u).map runesBytes).map Value.string).toArray 9) := by
  obtain ⟨m, hm⟩ := hM
  have hs : (runesBytes u).size ≤ 400000 := by
    rw [txt_size]
    have : ∀ l : List Int, (Utf.bytes l).length ≤ 4 * l.length := fun l => by
      induction l with
      | nil => exact Nat.le_refl _
      | cons c l ih => show (Utf.enc c ++ Utf.bytes l).length ≤ _; have := (Utf.enc_length c).2; rw [List.length_append, List.length_cons]; omega
    have := this u
    omega
  have := Any.strings_Split Tryz.lays146 (by kernel_rfl) (runesBytes u) nlB m w (by omega) hm (by decide)
  rw [← split_len hv, split_rows hv] at this
  exact this
end Go.Proofs.YtbofjefblhnkoaaGreatDoor
