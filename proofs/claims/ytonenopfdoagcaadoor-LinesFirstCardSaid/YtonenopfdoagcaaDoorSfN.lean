/-
  THE LIBRARY's Split AT THIS TRANSLATION; what Join asks for.
-/
import Derived.Test.YtonenopfdoagcaaDoorSfP
import Derived.Test.YtonenopfdoagcaaDoorShelf2
import Derived.Test.YtonenopfdoagcaaDoorSp2
import Derived.Shelf.Strings.Split
import Derived.Shelf.Strings.OnBuilder
import Derived.Shelf.Vars
set_option linter.unusedVariables false
namespace Go.Proofs.YtonenopfdoagcaaDoor
open Go Go.RowKit

theorem extraB : Builder.Extra Tryd.prog Tryd.lays156_ren where
  sizeBuilder := by kernel_rfl
  liesBuilder := by kernel_rfl
  t5 := by kernel_rfl
  a5 := Tryd.isAgg5
  z5 := Tryd.sizeOf5
  v5 := Tryd.zeroValue5
  infoByte := by kernel_rfl
  cellsByte := by kernel_rfl
  sizeByte := by kernel_rfl
  neB5 := by decide
/-- The library's own variable holds some number. -/
def Mx (w : World) : Prop := ∃ m, w.cell? ⟨Tryd.lays146_ren.g 1, 0, none⟩ = some (.int .i64 m)
theorem Mx.kept {w w' : World} (h : Mx w) (hk : Kept (fun _ => False) w w') : Mx w' := by
  obtain ⟨m, h⟩ := h
  exact ⟨m, cell_kept hk h id⟩
theorem mx_of {W : World} (h : W.ShapedOpen Tryd.prog) : Mx W :=
  cell_of_shapedOpen_int (zero := #[.int .i64 0]) (t := 3) h (of_decide_eq_true (by kernel_rfl)) (by kernel_rfl) rfl (by kernel_rfl) (by kernel_rfl) Tryd.underlying3
theorem split_any (u : List Int) (w : World) (hv : Vld u) (hl : u.length ≤ 100000) (hM : Mx w) :
    Calls Tryd.prog 48 #[.string (runesBytes u), .string ⟨#[10]⟩] w fun e w' => e = .returned (.slice (some ⟨w.heap.size, 0, none⟩) (rowsOf u).length (rowsOf u).length) ∧ w' = w.alloc (.cells (((rowsOf u).map runesBytes).map Value.string).toArray 9) := by
  obtain ⟨m, hm⟩ := hM
  have hs : (runesBytes u).size ≤ 400000 := by
    rw [txt_size]
    have : ∀ l : List Int, (Utf.bytes l).length ≤ 4 * l.length := fun l => by
      induction l with
      | nil => exact Nat.le_refl _
      | cons c l ih => show (Utf.enc c ++ Utf.bytes l).length ≤ _; have := (Utf.enc_length c).2; rw [List.length_append, List.length_cons]; omega
    have := this u
    omega
  have := Any.strings_Split Tryd.lays146 (by kernel_rfl) (runesBytes u) nlB m w (by omega) hm (by decide)
  rw [← split_len hv, split_rows hv] at this
  exact this
end Go.Proofs.YtonenopfdoagcaaDoor
