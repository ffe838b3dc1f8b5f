/-
  utf8.ValidString, by the library's contract; Go's two tables, as the row lays them.
-/
import Derived.Test.YthbfmdnibijapaaDoorRows
import Derived.Test.YthbfmdnibijapaaDoorShelf
import Derived.Test.YthbfmdnibijapaaDoorKept
import Derived.Lib.LaidU8T
import Derived.PinnedBridge
set_option linter.unusedVariables false
namespace Go.Proofs.YthbfmdnibijapaaDoor
open Go Go.RowKit Go.Shelf Go.Lib

theorem u8extra : U8Extra Tryd.prog Tryd.lays196_ren := ⟨by kernel_rfl, by kernel_rfl, by kernel_rfl, by kernel_rfl, by kernel_rfl, by kernel_rfl, by kernel_rfl⟩
/-- Go's two tables. -/
def Tabs (w : World) : Prop := Lib.Utf8Tabs (Tryd.lays196_ren.g 3) (Tryd.lays196_ren.g 4) w
theorem tabs_of {W : World} (h : laidMetH Tryd.prog [("unicode/utf8.acceptRanges", Rows.laid_unicode_utf8_acceptRanges), ("unicode/utf8.first", Rows.laid_unicode_utf8_first)] W) : Tabs W := by
  have h' : laidMet Tryd.prog [("unicode/utf8.acceptRanges", Rows.laid_unicode_utf8_acceptRanges), ("unicode/utf8.first", Rows.laid_unicode_utf8_first)] W := h
  refine utf8Tabs_of_readsT (U8Types.of196 Tryd.lays196) u8extra ?_ ?_
  · have := laidMet.reads h' (n := "unicode/utf8.first") (d := Rows.laid_unicode_utf8_first) (by simp)
    rw [show Rows.laid_unicode_utf8_first = firstData from Pinned.utf8First_eq] at this
    exact this
  · have := laidMet.reads h' (n := "unicode/utf8.acceptRanges") (d := Rows.laid_unicode_utf8_acceptRanges) (by simp)
    rw [show Rows.laid_unicode_utf8_acceptRanges = acceptData by kernel_rfl] at this
    exact this
theorem Tabs.kept {S : Nat → Prop} {w w' : World} (h : Tabs w) (hk : Kept S w w') (h0 : ¬ S 0) (h1 : ¬ S 1) : Tabs w' := by
  have c0 : w.cell? ⟨0, 0, none⟩ = some (.int .u8 (Lib.firstT 0)) := h.1 0 (by omega)
  have c1 : w.cell? ⟨1, 0, none⟩ = some (.int .u8 (Lib.accLo 0)) := (h.2 0 (by omega)).1
  have b0 := hk.block 0 (World.block_lt_of_cell? w _ c0) h0
  have b1 := hk.block 1 (World.block_lt_of_cell? w _ c1) h1
  exact ⟨fun c hc => (World.cell?_of_block (w := w) b0).trans (h.1 c hc), fun i hi => ⟨(World.cell?_of_block (w := w) b1).trans (h.2 i hi).1, (World.cell?_of_block (w := w) b1).trans (h.2 i hi).2⟩⟩
theorem valid_any (s : ByteArray) (w : World) (hs : s.size ≤ 9223372036854775807) (hT : Tabs w) :
    Calls Tryd.prog 30 #[.string s] w fun e w' => e = .returned (.bool (Lib.validD s.data.toList)) ∧ Kept (fun _ => False) w w' :=
  (Any.utf8_ValidString Tryd.lays196 s w hs hT).mono fun _ _ ⟨he, hb⟩ => ⟨he, Kept.of_below hb⟩
end Go.Proofs.YthbfmdnibijapaaDoor
