/-
  ELEMENTS: the library's string builder at this program.
-/
import Derived.Shelf.Strings.BuilderRune
import Derived.Shelf.Strings.Builder1
import Derived.Test.YthkohjijppbliaaDoorShelf2
import Derived.Test.YthkohjijppbliaaDoorLMd
set_option linter.unusedVariables false
namespace Go.Proofs.YthkohjijppbliaaDoor
open Go Go.Shelf Go.RowKit
def Tryd.lays168_ren : Go.Shelf.Ren := ⟨fun | 168 => 64 | 240 => 99 | 242 => 100 | 276 => 114 | 278 => 115 | n => n, fun | 0 => 0 | 3 => 3 | 4 => 4 | 5 => 5 | 9 => 9 | 20 => 20 | 21 => 21 | 37 => 114 | 46 => 91 | 51 => 148 | 70 => 113 | 72 => 116 | 75 => 118 | 80 => 121 | 164 => 167 | n => n, fun | n => n⟩
theorem Tryd.lays168 : Go.Proofs.Lays.n168 Tryd.prog Tryd.lays168_ren := {
  mixed := by kernel_rfl,
  f168 := Tryd.func64.trans (congrArg some (by kernel_rfl)),
  f240 := Tryd.func99.trans (congrArg some (by kernel_rfl)),
  f242 := Tryd.func100.trans (congrArg some (by kernel_rfl)),
  f276 := Tryd.func114.trans (congrArg some (by kernel_rfl)),
  f278 := Tryd.func115.trans (congrArg some (by kernel_rfl)),
  t0 := Tryd.underlying0,
  a0 := Tryd.isAgg0,
  z0 := Tryd.sizeOf0,
  v0 := Tryd.zeroValue0,
  t3 := Tryd.underlying3,
  a3 := Tryd.isAgg3,
  z3 := Tryd.sizeOf3,
  v3 := Tryd.zeroValue3,
  t4 := Tryd.underlying4,
  a4 := Tryd.isAgg4,
  z4 := Tryd.sizeOf4,
  v4 := Tryd.zeroValue4,
  t5 := Tryd.underlying5,
  a5 := Tryd.isAgg5,
  z5 := Tryd.sizeOf5,
  v5 := Tryd.zeroValue5,
  t9 := Tryd.underlying9,
  a9 := Tryd.isAgg9,
  z9 := Tryd.sizeOf9,
  v9 := Tryd.zeroValue9,
  t20 := Tryd.underlying20,
  a20 := Tryd.isAgg20,
  z20 := Tryd.sizeOf20,
  v20 := Tryd.zeroValue20,
  t21 := Tryd.underlying21,
  a21 := Tryd.isAgg21,
  z21 := Tryd.sizeOf21,
  v21 := Tryd.zeroValue21,
  t37 := Tryd.underlying114,
  a37 := Tryd.isAgg114,
  z37 := Tryd.sizeOf114,
  v37 := Tryd.zeroValue114,
  t46 := Tryd.underlying91,
  a46 := Tryd.isAgg91,
  z46 := Tryd.sizeOf91,
  v46 := Tryd.zeroValue91,
  t51 := Tryd.underlying148,
  a51 := Tryd.isAgg148,
  z51 := Tryd.sizeOf148,
  v51 := Tryd.zeroValue148,
  t70 := Tryd.underlying113,
  a70 := Tryd.isAgg113,
  z70 := Tryd.sizeOf113,
  v70 := Tryd.zeroValue113,
  t72 := Tryd.underlying116,
  a72 := Tryd.isAgg116,
  z72 := Tryd.sizeOf116,
  v72 := Tryd.zeroValue116,
  t75 := Tryd.underlying118,
  a75 := Tryd.isAgg118,
  z75 := Tryd.sizeOf118,
  v75 := Tryd.zeroValue118,
  t164 := Tryd.underlying167,
  a164 := Tryd.isAgg167,
  z164 := Tryd.sizeOf167,
  v164 := Tryd.zeroValue167 }
theorem extra168 : Builder.Extra Tryd.prog Tryd.lays168_ren where
  sizeBuilder := by kernel_rfl
  liesBuilder := by kernel_rfl
  t5 := Tryd.underlying5
  a5 := Tryd.isAgg5
  z5 := Tryd.sizeOf5
  v5 := Tryd.zeroValue5
  infoByte := by kernel_rfl
  cellsByte := by kernel_rfl
  sizeByte := by kernel_rfl
  neB5 := by decide
theorem extra169 : Builder.Extra Tryd.prog Tryd.lays169_ren where
  sizeBuilder := by kernel_rfl
  liesBuilder := by kernel_rfl
  t5 := Tryd.underlying5
  a5 := Tryd.isAgg5
  z5 := Tryd.sizeOf5
  v5 := Tryd.zeroValue5
  infoByte := by kernel_rfl
  cellsByte := by kernel_rfl
  sizeByte := by kernel_rfl
  neB5 := by decide
theorem write_rune (B b : Nat) (bs : List Value) (r : Int) (hr0 : -2147483648 ≤ r) (hr1 : r ≤ 2147483647) (w : World) (h : Lib.IsBuilderF 116 5 B b bs w) (hlen : bs.length + 4 ≤ 140737488355328) (hBw : B ≤ w.heap.size) :
    Calls Tryd.prog 64 #[.pointer (some ⟨b, 0, none⟩), .int .i32 r] w fun e w' => e = .returned (.tuple #[.int .i64 (Lib.runeCells r).length, .nilIface]) ∧ (Lib.BuilderAtF 116 5 B b (.pointer (some ⟨b, 0, none⟩)) (bs ++ Lib.runeCells r) w' ∧ Below B w w' ∧ Lib.OthersKept 5 (some b) w w') :=
  Any.Builder_WriteRune_k Tryd.lays168 extra168 B b bs r hr0 hr1 w h hlen hBw
theorem build_str (B b : Nat) (l : List UInt8) (w : World) (h : Lib.IsBuilderF 116 5 B b (Lib.byteCells l) w) (hBw : B ≤ w.heap.size) :
    Calls Tryd.prog 65 #[.pointer (some ⟨b, 0, none⟩)] w fun e w' => e = .returned (.string ⟨l.toArray⟩) ∧ (Lib.IsBuilderF 116 5 B b (Lib.byteCells l) w' ∧ Below B w w' ∧ Lib.OthersKept 5 (some b) w w') :=
  Any.Builder_String_any_k Tryd.lays169 extra169 B b l w h hBw
end Go.Proofs.YthkohjijppbliaaDoor
