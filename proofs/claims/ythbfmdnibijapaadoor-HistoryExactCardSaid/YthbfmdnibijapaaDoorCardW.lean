/-
  WHAT THE CARDS OF THIS SEAT SHARE: a world for the witness, in which Go's two UTF-8 tables lie as the program's text lays them; an empty ask.
-/
import Derived.Test.YthbfmdnibijapaaDoorHz00
import Derived.Test.YthbfmdnibijapaaDoorHz02
import Derived.WalkKit
import Derived.ProofKit
import Derived.OpenShut
import Derived.Deep.DeepHandedRow
import Derived.Lib.LaidTab
set_option linter.unusedVariables false
namespace Go.Proofs.YthbfmdnibijapaaDoor
open Go Go.ChangeShapes Go.WideShapes Go.ChangeAt Go.RowKit

theorem own : ownKnob Tryd.prog.godebug = none := by kernel_rfl
/-- A world for the witness: the settled one, with the two tables as the program's text lays them. -/
noncomputable def laidWorld (os : Os) : World :=
  let w := World.holding Tryd.prog os ⟨#[], #[], []⟩
  { w with heap := (w.heap.modify 0 fun | .cells _ t f => .cells ((List.range 256).map fun c => Value.int .u8 (Lib.firstT c)).toArray t f | o => o).modify 1 fun
      | .cells _ t f => .cells ((List.range 16).flatMap fun c => [Value.int .u8 (Lib.accLo c), Value.int .u8 (Lib.accHi c)]).toArray t f | o => o }

end Go.Proofs.YthbfmdnibijapaaDoor
