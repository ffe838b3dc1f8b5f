/-
  DERIVED. GIVEN WITH THE SEED: THE CARDS: each row of YteibebhlfhmlaaaDoorRows.lean that lists a variable, with what it lists TIED to the program's text (the seventh form; the later family's looks); each row that meets fmt, with fmt's text TOLD by the authors' own Lean function (tested against real Go, not proved from fmt's source: count such statements apart). THE CARD IS WHAT COUNTS. Prove the row's statement (the work); the ties are given (YteibebhlfhmlaaaDoorTie.lean); close each card by the builder's one call (the guide's Derived/Test/ToyasCard.lean, 'card_holds'). Laid BY PROGRAM, IN A SANDBOX (cutbox-door.mjs). By AI agents, Wed Nov 11 2026. No macro, syntax, notation, axiom, sorry.
-/
import Derived.Test.YteibebhlfhmlaaaDoorRows
import GoSem.ClaimSeven
namespace Go.Proofs.YteibebhlfhmlaaaDoor
namespace Rows

/-- THE TIED CARD OF 'quilllaw16.MoveGoes'. -/
def moveGoesCard : Claim7 := { stood := { row := moveGoesRow, standIns := [], harness := (true, "9ad779a4b77e21eb0e5b43fe53a063025e821c514a7dc2b3696f82e28cbad91a"), looks := false }, kinds := [], alts := [], laidByText := true, laidKinds := [.data, .pinned], laidTests := true, laidLooks := .later }
def MoveGoesCardSaid : Prop := Claim7.holds Tryd.pinned (.plain (OpenSpec.ofChange moveGoesSpec)) moveGoesCard

/-- THE TIED CARD OF 'quilllaw16.MoveAgain'. -/
def moveAgainCard : Claim7 := { stood := { row := moveAgainRow, standIns := [], harness := (true, "9ad779a4b77e21eb0e5b43fe53a063025e821c514a7dc2b3696f82e28cbad91a"), looks := false }, kinds := [], alts := [], laidByText := true, laidKinds := [.data, .pinned], laidTests := true, laidLooks := .later }
def MoveAgainCardSaid : Prop := Claim7.holds Tryd.pinned (.plain (OpenSpec.ofChange moveAgainSpec)) moveAgainCard

/-- THE SECOND FORM's CARD OF 'quilllaw16.MoveGoes'. -/
def moveGoesUptoCard : Claim7 := { stood := { row := moveGoesUptoRow, standIns := [], harness := (true, "9ad779a4b77e21eb0e5b43fe53a063025e821c514a7dc2b3696f82e28cbad91a"), looks := false }, kinds := [], alts := [], laidByText := true, laidKinds := [.data, .pinned], laidTests := true, laidLooks := .later }
def MoveGoesUptoCardSaid : Prop := Claim7.holds Tryd.pinned (.plain (OpenSpec.upto moveGoesSpec)) moveGoesUptoCard

/-- THE SECOND FORM's CARD OF 'quilllaw16.MoveAgain'. -/
def moveAgainUptoCard : Claim7 := { stood := { row := moveAgainUptoRow, standIns := [], harness := (true, "9ad779a4b77e21eb0e5b43fe53a063025e821c514a7dc2b3696f82e28cbad91a"), looks := false }, kinds := [], alts := [], laidByText := true, laidKinds := [.data, .pinned], laidTests := true, laidLooks := .later }
def MoveAgainUptoCardSaid : Prop := Claim7.holds Tryd.pinned (.plain (OpenSpec.upto moveAgainSpec)) moveAgainUptoCard
end Rows
end Go.Proofs.YteibebhlfhmlaaaDoor
