/-
  DERIVED. GIVEN WITH THE SEED: THE CARDS: each row of YtonenopfdoagcaaDoorRows.lean that lists a variable, with what it lists TIED to the program's text (the seventh form; the later family's looks); each row that meets fmt, with fmt's text TOLD by the authors' own Lean function (tested against real Go, not proved from fmt's source: count such statements apart). THE CARD IS WHAT COUNTS. Prove the row's statement (the work); the ties are given (YtonenopfdoagcaaDoorTie.lean); close each card by the builder's one call (the guide's Derived/Test/ToyasCard.lean, 'card_holds'). Laid BY PROGRAM, IN A SANDBOX (cutbox-door.mjs). By AI agents, Wed Nov 11 2026. No macro, syntax, notation, axiom, sorry.
-/
import Derived.Test.YtonenopfdoagcaaDoorRows
import GoSem.ClaimSeven
namespace Go.Proofs.YtonenopfdoagcaaDoor
namespace Rows

/-- THE TIED CARD OF 'quilllaw4.PatchBetween'. -/
def patchBetweenCard : Claim7 := { stood := { row := patchBetweenRow, standIns := [], harness := (true, "57afee35184f26390334f9ba0eb42ec7c260b33fe8aac8c6d887f5245d5af16a"), looks := false }, kinds := [], alts := [], laidByText := true, laidKinds := [.data, .pinned], laidTests := true, laidLooks := .later }
def PatchBetweenCardSaid : Prop := Claim7.holds Tryd.pinned (.plain (OpenSpec.ofChange patchBetweenSpec)) patchBetweenCard

/-- THE TIED CARD OF 'quilllaw4.PatchShifts'. -/
def patchShiftsCard : Claim7 := { stood := { row := patchShiftsRow, standIns := [], harness := (true, "57afee35184f26390334f9ba0eb42ec7c260b33fe8aac8c6d887f5245d5af16a"), looks := false }, kinds := [], alts := [], laidByText := true, laidKinds := [.data, .pinned], laidTests := true, laidLooks := .later }
def PatchShiftsCardSaid : Prop := Claim7.holds Tryd.pinned (.plain (OpenSpec.ofChange patchShiftsSpec)) patchShiftsCard

/-- THE TIED CARD OF 'quilllaw12.LinesFirst'. -/
def linesFirstCard : Claim7 := { stood := { row := linesFirstRow, standIns := [], harness := (true, "57afee35184f26390334f9ba0eb42ec7c260b33fe8aac8c6d887f5245d5af16a"), looks := false }, kinds := [], alts := [], laidByText := true, laidKinds := [.data, .pinned], laidTests := true, laidLooks := .later }
def LinesFirstCardSaid : Prop := Claim7.holds Tryd.pinned (.plain (OpenSpec.ofChange linesFirstSpec)) linesFirstCard

/-- THE SECOND FORM's CARD OF 'quilllaw4.PatchBetween'. -/
def patchBetweenUptoCard : Claim7 := { stood := { row := patchBetweenUptoRow, standIns := [], harness := (true, "57afee35184f26390334f9ba0eb42ec7c260b33fe8aac8c6d887f5245d5af16a"), looks := false }, kinds := [], alts := [], laidByText := true, laidKinds := [.data, .pinned], laidTests := true, laidLooks := .later }
def PatchBetweenUptoCardSaid : Prop := Claim7.holds Tryd.pinned (.plain (OpenSpec.upto patchBetweenSpec)) patchBetweenUptoCard

/-- THE SECOND FORM's CARD OF 'quilllaw4.PatchShifts'. -/
def patchShiftsUptoCard : Claim7 := { stood := { row := patchShiftsUptoRow, standIns := [], harness := (true, "57afee35184f26390334f9ba0eb42ec7c260b33fe8aac8c6d887f5245d5af16a"), looks := false }, kinds := [], alts := [], laidByText := true, laidKinds := [.data, .pinned], laidTests := true, laidLooks := .later }
def PatchShiftsUptoCardSaid : Prop := Claim7.holds Tryd.pinned (.plain (OpenSpec.upto patchShiftsSpec)) patchShiftsUptoCard

/-- THE SECOND FORM's CARD OF 'quilllaw12.LinesFirst'. -/
def linesFirstUptoCard : Claim7 := { stood := { row := linesFirstUptoRow, standIns := [], harness := (true, "57afee35184f26390334f9ba0eb42ec7c260b33fe8aac8c6d887f5245d5af16a"), looks := false }, kinds := [], alts := [], laidByText := true, laidKinds := [.data, .pinned], laidTests := true, laidLooks := .later }
def LinesFirstUptoCardSaid : Prop := Claim7.holds Tryd.pinned (.plain (OpenSpec.upto linesFirstSpec)) linesFirstUptoCard
end Rows
end Go.Proofs.YtonenopfdoagcaaDoor
