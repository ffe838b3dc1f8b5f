/-
  DERIVED. GIVEN WITH THE SEED: THE CARDS: each row of YtgehjkbcgcpbnaaDoorRows.lean that lists a variable, with what it lists TIED to the program's text (the seventh form; the later family's looks); each row that meets fmt, with fmt's text TOLD by the authors' own Lean function (tested against real Go, not proved from fmt's source: count such statements apart). THE CARD IS WHAT COUNTS. Prove the row's statement (the work); the ties are given (YtgehjkbcgcpbnaaDoorTie.lean); close each card by the builder's one call (the guide's Derived/Test/ToyasCard.lean, 'card_holds'). Laid BY PROGRAM, IN A SANDBOX (cutbox-door.mjs). By AI agents, Wed Nov 11 2026. No macro, syntax, notation, axiom, sorry.
-/
import Derived.Test.YtgehjkbcgcpbnaaDoorRows
import GoSem.ClaimSeven
namespace Go.Proofs.YtgehjkbcgcpbnaaDoor
namespace Rows

/-- THE TIED CARD OF 'quilllaw7.UndoExact'. -/
def undoExactCard : Claim7 := { stood := { row := undoExactRow, standIns := [], harness := (true, "1e4fe38eeb8506d80a97dfdf3a5e35bded1aa98f7cff6220e352a741ebab6b5d"), looks := false }, kinds := [], alts := [], laidByText := true, laidKinds := [.data, .pinned], laidTests := true, laidLooks := .later }
def UndoExactCardSaid : Prop := Claim7.holds Tryd.pinned (.plain (OpenSpec.ofChange undoExactSpec)) undoExactCard

/-- THE TIED CARD OF 'quilllaw7.UndoBack'. -/
def undoBackCard : Claim7 := { stood := { row := undoBackRow, standIns := [], harness := (true, "1e4fe38eeb8506d80a97dfdf3a5e35bded1aa98f7cff6220e352a741ebab6b5d"), looks := false }, kinds := [], alts := [], laidByText := true, laidKinds := [.data, .pinned], laidTests := true, laidLooks := .later }
def UndoBackCardSaid : Prop := Claim7.holds Tryd.pinned (.plain (OpenSpec.ofChange undoBackSpec)) undoBackCard

/-- THE SECOND FORM's CARD OF 'quilllaw7.UndoExact'. -/
def undoExactUptoCard : Claim7 := { stood := { row := undoExactUptoRow, standIns := [], harness := (true, "1e4fe38eeb8506d80a97dfdf3a5e35bded1aa98f7cff6220e352a741ebab6b5d"), looks := false }, kinds := [], alts := [], laidByText := true, laidKinds := [.data, .pinned], laidTests := true, laidLooks := .later }
def UndoExactUptoCardSaid : Prop := Claim7.holds Tryd.pinned (.plain (OpenSpec.upto undoExactSpec)) undoExactUptoCard

/-- THE SECOND FORM's CARD OF 'quilllaw7.UndoBack'. -/
def undoBackUptoCard : Claim7 := { stood := { row := undoBackUptoRow, standIns := [], harness := (true, "1e4fe38eeb8506d80a97dfdf3a5e35bded1aa98f7cff6220e352a741ebab6b5d"), looks := false }, kinds := [], alts := [], laidByText := true, laidKinds := [.data, .pinned], laidTests := true, laidLooks := .later }
def UndoBackUptoCardSaid : Prop := Claim7.holds Tryd.pinned (.plain (OpenSpec.upto undoBackSpec)) undoBackUptoCard
end Rows
end Go.Proofs.YtgehjkbcgcpbnaaDoor
