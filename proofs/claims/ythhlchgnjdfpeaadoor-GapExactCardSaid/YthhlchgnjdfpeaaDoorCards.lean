/-
  DERIVED. GIVEN WITH THE SEED: THE CARDS: each row of YthhlchgnjdfpeaaDoorRows.lean that lists a variable, with what it lists TIED to the program's text (the seventh form; the later family's looks); each row that meets fmt, with fmt's text TOLD by the authors' own Lean function (tested against real Go, not proved from fmt's source: count such statements apart). THE CARD IS WHAT COUNTS. Prove the row's statement (the work); the ties are given (YthhlchgnjdfpeaaDoorTie.lean); close each card by the builder's one call (the guide's Derived/Test/ToyasCard.lean, 'card_holds'). Laid BY PROGRAM, IN A SANDBOX (cutbox-door.mjs). By AI agents, Wed Nov 11 2026. No macro, syntax, notation, axiom, sorry.
-/
import Derived.Test.YthhlchgnjdfpeaaDoorRows
import GoSem.ClaimSeven
namespace Go.Proofs.YthhlchgnjdfpeaaDoor
namespace Rows

/-- THE TIED CARD OF 'quilllaw2.GapExact'. -/
def gapExactCard : Claim7 := { stood := { row := gapExactRow, standIns := [], harness := (true, "1a30c208b3df00ea82a3c110acc01859073e19b36d357b0824cda016d429475f"), looks := false }, kinds := [], alts := [], laidByText := true, laidKinds := [.data, .pinned], laidTests := true, laidLooks := .later }
def GapExactCardSaid : Prop := Claim7.holds Tryd.pinned (.plain (OpenSpec.ofChange gapExactSpec)) gapExactCard

/-- THE TIED CARD OF 'quilllaw2.GapBack'. -/
def gapBackCard : Claim7 := { stood := { row := gapBackRow, standIns := [], harness := (true, "1a30c208b3df00ea82a3c110acc01859073e19b36d357b0824cda016d429475f"), looks := false }, kinds := [], alts := [], laidByText := true, laidKinds := [.data, .pinned], laidTests := true, laidLooks := .later }
def GapBackCardSaid : Prop := Claim7.holds Tryd.pinned (.plain (OpenSpec.ofChange gapBackSpec)) gapBackCard

/-- THE SECOND FORM's CARD OF 'quilllaw2.GapExact'. -/
def gapExactUptoCard : Claim7 := { stood := { row := gapExactUptoRow, standIns := [], harness := (true, "1a30c208b3df00ea82a3c110acc01859073e19b36d357b0824cda016d429475f"), looks := false }, kinds := [], alts := [], laidByText := true, laidKinds := [.data, .pinned], laidTests := true, laidLooks := .later }
def GapExactUptoCardSaid : Prop := Claim7.holds Tryd.pinned (.plain (OpenSpec.upto gapExactSpec)) gapExactUptoCard

/-- THE SECOND FORM's CARD OF 'quilllaw2.GapBack'. -/
def gapBackUptoCard : Claim7 := { stood := { row := gapBackUptoRow, standIns := [], harness := (true, "1a30c208b3df00ea82a3c110acc01859073e19b36d357b0824cda016d429475f"), looks := false }, kinds := [], alts := [], laidByText := true, laidKinds := [.data, .pinned], laidTests := true, laidLooks := .later }
def GapBackUptoCardSaid : Prop := Claim7.holds Tryd.pinned (.plain (OpenSpec.upto gapBackSpec)) gapBackUptoCard
end Rows
end Go.Proofs.YthhlchgnjdfpeaaDoor
