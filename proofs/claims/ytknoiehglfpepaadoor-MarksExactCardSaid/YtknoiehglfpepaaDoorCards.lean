/-
  DERIVED. GIVEN WITH THE SEED: THE CARDS: each row of YtknoiehglfpepaaDoorRows.lean that lists a variable, with what it lists TIED to the program's text (the seventh form; the later family's looks); each row that meets fmt, with fmt's text TOLD by the authors' own Lean function (tested against real Go, not proved from fmt's source: count such statements apart). THE CARD IS WHAT COUNTS. Prove the row's statement (the work); the ties are given (YtknoiehglfpepaaDoorTie.lean); close each card by the builder's one call (the guide's Derived/Test/ToyasCard.lean, 'card_holds'). Laid BY PROGRAM, IN A SANDBOX (cutbox-door.mjs). By AI agents, Wed Nov 11 2026. No macro, syntax, notation, axiom, sorry.
-/
import Derived.Test.YtknoiehglfpepaaDoorRows
import GoSem.ClaimSeven
namespace Go.Proofs.YtknoiehglfpepaaDoor
namespace Rows

/-- THE TIED CARD OF 'quilllaw6.MarksExact'. -/
def marksExactCard : Claim7 := { stood := { row := marksExactRow, standIns := [], harness := (true, "e488eea3b6dd064848056023575677949e696d0bb5b246c58079e5906d9974b6"), looks := false }, kinds := [], alts := [], laidByText := true, laidKinds := [.data, .pinned], laidTests := true, laidLooks := .later }
def MarksExactCardSaid : Prop := Claim7.holds Tryd.pinned (.plain (OpenSpec.ofChange marksExactSpec)) marksExactCard

/-- THE TIED CARD OF 'quilllaw6.MarksSet'. -/
def marksSetCard : Claim7 := { stood := { row := marksSetRow, standIns := [], harness := (true, "e488eea3b6dd064848056023575677949e696d0bb5b246c58079e5906d9974b6"), looks := false }, kinds := [], alts := [], laidByText := true, laidKinds := [.data, .pinned], laidTests := true, laidLooks := .later }
def MarksSetCardSaid : Prop := Claim7.holds Tryd.pinned (.plain (OpenSpec.ofChange marksSetSpec)) marksSetCard

/-- THE SECOND FORM's CARD OF 'quilllaw6.MarksExact'. -/
def marksExactUptoCard : Claim7 := { stood := { row := marksExactUptoRow, standIns := [], harness := (true, "e488eea3b6dd064848056023575677949e696d0bb5b246c58079e5906d9974b6"), looks := false }, kinds := [], alts := [], laidByText := true, laidKinds := [.data, .pinned], laidTests := true, laidLooks := .later }
def MarksExactUptoCardSaid : Prop := Claim7.holds Tryd.pinned (.plain (OpenSpec.upto marksExactSpec)) marksExactUptoCard

/-- THE SECOND FORM's CARD OF 'quilllaw6.MarksSet'. -/
def marksSetUptoCard : Claim7 := { stood := { row := marksSetUptoRow, standIns := [], harness := (true, "e488eea3b6dd064848056023575677949e696d0bb5b246c58079e5906d9974b6"), looks := false }, kinds := [], alts := [], laidByText := true, laidKinds := [.data, .pinned], laidTests := true, laidLooks := .later }
def MarksSetUptoCardSaid : Prop := Claim7.holds Tryd.pinned (.plain (OpenSpec.upto marksSetSpec)) marksSetUptoCard
end Rows
end Go.Proofs.YtknoiehglfpepaaDoor
