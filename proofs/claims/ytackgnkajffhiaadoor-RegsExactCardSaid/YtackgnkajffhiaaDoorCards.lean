/-
  DERIVED. GIVEN WITH THE SEED: THE CARDS: each row of YtackgnkajffhiaaDoorRows.lean that lists a variable, with what it lists TIED to the program's text (the seventh form; the later family's looks); each row that meets fmt, with fmt's text TOLD by the authors' own Lean function (tested against real Go, not proved from fmt's source: count such statements apart). THE CARD IS WHAT COUNTS. Prove the row's statement (the work); the ties are given (YtackgnkajffhiaaDoorTie.lean); close each card by the builder's one call (the guide's Derived/Test/ToyasCard.lean, 'card_holds'). Laid BY PROGRAM, IN A SANDBOX (cutbox-door.mjs). By AI agents, Wed Nov 11 2026. No macro, syntax, notation, axiom, sorry.
-/
import Derived.Test.YtackgnkajffhiaaDoorRows
import GoSem.ClaimSeven
namespace Go.Proofs.YtackgnkajffhiaaDoor
namespace Rows

/-- THE TIED CARD OF 'quilllaw9.RegsExact'. -/
def regsExactCard : Claim7 := { stood := { row := regsExactRow, standIns := [], harness := (true, "cf559fa341f3790b5b57b8da3b012a9df8e4d5a0334d22c1eebbb4a84eb456a0"), looks := false }, kinds := [], alts := [], laidByText := true, laidKinds := [.data, .pinned], laidTests := true, laidLooks := .later }
def RegsExactCardSaid : Prop := Claim7.holds Tryd.pinned (.plain (OpenSpec.ofChange regsExactSpec)) regsExactCard

/-- THE TIED CARD OF 'quilllaw9.RegsShift'. -/
def regsShiftCard : Claim7 := { stood := { row := regsShiftRow, standIns := [], harness := (true, "cf559fa341f3790b5b57b8da3b012a9df8e4d5a0334d22c1eebbb4a84eb456a0"), looks := false }, kinds := [], alts := [], laidByText := true, laidKinds := [.data, .pinned], laidTests := true, laidLooks := .later }
def RegsShiftCardSaid : Prop := Claim7.holds Tryd.pinned (.plain (OpenSpec.ofChange regsShiftSpec)) regsShiftCard

/-- THE SECOND FORM's CARD OF 'quilllaw9.RegsExact'. -/
def regsExactUptoCard : Claim7 := { stood := { row := regsExactUptoRow, standIns := [], harness := (true, "cf559fa341f3790b5b57b8da3b012a9df8e4d5a0334d22c1eebbb4a84eb456a0"), looks := false }, kinds := [], alts := [], laidByText := true, laidKinds := [.data, .pinned], laidTests := true, laidLooks := .later }
def RegsExactUptoCardSaid : Prop := Claim7.holds Tryd.pinned (.plain (OpenSpec.upto regsExactSpec)) regsExactUptoCard

/-- THE SECOND FORM's CARD OF 'quilllaw9.RegsShift'. -/
def regsShiftUptoCard : Claim7 := { stood := { row := regsShiftUptoRow, standIns := [], harness := (true, "cf559fa341f3790b5b57b8da3b012a9df8e4d5a0334d22c1eebbb4a84eb456a0"), looks := false }, kinds := [], alts := [], laidByText := true, laidKinds := [.data, .pinned], laidTests := true, laidLooks := .later }
def RegsShiftUptoCardSaid : Prop := Claim7.holds Tryd.pinned (.plain (OpenSpec.upto regsShiftSpec)) regsShiftUptoCard
end Rows
end Go.Proofs.YtackgnkajffhiaaDoor
