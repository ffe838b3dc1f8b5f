/-
  DERIVED. GIVEN WITH THE SEED: THE CARDS: each row of YtpgoikecignldaaDoorRows.lean that lists a variable, with what it lists TIED to the program's text (the seventh form; the later family's looks); each row that meets fmt, with fmt's text TOLD by the authors' own Lean function (tested against real Go, not proved from fmt's source: count such statements apart). THE CARD IS WHAT COUNTS. Prove the row's statement (the work); the ties are given (YtpgoikecignldaaDoorTie.lean); close each card by the builder's one call (the guide's Derived/Test/ToyasCard.lean, 'card_holds'). Laid BY PROGRAM, IN A SANDBOX (cutbox-door.mjs). By AI agents, Wed Nov 11 2026. No macro, syntax, notation, axiom, sorry.
-/
import Derived.Test.YtpgoikecignldaaDoorRows
import GoSem.ClaimSeven
namespace Go.Proofs.YtpgoikecignldaaDoor
namespace Rows

/-- THE TIED CARD OF 'quilllaw18.ChangeStays'. -/
def changeStaysCard : Claim7 := { stood := { row := changeStaysRow, standIns := [], harness := (true, "9e3ae966dea757e6fdee829cf58bdcd4e6c19940ea8b2a4ee2b1a1b1f0431143"), looks := false }, kinds := [], alts := [], laidByText := true, laidKinds := [.data, .pinned], laidTests := true, laidLooks := .later }
def ChangeStaysCardSaid : Prop := Claim7.holds Tryd.pinned (.plain (OpenSpec.ofChange changeStaysSpec)) changeStaysCard

/-- THE SECOND FORM's CARD OF 'quilllaw18.ChangeStays'. -/
def changeStaysUptoCard : Claim7 := { stood := { row := changeStaysUptoRow, standIns := [], harness := (true, "9e3ae966dea757e6fdee829cf58bdcd4e6c19940ea8b2a4ee2b1a1b1f0431143"), looks := false }, kinds := [], alts := [], laidByText := true, laidKinds := [.data, .pinned], laidTests := true, laidLooks := .later }
def ChangeStaysUptoCardSaid : Prop := Claim7.holds Tryd.pinned (.plain (OpenSpec.upto changeStaysSpec)) changeStaysUptoCard
end Rows
end Go.Proofs.YtpgoikecignldaaDoor
