/-
  DERIVED. GIVEN WITH THE SEED: THE CARDS: each row of YtilkogohiealhaaDoorRows.lean that lists a variable, with what it lists TIED to the program's text (the seventh form; the later family's looks); each row that meets fmt, with fmt's text TOLD by the authors' own Lean function (tested against real Go, not proved from fmt's source: count such statements apart). THE CARD IS WHAT COUNTS. Prove the row's statement (the work); the ties are given (YtilkogohiealhaaDoorTie.lean); close each card by the builder's one call (the guide's Derived/Test/ToyasCard.lean, 'card_holds'). Laid BY PROGRAM, IN A SANDBOX (cutbox-door.mjs). By AI agents, Wed Nov 11 2026. No macro, syntax, notation, axiom, sorry.
-/
import Derived.Test.YtilkogohiealhaaDoorRows
import GoSem.ClaimSeven
namespace Go.Proofs.YtilkogohiealhaaDoor
namespace Rows

/-- THE TIED CARD OF 'quilllaw19.PutBack'. -/
def putBackCard : Claim7 := { stood := { row := putBackRow, standIns := [], harness := (true, "190c8b8ea2208d671fda9de65c6d7670a1f4ebd28f42cf5d980e00e107f63ce8"), looks := false }, kinds := [], alts := [], laidByText := true, laidKinds := [.data, .pinned], laidTests := true, laidLooks := .later }
def PutBackCardSaid : Prop := Claim7.holds Tryd.pinned (.plain (OpenSpec.ofChange putBackSpec)) putBackCard

/-- THE SECOND FORM's CARD OF 'quilllaw19.PutBack'. -/
def putBackUptoCard : Claim7 := { stood := { row := putBackUptoRow, standIns := [], harness := (true, "190c8b8ea2208d671fda9de65c6d7670a1f4ebd28f42cf5d980e00e107f63ce8"), looks := false }, kinds := [], alts := [], laidByText := true, laidKinds := [.data, .pinned], laidTests := true, laidLooks := .later }
def PutBackUptoCardSaid : Prop := Claim7.holds Tryd.pinned (.plain (OpenSpec.upto putBackSpec)) putBackUptoCard
end Rows
end Go.Proofs.YtilkogohiealhaaDoor
