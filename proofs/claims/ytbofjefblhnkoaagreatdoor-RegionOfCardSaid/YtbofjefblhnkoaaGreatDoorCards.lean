/-
  DERIVED. GIVEN WITH THE SEED: THE CARDS: each row of YtbofjefblhnkoaaGreatDoorRows.lean that lists a variable, with what it lists TIED to the program's text (the seventh form; the later family's looks); each row that meets fmt, with fmt's text TOLD by the authors' own Lean function (tested against real Go, not proved from fmt's source: count such statements apart). THE CARD IS WHAT COUNTS. Prove the row's statement (the work); the ties are given (YtbofjefblhnkoaaGreatDoorTie.lean); close each card by the builder's one call (the guide's Derived/Test/ToyasCard.lean, 'card_holds'). Laid BY PROGRAM, IN A SANDBOX (cutbox-door.mjs). By AI agents, Wed Nov 11 2026. No macro, syntax, notation, axiom, sorry.
-/
import Derived.Test.YtbofjefblhnkoaaGreatDoorRows
import GoSem.ClaimSeven
namespace Go.Proofs.YtbofjefblhnkoaaGreatDoor
namespace Rows

/-- THE TIED CARD OF 'quilllaw17.RegionOf'. -/
def regionOfCard : Claim7 := { stood := { row := regionOfRow, standIns := [], harness := (true, "f0679cfcaaeb60c45b4f6ecbbec7b968a5fb6777582c46ac132d8a0e2bae774f"), looks := false }, kinds := [], alts := [], laidByText := true, laidKinds := [.data, .pinned], laidTests := true, laidLooks := .later }
def RegionOfCardSaid : Prop := Claim7.holds Tryz.pinned (.plain (OpenSpec.ofChange regionOfSpec)) regionOfCard

/-- THE TIED CARD OF 'quilllaw17.RegionBetween'. -/
def regionBetweenCard : Claim7 := { stood := { row := regionBetweenRow, standIns := [], harness := (true, "f0679cfcaaeb60c45b4f6ecbbec7b968a5fb6777582c46ac132d8a0e2bae774f"), looks := false }, kinds := [], alts := [], laidByText := true, laidKinds := [.data, .pinned], laidTests := true, laidLooks := .later }
def RegionBetweenCardSaid : Prop := Claim7.holds Tryz.pinned (.plain (OpenSpec.ofChange regionBetweenSpec)) regionBetweenCard

/-- THE SECOND FORM's CARD OF 'quilllaw17.RegionOf'. -/
def regionOfUptoCard : Claim7 := { stood := { row := regionOfUptoRow, standIns := [], harness := (true, "f0679cfcaaeb60c45b4f6ecbbec7b968a5fb6777582c46ac132d8a0e2bae774f"), looks := false }, kinds := [], alts := [], laidByText := true, laidKinds := [.data, .pinned], laidTests := true, laidLooks := .later }
def RegionOfUptoCardSaid : Prop := Claim7.holds Tryz.pinned (.plain (OpenSpec.upto regionOfSpec)) regionOfUptoCard

/-- THE SECOND FORM's CARD OF 'quilllaw17.RegionBetween'. -/
def regionBetweenUptoCard : Claim7 := { stood := { row := regionBetweenUptoRow, standIns := [], harness := (true, "f0679cfcaaeb60c45b4f6ecbbec7b968a5fb6777582c46ac132d8a0e2bae774f"), looks := false }, kinds := [], alts := [], laidByText := true, laidKinds := [.data, .pinned], laidTests := true, laidLooks := .later }
def RegionBetweenUptoCardSaid : Prop := Claim7.holds Tryz.pinned (.plain (OpenSpec.upto regionBetweenSpec)) regionBetweenUptoCard
end Rows
end Go.Proofs.YtbofjefblhnkoaaGreatDoor
