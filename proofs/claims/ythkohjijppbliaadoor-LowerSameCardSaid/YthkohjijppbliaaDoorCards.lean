/-
  DERIVED. GIVEN WITH THE SEED: THE CARDS: each row of YthkohjijppbliaaDoorRows.lean that lists a variable, with what it lists TIED to the program's text (the seventh form; the later family's looks); each row that meets fmt, with fmt's text TOLD by the authors' own Lean function (tested against real Go, not proved from fmt's source: count such statements apart). THE CARD IS WHAT COUNTS. Prove the row's statement (the work); the ties are given (YthkohjijppbliaaDoorTie.lean); close each card by the builder's one call (the guide's Derived/Test/ToyasCard.lean, 'card_holds'). Laid BY PROGRAM, IN A SANDBOX (cutbox-door.mjs). By AI agents, Wed Nov 11 2026. No macro, syntax, notation, axiom, sorry.
-/
import Derived.Test.YthkohjijppbliaaDoorRows
import GoSem.ClaimSeven
namespace Go.Proofs.YthkohjijppbliaaDoor
namespace Rows

/-- THE TIED CARD OF 'quilllaw24.OrderWalks'. -/
def orderWalksCard : Claim7 := { stood := { row := orderWalksRow, standIns := [], harness := (true, "6e4ce3d0edb72b192c57f15a1ed410f9980c97a61b5d3a909419c6382d45130d"), looks := false }, kinds := [], alts := [], laidByText := true, laidKinds := [.data, .pinned], laidTests := true, laidLooks := .later }
def OrderWalksCardSaid : Prop := Claim7.holds Tryd.pinned (.plain (OpenSpec.ofChange orderWalksSpec)) orderWalksCard

/-- THE TIED CARD OF 'quilllaw27.LowerSame'. -/
def lowerSameCard : Claim7 := { stood := { row := lowerSameRow, standIns := [], harness := (true, "6e4ce3d0edb72b192c57f15a1ed410f9980c97a61b5d3a909419c6382d45130d"), looks := false }, kinds := [], alts := [], laidByText := true, laidKinds := [.data, .pinned], laidTests := true, laidLooks := .later }
def LowerSameCardSaid : Prop := Claim7.holds Tryd.pinned (.plain (OpenSpec.ofChange lowerSameSpec)) lowerSameCard

/-- THE SECOND FORM's CARD OF 'quilllaw24.OrderWalks'. -/
def orderWalksUptoCard : Claim7 := { stood := { row := orderWalksUptoRow, standIns := [], harness := (true, "6e4ce3d0edb72b192c57f15a1ed410f9980c97a61b5d3a909419c6382d45130d"), looks := false }, kinds := [], alts := [], laidByText := true, laidKinds := [.data, .pinned], laidTests := true, laidLooks := .later }
def OrderWalksUptoCardSaid : Prop := Claim7.holds Tryd.pinned (.plain (OpenSpec.upto orderWalksSpec)) orderWalksUptoCard

/-- THE SECOND FORM's CARD OF 'quilllaw27.LowerSame'. -/
def lowerSameUptoCard : Claim7 := { stood := { row := lowerSameUptoRow, standIns := [], harness := (true, "6e4ce3d0edb72b192c57f15a1ed410f9980c97a61b5d3a909419c6382d45130d"), looks := false }, kinds := [], alts := [], laidByText := true, laidKinds := [.data, .pinned], laidTests := true, laidLooks := .later }
def LowerSameUptoCardSaid : Prop := Claim7.holds Tryd.pinned (.plain (OpenSpec.upto lowerSameSpec)) lowerSameUptoCard
end Rows
end Go.Proofs.YthkohjijppbliaaDoor
