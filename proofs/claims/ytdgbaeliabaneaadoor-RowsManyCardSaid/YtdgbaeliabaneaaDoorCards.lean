/-
  DERIVED. GIVEN WITH THE SEED: THE CARDS: each row of YtdgbaeliabaneaaDoorRows.lean that lists a variable, with what it lists TIED to the program's text (the seventh form; the later family's looks); each row that meets fmt, with fmt's text TOLD by the authors' own Lean function (tested against real Go, not proved from fmt's source: count such statements apart). THE CARD IS WHAT COUNTS. Prove the row's statement (the work); the ties are given (YtdgbaeliabaneaaDoorTie.lean); close each card by the builder's one call (the guide's Derived/Test/ToyasCard.lean, 'card_holds'). Laid BY PROGRAM, IN A SANDBOX (cutbox-door.mjs). By AI agents, Wed Nov 11 2026. No macro, syntax, notation, axiom, sorry.
-/
import Derived.Test.YtdgbaeliabaneaaDoorRows
import GoSem.ClaimSeven
namespace Go.Proofs.YtdgbaeliabaneaaDoor
namespace Rows

/-- THE TIED CARD OF 'quilllaw3.RowsExact'. -/
def rowsExactCard : Claim7 := { stood := { row := rowsExactRow, standIns := [], harness := (true, "0a027e1c6e092cafa5ada3a7882ee8bb1988c47faed9fabba93ed8b7f7cb21e9"), looks := false }, kinds := [], alts := [], laidByText := true, laidKinds := [.data, .pinned], laidTests := true, laidLooks := .later }
def RowsExactCardSaid : Prop := Claim7.holds Tryd.pinned (.plain (OpenSpec.ofChange rowsExactSpec)) rowsExactCard

/-- THE TIED CARD OF 'quilllaw3.RowsMany'. -/
def rowsManyCard : Claim7 := { stood := { row := rowsManyRow, standIns := [], harness := (true, "0a027e1c6e092cafa5ada3a7882ee8bb1988c47faed9fabba93ed8b7f7cb21e9"), looks := false }, kinds := [], alts := [], laidByText := true, laidKinds := [.data, .pinned], laidTests := true, laidLooks := .later }
def RowsManyCardSaid : Prop := Claim7.holds Tryd.pinned (.plain (OpenSpec.ofChange rowsManySpec)) rowsManyCard

/-- THE SECOND FORM's CARD OF 'quilllaw3.RowsExact'. -/
def rowsExactUptoCard : Claim7 := { stood := { row := rowsExactUptoRow, standIns := [], harness := (true, "0a027e1c6e092cafa5ada3a7882ee8bb1988c47faed9fabba93ed8b7f7cb21e9"), looks := false }, kinds := [], alts := [], laidByText := true, laidKinds := [.data, .pinned], laidTests := true, laidLooks := .later }
def RowsExactUptoCardSaid : Prop := Claim7.holds Tryd.pinned (.plain (OpenSpec.upto rowsExactSpec)) rowsExactUptoCard

/-- THE SECOND FORM's CARD OF 'quilllaw3.RowsMany'. -/
def rowsManyUptoCard : Claim7 := { stood := { row := rowsManyUptoRow, standIns := [], harness := (true, "0a027e1c6e092cafa5ada3a7882ee8bb1988c47faed9fabba93ed8b7f7cb21e9"), looks := false }, kinds := [], alts := [], laidByText := true, laidKinds := [.data, .pinned], laidTests := true, laidLooks := .later }
def RowsManyUptoCardSaid : Prop := Claim7.holds Tryd.pinned (.plain (OpenSpec.upto rowsManySpec)) rowsManyUptoCard
end Rows
end Go.Proofs.YtdgbaeliabaneaaDoor
