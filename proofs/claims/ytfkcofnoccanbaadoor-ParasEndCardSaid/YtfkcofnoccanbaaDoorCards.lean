/-
  DERIVED. GIVEN WITH THE SEED: THE CARDS: each row of YtfkcofnoccanbaaDoorRows.lean that lists a variable, with what it lists TIED to the program's text (the seventh form; the later family's looks); each row that meets fmt, with fmt's text TOLD by the authors' own Lean function (tested against real Go, not proved from fmt's source: count such statements apart). THE CARD IS WHAT COUNTS. Prove the row's statement (the work); the ties are given (YtfkcofnoccanbaaDoorTie.lean); close each card by the builder's one call (the guide's Derived/Test/ToyasCard.lean, 'card_holds'). Laid BY PROGRAM, IN A SANDBOX (cutbox-door.mjs). By AI agents, Wed Nov 11 2026. No macro, syntax, notation, axiom, sorry.
-/
import Derived.Test.YtfkcofnoccanbaaDoorRows
import GoSem.ClaimSeven
namespace Go.Proofs.YtfkcofnoccanbaaDoor
namespace Rows

/-- THE TIED CARD OF 'quilllaw11.SeekFinds'. -/
def seekFindsCard : Claim7 := { stood := { row := seekFindsRow, standIns := [], harness := (true, "17af2bb2bf7006c64c9ccb562f4192c4c4792b6935cae7403470dfd63975a65d"), looks := false }, kinds := [], alts := [], laidByText := true, laidKinds := [.data, .pinned], laidTests := true, laidLooks := .later }
def SeekFindsCardSaid : Prop := Claim7.holds Tryd.pinned (.plain (OpenSpec.ofChange seekFindsSpec)) seekFindsCard

/-- THE TIED CARD OF 'quilllaw11.SeekStands'. -/
def seekStandsCard : Claim7 := { stood := { row := seekStandsRow, standIns := [], harness := (true, "17af2bb2bf7006c64c9ccb562f4192c4c4792b6935cae7403470dfd63975a65d"), looks := false }, kinds := [], alts := [], laidByText := true, laidKinds := [.data, .pinned], laidTests := true, laidLooks := .later }
def SeekStandsCardSaid : Prop := Claim7.holds Tryd.pinned (.plain (OpenSpec.ofChange seekStandsSpec)) seekStandsCard

/-- THE TIED CARD OF 'quilllaw13.ParasMove'. -/
def parasMoveCard : Claim7 := { stood := { row := parasMoveRow, standIns := [], harness := (true, "17af2bb2bf7006c64c9ccb562f4192c4c4792b6935cae7403470dfd63975a65d"), looks := false }, kinds := [], alts := [], laidByText := true, laidKinds := [.data, .pinned], laidTests := true, laidLooks := .later }
def ParasMoveCardSaid : Prop := Claim7.holds Tryd.pinned (.plain (OpenSpec.ofChange parasMoveSpec)) parasMoveCard

/-- THE TIED CARD OF 'quilllaw13.ParasEnd'. -/
def parasEndCard : Claim7 := { stood := { row := parasEndRow, standIns := [], harness := (true, "17af2bb2bf7006c64c9ccb562f4192c4c4792b6935cae7403470dfd63975a65d"), looks := false }, kinds := [], alts := [], laidByText := true, laidKinds := [.data, .pinned], laidTests := true, laidLooks := .later }
def ParasEndCardSaid : Prop := Claim7.holds Tryd.pinned (.plain (OpenSpec.ofChange parasEndSpec)) parasEndCard

/-- THE SECOND FORM's CARD OF 'quilllaw11.SeekFinds'. -/
def seekFindsUptoCard : Claim7 := { stood := { row := seekFindsUptoRow, standIns := [], harness := (true, "17af2bb2bf7006c64c9ccb562f4192c4c4792b6935cae7403470dfd63975a65d"), looks := false }, kinds := [], alts := [], laidByText := true, laidKinds := [.data, .pinned], laidTests := true, laidLooks := .later }
def SeekFindsUptoCardSaid : Prop := Claim7.holds Tryd.pinned (.plain (OpenSpec.upto seekFindsSpec)) seekFindsUptoCard

/-- THE SECOND FORM's CARD OF 'quilllaw11.SeekStands'. -/
def seekStandsUptoCard : Claim7 := { stood := { row := seekStandsUptoRow, standIns := [], harness := (true, "17af2bb2bf7006c64c9ccb562f4192c4c4792b6935cae7403470dfd63975a65d"), looks := false }, kinds := [], alts := [], laidByText := true, laidKinds := [.data, .pinned], laidTests := true, laidLooks := .later }
def SeekStandsUptoCardSaid : Prop := Claim7.holds Tryd.pinned (.plain (OpenSpec.upto seekStandsSpec)) seekStandsUptoCard

/-- THE SECOND FORM's CARD OF 'quilllaw13.ParasMove'. -/
def parasMoveUptoCard : Claim7 := { stood := { row := parasMoveUptoRow, standIns := [], harness := (true, "17af2bb2bf7006c64c9ccb562f4192c4c4792b6935cae7403470dfd63975a65d"), looks := false }, kinds := [], alts := [], laidByText := true, laidKinds := [.data, .pinned], laidTests := true, laidLooks := .later }
def ParasMoveUptoCardSaid : Prop := Claim7.holds Tryd.pinned (.plain (OpenSpec.upto parasMoveSpec)) parasMoveUptoCard

/-- THE SECOND FORM's CARD OF 'quilllaw13.ParasEnd'. -/
def parasEndUptoCard : Claim7 := { stood := { row := parasEndUptoRow, standIns := [], harness := (true, "17af2bb2bf7006c64c9ccb562f4192c4c4792b6935cae7403470dfd63975a65d"), looks := false }, kinds := [], alts := [], laidByText := true, laidKinds := [.data, .pinned], laidTests := true, laidLooks := .later }
def ParasEndUptoCardSaid : Prop := Claim7.holds Tryd.pinned (.plain (OpenSpec.upto parasEndSpec)) parasEndUptoCard
end Rows
end Go.Proofs.YtfkcofnoccanbaaDoor
