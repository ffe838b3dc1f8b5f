/-
  DERIVED. GIVEN WITH THE SEED: THE CARDS: each row of YtpgicfbaefcbmaaDoorRows.lean that lists a variable, with what it lists TIED to the program's text (the seventh form; the later family's looks); each row that meets fmt, with fmt's text TOLD by the authors' own Lean function (tested against real Go, not proved from fmt's source: count such statements apart). THE CARD IS WHAT COUNTS. Prove the row's statement (the work); the ties are given (YtpgicfbaefcbmaaDoorTie.lean); close each card by the builder's one call (the guide's Derived/Test/ToyasCard.lean, 'card_holds'). Laid BY PROGRAM, IN A SANDBOX (cutbox-door.mjs). By AI agents, Wed Nov 11 2026. No macro, syntax, notation, axiom, sorry.
-/
import Derived.Test.YtpgicfbaefcbmaaDoorRows
import GoSem.ClaimSeven
namespace Go.Proofs.YtpgicfbaefcbmaaDoor
namespace Rows

/-- THE TIED CARD OF 'quilllaw25.CodecBytes'. -/
def codecBytesCard : Claim7 := { stood := { row := codecBytesRow, standIns := [], harness := (true, "29118c5693a36a54d45226319945f8e8b772d18692e980dfdb9fdc14dc8553f6"), looks := false }, kinds := [], alts := [], laidByText := true, laidKinds := [.data, .pinned], laidTests := true, laidLooks := .later }
def CodecBytesCardSaid : Prop := Claim7.holds Tryd.pinned (.plain (OpenSpec.ofChange codecBytesSpec)) codecBytesCard

/-- THE TIED CARD OF 'quilllaw25.CodecBack'. -/
def codecBackCard : Claim7 := { stood := { row := codecBackRow, standIns := [], harness := (true, "29118c5693a36a54d45226319945f8e8b772d18692e980dfdb9fdc14dc8553f6"), looks := false }, kinds := [], alts := [], laidByText := true, laidKinds := [.data, .pinned], laidTests := true, laidLooks := .later }
def CodecBackCardSaid : Prop := Claim7.holds Tryd.pinned (.plain (OpenSpec.ofChange codecBackSpec)) codecBackCard

/-- THE TIED CARD OF 'quilllaw26.CausalExact'. -/
def causalExactCard : Claim7 := { stood := { row := causalExactRow, standIns := [], harness := (true, "29118c5693a36a54d45226319945f8e8b772d18692e980dfdb9fdc14dc8553f6"), looks := false }, kinds := [], alts := [], laidByText := true, laidKinds := [.data, .pinned], laidTests := true, laidLooks := .later }
def CausalExactCardSaid : Prop := Claim7.holds Tryd.pinned (.plain (OpenSpec.ofChange causalExactSpec)) causalExactCard

/-- THE TIED CARD OF 'quilllaw26.CausalOrders'. -/
def causalOrdersCard : Claim7 := { stood := { row := causalOrdersRow, standIns := [], harness := (true, "29118c5693a36a54d45226319945f8e8b772d18692e980dfdb9fdc14dc8553f6"), looks := false }, kinds := [], alts := [], laidByText := true, laidKinds := [.data, .pinned], laidTests := true, laidLooks := .later }
def CausalOrdersCardSaid : Prop := Claim7.holds Tryd.pinned (.plain (OpenSpec.ofChange causalOrdersSpec)) causalOrdersCard

/-- THE SECOND FORM's CARD OF 'quilllaw25.CodecBytes'. -/
def codecBytesUptoCard : Claim7 := { stood := { row := codecBytesUptoRow, standIns := [], harness := (true, "29118c5693a36a54d45226319945f8e8b772d18692e980dfdb9fdc14dc8553f6"), looks := false }, kinds := [], alts := [], laidByText := true, laidKinds := [.data, .pinned], laidTests := true, laidLooks := .later }
def CodecBytesUptoCardSaid : Prop := Claim7.holds Tryd.pinned (.plain (OpenSpec.upto codecBytesSpec)) codecBytesUptoCard

/-- THE SECOND FORM's CARD OF 'quilllaw25.CodecBack'. -/
def codecBackUptoCard : Claim7 := { stood := { row := codecBackUptoRow, standIns := [], harness := (true, "29118c5693a36a54d45226319945f8e8b772d18692e980dfdb9fdc14dc8553f6"), looks := false }, kinds := [], alts := [], laidByText := true, laidKinds := [.data, .pinned], laidTests := true, laidLooks := .later }
def CodecBackUptoCardSaid : Prop := Claim7.holds Tryd.pinned (.plain (OpenSpec.upto codecBackSpec)) codecBackUptoCard

/-- THE SECOND FORM's CARD OF 'quilllaw26.CausalExact'. -/
def causalExactUptoCard : Claim7 := { stood := { row := causalExactUptoRow, standIns := [], harness := (true, "29118c5693a36a54d45226319945f8e8b772d18692e980dfdb9fdc14dc8553f6"), looks := false }, kinds := [], alts := [], laidByText := true, laidKinds := [.data, .pinned], laidTests := true, laidLooks := .later }
def CausalExactUptoCardSaid : Prop := Claim7.holds Tryd.pinned (.plain (OpenSpec.upto causalExactSpec)) causalExactUptoCard

/-- THE SECOND FORM's CARD OF 'quilllaw26.CausalOrders'. -/
def causalOrdersUptoCard : Claim7 := { stood := { row := causalOrdersUptoRow, standIns := [], harness := (true, "29118c5693a36a54d45226319945f8e8b772d18692e980dfdb9fdc14dc8553f6"), looks := false }, kinds := [], alts := [], laidByText := true, laidKinds := [.data, .pinned], laidTests := true, laidLooks := .later }
def CausalOrdersUptoCardSaid : Prop := Claim7.holds Tryd.pinned (.plain (OpenSpec.upto causalOrdersSpec)) causalOrdersUptoCard
end Rows
end Go.Proofs.YtpgicfbaefcbmaaDoor
