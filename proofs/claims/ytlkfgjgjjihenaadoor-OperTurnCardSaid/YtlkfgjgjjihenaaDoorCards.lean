/-
  DERIVED. GIVEN WITH THE SEED: THE CARDS: each row of YtlkfgjgjjihenaaDoorRows.lean that lists a variable, with what it lists TIED to the program's text (the seventh form; the later family's looks); each row that meets fmt, with fmt's text TOLD by the authors' own Lean function (tested against real Go, not proved from fmt's source: count such statements apart). THE CARD IS WHAT COUNTS. Prove the row's statement (the work); the ties are given (YtlkfgjgjjihenaaDoorTie.lean); close each card by the builder's one call (the guide's Derived/Test/ToyasCard.lean, 'card_holds'). Laid BY PROGRAM, IN A SANDBOX (cutbox-door.mjs). By AI agents, Wed Nov 11 2026. No macro, syntax, notation, axiom, sorry.
-/
import Derived.Test.YtlkfgjgjjihenaaDoorRows
import GoSem.ClaimSeven
namespace Go.Proofs.YtlkfgjgjjihenaaDoor
namespace Rows

/-- THE TIED CARD OF 'quilllaw18.ChangeDeletes'. -/
def changeDeletesCard : Claim7 := { stood := { row := changeDeletesRow, standIns := [], harness := (true, "4a7012d992c7934e5aeccafbe84936635cdf2a365f17bac250cdd8f03db95412"), looks := false }, kinds := [], alts := [], laidByText := true, laidKinds := [.data, .pinned], laidTests := true, laidLooks := .later }
def ChangeDeletesCardSaid : Prop := Claim7.holds Tryd.pinned (.plain (OpenSpec.ofChange changeDeletesSpec)) changeDeletesCard

/-- THE TIED CARD OF 'quilllaw18.ChangeChanges'. -/
def changeChangesCard : Claim7 := { stood := { row := changeChangesRow, standIns := [], harness := (true, "4a7012d992c7934e5aeccafbe84936635cdf2a365f17bac250cdd8f03db95412"), looks := false }, kinds := [], alts := [], laidByText := true, laidKinds := [.data, .pinned], laidTests := true, laidLooks := .later }
def ChangeChangesCardSaid : Prop := Claim7.holds Tryd.pinned (.plain (OpenSpec.ofChange changeChangesSpec)) changeChangesCard

/-- THE TIED CARD OF 'quilllaw18.ChangeYanks'. -/
def changeYanksCard : Claim7 := { stood := { row := changeYanksRow, standIns := [], harness := (true, "4a7012d992c7934e5aeccafbe84936635cdf2a365f17bac250cdd8f03db95412"), looks := false }, kinds := [], alts := [], laidByText := true, laidKinds := [.data, .pinned], laidTests := true, laidLooks := .later }
def ChangeYanksCardSaid : Prop := Claim7.holds Tryd.pinned (.plain (OpenSpec.ofChange changeYanksSpec)) changeYanksCard

/-- THE TIED CARD OF 'quilllaw18.ChangeShifts'. -/
def changeShiftsCard : Claim7 := { stood := { row := changeShiftsRow, standIns := [], harness := (true, "4a7012d992c7934e5aeccafbe84936635cdf2a365f17bac250cdd8f03db95412"), looks := false }, kinds := [], alts := [], laidByText := true, laidKinds := [.data, .pinned], laidTests := true, laidLooks := .later }
def ChangeShiftsCardSaid : Prop := Claim7.holds Tryd.pinned (.plain (OpenSpec.ofChange changeShiftsSpec)) changeShiftsCard

/-- THE TIED CARD OF 'quilllaw18.ChangeCases'. -/
def changeCasesCard : Claim7 := { stood := { row := changeCasesRow, standIns := [], harness := (true, "4a7012d992c7934e5aeccafbe84936635cdf2a365f17bac250cdd8f03db95412"), looks := false }, kinds := [], alts := [], laidByText := true, laidKinds := [.data, .pinned], laidTests := true, laidLooks := .later }
def ChangeCasesCardSaid : Prop := Claim7.holds Tryd.pinned (.plain (OpenSpec.ofChange changeCasesSpec)) changeCasesCard

/-- THE TIED CARD OF 'quilllaw18.ChangeStays'. -/
def changeStaysCard : Claim7 := { stood := { row := changeStaysRow, standIns := [], harness := (true, "4a7012d992c7934e5aeccafbe84936635cdf2a365f17bac250cdd8f03db95412"), looks := false }, kinds := [], alts := [], laidByText := true, laidKinds := [.data, .pinned], laidTests := true, laidLooks := .later }
def ChangeStaysCardSaid : Prop := Claim7.holds Tryd.pinned (.plain (OpenSpec.ofChange changeStaysSpec)) changeStaysCard

/-- THE TIED CARD OF 'quilllaw18.OperLower'. -/
def operLowerCard : Claim7 := { stood := { row := operLowerRow, standIns := [], harness := (true, "4a7012d992c7934e5aeccafbe84936635cdf2a365f17bac250cdd8f03db95412"), looks := false }, kinds := [], alts := [], laidByText := true, laidKinds := [.data, .pinned], laidTests := true, laidLooks := .later }
def OperLowerCardSaid : Prop := Claim7.holds Tryd.pinned (.plain (OpenSpec.ofChange operLowerSpec)) operLowerCard

/-- THE TIED CARD OF 'quilllaw18.OperUpper'. -/
def operUpperCard : Claim7 := { stood := { row := operUpperRow, standIns := [], harness := (true, "4a7012d992c7934e5aeccafbe84936635cdf2a365f17bac250cdd8f03db95412"), looks := false }, kinds := [], alts := [], laidByText := true, laidKinds := [.data, .pinned], laidTests := true, laidLooks := .later }
def OperUpperCardSaid : Prop := Claim7.holds Tryd.pinned (.plain (OpenSpec.ofChange operUpperSpec)) operUpperCard

/-- THE TIED CARD OF 'quilllaw18.OperTurn'. -/
def operTurnCard : Claim7 := { stood := { row := operTurnRow, standIns := [], harness := (true, "4a7012d992c7934e5aeccafbe84936635cdf2a365f17bac250cdd8f03db95412"), looks := false }, kinds := [], alts := [], laidByText := true, laidKinds := [.data, .pinned], laidTests := true, laidLooks := .later }
def OperTurnCardSaid : Prop := Claim7.holds Tryd.pinned (.plain (OpenSpec.ofChange operTurnSpec)) operTurnCard

/-- THE TIED CARD OF 'quilllaw18.OperRight'. -/
def operRightCard : Claim7 := { stood := { row := operRightRow, standIns := [], harness := (true, "4a7012d992c7934e5aeccafbe84936635cdf2a365f17bac250cdd8f03db95412"), looks := false }, kinds := [], alts := [], laidByText := true, laidKinds := [.data, .pinned], laidTests := true, laidLooks := .later }
def OperRightCardSaid : Prop := Claim7.holds Tryd.pinned (.plain (OpenSpec.ofChange operRightSpec)) operRightCard

/-- THE TIED CARD OF 'quilllaw18.OperLeft'. -/
def operLeftCard : Claim7 := { stood := { row := operLeftRow, standIns := [], harness := (true, "4a7012d992c7934e5aeccafbe84936635cdf2a365f17bac250cdd8f03db95412"), looks := false }, kinds := [], alts := [], laidByText := true, laidKinds := [.data, .pinned], laidTests := true, laidLooks := .later }
def OperLeftCardSaid : Prop := Claim7.holds Tryd.pinned (.plain (OpenSpec.ofChange operLeftSpec)) operLeftCard

/-- THE SECOND FORM's CARD OF 'quilllaw18.ChangeDeletes'. -/
def changeDeletesUptoCard : Claim7 := { stood := { row := changeDeletesUptoRow, standIns := [], harness := (true, "4a7012d992c7934e5aeccafbe84936635cdf2a365f17bac250cdd8f03db95412"), looks := false }, kinds := [], alts := [], laidByText := true, laidKinds := [.data, .pinned], laidTests := true, laidLooks := .later }
def ChangeDeletesUptoCardSaid : Prop := Claim7.holds Tryd.pinned (.plain (OpenSpec.upto changeDeletesSpec)) changeDeletesUptoCard

/-- THE SECOND FORM's CARD OF 'quilllaw18.ChangeChanges'. -/
def changeChangesUptoCard : Claim7 := { stood := { row := changeChangesUptoRow, standIns := [], harness := (true, "4a7012d992c7934e5aeccafbe84936635cdf2a365f17bac250cdd8f03db95412"), looks := false }, kinds := [], alts := [], laidByText := true, laidKinds := [.data, .pinned], laidTests := true, laidLooks := .later }
def ChangeChangesUptoCardSaid : Prop := Claim7.holds Tryd.pinned (.plain (OpenSpec.upto changeChangesSpec)) changeChangesUptoCard

/-- THE SECOND FORM's CARD OF 'quilllaw18.ChangeYanks'. -/
def changeYanksUptoCard : Claim7 := { stood := { row := changeYanksUptoRow, standIns := [], harness := (true, "4a7012d992c7934e5aeccafbe84936635cdf2a365f17bac250cdd8f03db95412"), looks := false }, kinds := [], alts := [], laidByText := true, laidKinds := [.data, .pinned], laidTests := true, laidLooks := .later }
def ChangeYanksUptoCardSaid : Prop := Claim7.holds Tryd.pinned (.plain (OpenSpec.upto changeYanksSpec)) changeYanksUptoCard

/-- THE SECOND FORM's CARD OF 'quilllaw18.ChangeShifts'. -/
def changeShiftsUptoCard : Claim7 := { stood := { row := changeShiftsUptoRow, standIns := [], harness := (true, "4a7012d992c7934e5aeccafbe84936635cdf2a365f17bac250cdd8f03db95412"), looks := false }, kinds := [], alts := [], laidByText := true, laidKinds := [.data, .pinned], laidTests := true, laidLooks := .later }
def ChangeShiftsUptoCardSaid : Prop := Claim7.holds Tryd.pinned (.plain (OpenSpec.upto changeShiftsSpec)) changeShiftsUptoCard

/-- THE SECOND FORM's CARD OF 'quilllaw18.ChangeCases'. -/
def changeCasesUptoCard : Claim7 := { stood := { row := changeCasesUptoRow, standIns := [], harness := (true, "4a7012d992c7934e5aeccafbe84936635cdf2a365f17bac250cdd8f03db95412"), looks := false }, kinds := [], alts := [], laidByText := true, laidKinds := [.data, .pinned], laidTests := true, laidLooks := .later }
def ChangeCasesUptoCardSaid : Prop := Claim7.holds Tryd.pinned (.plain (OpenSpec.upto changeCasesSpec)) changeCasesUptoCard

/-- THE SECOND FORM's CARD OF 'quilllaw18.ChangeStays'. -/
def changeStaysUptoCard : Claim7 := { stood := { row := changeStaysUptoRow, standIns := [], harness := (true, "4a7012d992c7934e5aeccafbe84936635cdf2a365f17bac250cdd8f03db95412"), looks := false }, kinds := [], alts := [], laidByText := true, laidKinds := [.data, .pinned], laidTests := true, laidLooks := .later }
def ChangeStaysUptoCardSaid : Prop := Claim7.holds Tryd.pinned (.plain (OpenSpec.upto changeStaysSpec)) changeStaysUptoCard

/-- THE SECOND FORM's CARD OF 'quilllaw18.OperLower'. -/
def operLowerUptoCard : Claim7 := { stood := { row := operLowerUptoRow, standIns := [], harness := (true, "4a7012d992c7934e5aeccafbe84936635cdf2a365f17bac250cdd8f03db95412"), looks := false }, kinds := [], alts := [], laidByText := true, laidKinds := [.data, .pinned], laidTests := true, laidLooks := .later }
def OperLowerUptoCardSaid : Prop := Claim7.holds Tryd.pinned (.plain (OpenSpec.upto operLowerSpec)) operLowerUptoCard

/-- THE SECOND FORM's CARD OF 'quilllaw18.OperUpper'. -/
def operUpperUptoCard : Claim7 := { stood := { row := operUpperUptoRow, standIns := [], harness := (true, "4a7012d992c7934e5aeccafbe84936635cdf2a365f17bac250cdd8f03db95412"), looks := false }, kinds := [], alts := [], laidByText := true, laidKinds := [.data, .pinned], laidTests := true, laidLooks := .later }
def OperUpperUptoCardSaid : Prop := Claim7.holds Tryd.pinned (.plain (OpenSpec.upto operUpperSpec)) operUpperUptoCard

/-- THE SECOND FORM's CARD OF 'quilllaw18.OperTurn'. -/
def operTurnUptoCard : Claim7 := { stood := { row := operTurnUptoRow, standIns := [], harness := (true, "4a7012d992c7934e5aeccafbe84936635cdf2a365f17bac250cdd8f03db95412"), looks := false }, kinds := [], alts := [], laidByText := true, laidKinds := [.data, .pinned], laidTests := true, laidLooks := .later }
def OperTurnUptoCardSaid : Prop := Claim7.holds Tryd.pinned (.plain (OpenSpec.upto operTurnSpec)) operTurnUptoCard

/-- THE SECOND FORM's CARD OF 'quilllaw18.OperRight'. -/
def operRightUptoCard : Claim7 := { stood := { row := operRightUptoRow, standIns := [], harness := (true, "4a7012d992c7934e5aeccafbe84936635cdf2a365f17bac250cdd8f03db95412"), looks := false }, kinds := [], alts := [], laidByText := true, laidKinds := [.data, .pinned], laidTests := true, laidLooks := .later }
def OperRightUptoCardSaid : Prop := Claim7.holds Tryd.pinned (.plain (OpenSpec.upto operRightSpec)) operRightUptoCard

/-- THE SECOND FORM's CARD OF 'quilllaw18.OperLeft'. -/
def operLeftUptoCard : Claim7 := { stood := { row := operLeftUptoRow, standIns := [], harness := (true, "4a7012d992c7934e5aeccafbe84936635cdf2a365f17bac250cdd8f03db95412"), looks := false }, kinds := [], alts := [], laidByText := true, laidKinds := [.data, .pinned], laidTests := true, laidLooks := .later }
def OperLeftUptoCardSaid : Prop := Claim7.holds Tryd.pinned (.plain (OpenSpec.upto operLeftSpec)) operLeftUptoCard
end Rows
end Go.Proofs.YtlkfgjgjjihenaaDoor
