/-
  DERIVED. GIVEN WITH THE SEED: THE CARDS: each row of YtkeojjojilfklaaDoorRows.lean that lists a variable, with what it lists TIED to the program's text (the seventh form; the later family's looks); each row that meets fmt, with fmt's text TOLD by the authors' own Lean function (tested against real Go, not proved from fmt's source: count such statements apart). THE CARD IS WHAT COUNTS. Prove the row's statement (the work); the ties are given (YtkeojjojilfklaaDoorTie.lean); close each card by the builder's one call (the guide's Derived/Test/ToyasCard.lean, 'card_holds'). Laid BY PROGRAM, IN A SANDBOX (cutbox-door.mjs). By AI agents, Wed Nov 11 2026. No macro, syntax, notation, axiom, sorry.
-/
import Derived.Test.YtkeojjojilfklaaDoorRows
import GoSem.ClaimSeven
namespace Go.Proofs.YtkeojjojilfklaaDoor
namespace Rows

/-- THE TIED CARD OF 'quilllaw18.ChangeShifts'. -/
def changeShiftsCard : Claim7 := { stood := { row := changeShiftsRow, standIns := [], harness := (true, "1708c2dc51926b5eee057d5f986b92d6048502d1fd98087bf7ef72c4d96f21a3"), looks := false }, kinds := [], alts := [], laidByText := true, laidKinds := [.data, .pinned], laidTests := true, laidLooks := .later }
def ChangeShiftsCardSaid : Prop := Claim7.holds Tryd.pinned (.plain (OpenSpec.ofChange changeShiftsSpec)) changeShiftsCard

/-- THE TIED CARD OF 'quilllaw18.ChangeStays'. -/
def changeStaysCard : Claim7 := { stood := { row := changeStaysRow, standIns := [], harness := (true, "1708c2dc51926b5eee057d5f986b92d6048502d1fd98087bf7ef72c4d96f21a3"), looks := false }, kinds := [], alts := [], laidByText := true, laidKinds := [.data, .pinned], laidTests := true, laidLooks := .later }
def ChangeStaysCardSaid : Prop := Claim7.holds Tryd.pinned (.plain (OpenSpec.ofChange changeStaysSpec)) changeStaysCard

/-- THE TIED CARD OF 'quilllaw18.OperRight'. -/
def operRightCard : Claim7 := { stood := { row := operRightRow, standIns := [], harness := (true, "1708c2dc51926b5eee057d5f986b92d6048502d1fd98087bf7ef72c4d96f21a3"), looks := false }, kinds := [], alts := [], laidByText := true, laidKinds := [.data, .pinned], laidTests := true, laidLooks := .later }
def OperRightCardSaid : Prop := Claim7.holds Tryd.pinned (.plain (OpenSpec.ofChange operRightSpec)) operRightCard

/-- THE TIED CARD OF 'quilllaw18.OperLeft'. -/
def operLeftCard : Claim7 := { stood := { row := operLeftRow, standIns := [], harness := (true, "1708c2dc51926b5eee057d5f986b92d6048502d1fd98087bf7ef72c4d96f21a3"), looks := false }, kinds := [], alts := [], laidByText := true, laidKinds := [.data, .pinned], laidTests := true, laidLooks := .later }
def OperLeftCardSaid : Prop := Claim7.holds Tryd.pinned (.plain (OpenSpec.ofChange operLeftSpec)) operLeftCard

/-- THE TIED CARD OF 'quilllaw20.SmallTakes'. -/
def smallTakesCard : Claim7 := { stood := { row := smallTakesRow, standIns := [], harness := (true, "1708c2dc51926b5eee057d5f986b92d6048502d1fd98087bf7ef72c4d96f21a3"), looks := false }, kinds := [], alts := [], laidByText := true, laidKinds := [.data, .pinned], laidTests := true, laidLooks := .later }
def SmallTakesCardSaid : Prop := Claim7.holds Tryd.pinned (.plain (OpenSpec.ofChange smallTakesSpec)) smallTakesCard

/-- THE TIED CARD OF 'quilllaw20.SmallTurns'. -/
def smallTurnsCard : Claim7 := { stood := { row := smallTurnsRow, standIns := [], harness := (true, "1708c2dc51926b5eee057d5f986b92d6048502d1fd98087bf7ef72c4d96f21a3"), looks := false }, kinds := [], alts := [], laidByText := true, laidKinds := [.data, .pinned], laidTests := true, laidLooks := .later }
def SmallTurnsCardSaid : Prop := Claim7.holds Tryd.pinned (.plain (OpenSpec.ofChange smallTurnsSpec)) smallTurnsCard

/-- THE TIED CARD OF 'quilllaw20.SmallJoins'. -/
def smallJoinsCard : Claim7 := { stood := { row := smallJoinsRow, standIns := [], harness := (true, "1708c2dc51926b5eee057d5f986b92d6048502d1fd98087bf7ef72c4d96f21a3"), looks := false }, kinds := [], alts := [], laidByText := true, laidKinds := [.data, .pinned], laidTests := true, laidLooks := .later }
def SmallJoinsCardSaid : Prop := Claim7.holds Tryd.pinned (.plain (OpenSpec.ofChange smallJoinsSpec)) smallJoinsCard

/-- THE TIED CARD OF 'quilllaw20.SmallSame'. -/
def smallSameCard : Claim7 := { stood := { row := smallSameRow, standIns := [], harness := (true, "1708c2dc51926b5eee057d5f986b92d6048502d1fd98087bf7ef72c4d96f21a3"), looks := false }, kinds := [], alts := [], laidByText := true, laidKinds := [.data, .pinned], laidTests := true, laidLooks := .later }
def SmallSameCardSaid : Prop := Claim7.holds Tryd.pinned (.plain (OpenSpec.ofChange smallSameSpec)) smallSameCard

/-- THE TIED CARD OF 'quilllaw20.SmallX'. -/
def smallXCard : Claim7 := { stood := { row := smallXRow, standIns := [], harness := (true, "1708c2dc51926b5eee057d5f986b92d6048502d1fd98087bf7ef72c4d96f21a3"), looks := false }, kinds := [], alts := [], laidByText := true, laidKinds := [.data, .pinned], laidTests := true, laidLooks := .later }
def SmallXCardSaid : Prop := Claim7.holds Tryd.pinned (.plain (OpenSpec.ofChange smallXSpec)) smallXCard

/-- THE TIED CARD OF 'quilllaw20.SmallBigX'. -/
def smallBigXCard : Claim7 := { stood := { row := smallBigXRow, standIns := [], harness := (true, "1708c2dc51926b5eee057d5f986b92d6048502d1fd98087bf7ef72c4d96f21a3"), looks := false }, kinds := [], alts := [], laidByText := true, laidKinds := [.data, .pinned], laidTests := true, laidLooks := .later }
def SmallBigXCardSaid : Prop := Claim7.holds Tryd.pinned (.plain (OpenSpec.ofChange smallBigXSpec)) smallBigXCard

/-- THE TIED CARD OF 'quilllaw20.SmallR'. -/
def smallRCard : Claim7 := { stood := { row := smallRRow, standIns := [], harness := (true, "1708c2dc51926b5eee057d5f986b92d6048502d1fd98087bf7ef72c4d96f21a3"), looks := false }, kinds := [], alts := [], laidByText := true, laidKinds := [.data, .pinned], laidTests := true, laidLooks := .later }
def SmallRCardSaid : Prop := Claim7.holds Tryd.pinned (.plain (OpenSpec.ofChange smallRSpec)) smallRCard

/-- THE TIED CARD OF 'quilllaw20.SmallTilde'. -/
def smallTildeCard : Claim7 := { stood := { row := smallTildeRow, standIns := [], harness := (true, "1708c2dc51926b5eee057d5f986b92d6048502d1fd98087bf7ef72c4d96f21a3"), looks := false }, kinds := [], alts := [], laidByText := true, laidKinds := [.data, .pinned], laidTests := true, laidLooks := .later }
def SmallTildeCardSaid : Prop := Claim7.holds Tryd.pinned (.plain (OpenSpec.ofChange smallTildeSpec)) smallTildeCard

/-- THE SECOND FORM's CARD OF 'quilllaw18.ChangeShifts'. -/
def changeShiftsUptoCard : Claim7 := { stood := { row := changeShiftsUptoRow, standIns := [], harness := (true, "1708c2dc51926b5eee057d5f986b92d6048502d1fd98087bf7ef72c4d96f21a3"), looks := false }, kinds := [], alts := [], laidByText := true, laidKinds := [.data, .pinned], laidTests := true, laidLooks := .later }
def ChangeShiftsUptoCardSaid : Prop := Claim7.holds Tryd.pinned (.plain (OpenSpec.upto changeShiftsSpec)) changeShiftsUptoCard

/-- THE SECOND FORM's CARD OF 'quilllaw18.ChangeStays'. -/
def changeStaysUptoCard : Claim7 := { stood := { row := changeStaysUptoRow, standIns := [], harness := (true, "1708c2dc51926b5eee057d5f986b92d6048502d1fd98087bf7ef72c4d96f21a3"), looks := false }, kinds := [], alts := [], laidByText := true, laidKinds := [.data, .pinned], laidTests := true, laidLooks := .later }
def ChangeStaysUptoCardSaid : Prop := Claim7.holds Tryd.pinned (.plain (OpenSpec.upto changeStaysSpec)) changeStaysUptoCard

/-- THE SECOND FORM's CARD OF 'quilllaw18.OperRight'. -/
def operRightUptoCard : Claim7 := { stood := { row := operRightUptoRow, standIns := [], harness := (true, "1708c2dc51926b5eee057d5f986b92d6048502d1fd98087bf7ef72c4d96f21a3"), looks := false }, kinds := [], alts := [], laidByText := true, laidKinds := [.data, .pinned], laidTests := true, laidLooks := .later }
def OperRightUptoCardSaid : Prop := Claim7.holds Tryd.pinned (.plain (OpenSpec.upto operRightSpec)) operRightUptoCard

/-- THE SECOND FORM's CARD OF 'quilllaw18.OperLeft'. -/
def operLeftUptoCard : Claim7 := { stood := { row := operLeftUptoRow, standIns := [], harness := (true, "1708c2dc51926b5eee057d5f986b92d6048502d1fd98087bf7ef72c4d96f21a3"), looks := false }, kinds := [], alts := [], laidByText := true, laidKinds := [.data, .pinned], laidTests := true, laidLooks := .later }
def OperLeftUptoCardSaid : Prop := Claim7.holds Tryd.pinned (.plain (OpenSpec.upto operLeftSpec)) operLeftUptoCard

/-- THE SECOND FORM's CARD OF 'quilllaw20.SmallTakes'. -/
def smallTakesUptoCard : Claim7 := { stood := { row := smallTakesUptoRow, standIns := [], harness := (true, "1708c2dc51926b5eee057d5f986b92d6048502d1fd98087bf7ef72c4d96f21a3"), looks := false }, kinds := [], alts := [], laidByText := true, laidKinds := [.data, .pinned], laidTests := true, laidLooks := .later }
def SmallTakesUptoCardSaid : Prop := Claim7.holds Tryd.pinned (.plain (OpenSpec.upto smallTakesSpec)) smallTakesUptoCard

/-- THE SECOND FORM's CARD OF 'quilllaw20.SmallTurns'. -/
def smallTurnsUptoCard : Claim7 := { stood := { row := smallTurnsUptoRow, standIns := [], harness := (true, "1708c2dc51926b5eee057d5f986b92d6048502d1fd98087bf7ef72c4d96f21a3"), looks := false }, kinds := [], alts := [], laidByText := true, laidKinds := [.data, .pinned], laidTests := true, laidLooks := .later }
def SmallTurnsUptoCardSaid : Prop := Claim7.holds Tryd.pinned (.plain (OpenSpec.upto smallTurnsSpec)) smallTurnsUptoCard

/-- THE SECOND FORM's CARD OF 'quilllaw20.SmallJoins'. -/
def smallJoinsUptoCard : Claim7 := { stood := { row := smallJoinsUptoRow, standIns := [], harness := (true, "1708c2dc51926b5eee057d5f986b92d6048502d1fd98087bf7ef72c4d96f21a3"), looks := false }, kinds := [], alts := [], laidByText := true, laidKinds := [.data, .pinned], laidTests := true, laidLooks := .later }
def SmallJoinsUptoCardSaid : Prop := Claim7.holds Tryd.pinned (.plain (OpenSpec.upto smallJoinsSpec)) smallJoinsUptoCard

/-- THE SECOND FORM's CARD OF 'quilllaw20.SmallSame'. -/
def smallSameUptoCard : Claim7 := { stood := { row := smallSameUptoRow, standIns := [], harness := (true, "1708c2dc51926b5eee057d5f986b92d6048502d1fd98087bf7ef72c4d96f21a3"), looks := false }, kinds := [], alts := [], laidByText := true, laidKinds := [.data, .pinned], laidTests := true, laidLooks := .later }
def SmallSameUptoCardSaid : Prop := Claim7.holds Tryd.pinned (.plain (OpenSpec.upto smallSameSpec)) smallSameUptoCard

/-- THE SECOND FORM's CARD OF 'quilllaw20.SmallX'. -/
def smallXUptoCard : Claim7 := { stood := { row := smallXUptoRow, standIns := [], harness := (true, "1708c2dc51926b5eee057d5f986b92d6048502d1fd98087bf7ef72c4d96f21a3"), looks := false }, kinds := [], alts := [], laidByText := true, laidKinds := [.data, .pinned], laidTests := true, laidLooks := .later }
def SmallXUptoCardSaid : Prop := Claim7.holds Tryd.pinned (.plain (OpenSpec.upto smallXSpec)) smallXUptoCard

/-- THE SECOND FORM's CARD OF 'quilllaw20.SmallBigX'. -/
def smallBigXUptoCard : Claim7 := { stood := { row := smallBigXUptoRow, standIns := [], harness := (true, "1708c2dc51926b5eee057d5f986b92d6048502d1fd98087bf7ef72c4d96f21a3"), looks := false }, kinds := [], alts := [], laidByText := true, laidKinds := [.data, .pinned], laidTests := true, laidLooks := .later }
def SmallBigXUptoCardSaid : Prop := Claim7.holds Tryd.pinned (.plain (OpenSpec.upto smallBigXSpec)) smallBigXUptoCard

/-- THE SECOND FORM's CARD OF 'quilllaw20.SmallR'. -/
def smallRUptoCard : Claim7 := { stood := { row := smallRUptoRow, standIns := [], harness := (true, "1708c2dc51926b5eee057d5f986b92d6048502d1fd98087bf7ef72c4d96f21a3"), looks := false }, kinds := [], alts := [], laidByText := true, laidKinds := [.data, .pinned], laidTests := true, laidLooks := .later }
def SmallRUptoCardSaid : Prop := Claim7.holds Tryd.pinned (.plain (OpenSpec.upto smallRSpec)) smallRUptoCard

/-- THE SECOND FORM's CARD OF 'quilllaw20.SmallTilde'. -/
def smallTildeUptoCard : Claim7 := { stood := { row := smallTildeUptoRow, standIns := [], harness := (true, "1708c2dc51926b5eee057d5f986b92d6048502d1fd98087bf7ef72c4d96f21a3"), looks := false }, kinds := [], alts := [], laidByText := true, laidKinds := [.data, .pinned], laidTests := true, laidLooks := .later }
def SmallTildeUptoCardSaid : Prop := Claim7.holds Tryd.pinned (.plain (OpenSpec.upto smallTildeSpec)) smallTildeUptoCard
end Rows
end Go.Proofs.YtkeojjojilfklaaDoor
