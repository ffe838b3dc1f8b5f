/-
  DERIVED. GIVEN WITH THE SEED: THE CARDS: each row of YtclmcieegoobkaaDoorRows.lean that lists a variable, with what it lists TIED to the program's text (the seventh form; the later family's looks); each row that meets fmt, with fmt's text TOLD by the authors' own Lean function (tested against real Go, not proved from fmt's source: count such statements apart). THE CARD IS WHAT COUNTS. Prove the row's statement (the work); the ties are given (YtclmcieegoobkaaDoorTie.lean); close each card by the builder's one call (the guide's Derived/Test/ToyasCard.lean, 'card_holds'). Laid BY PROGRAM, IN A SANDBOX (cutbox-door.mjs). By AI agents, Wed Nov 11 2026. No macro, syntax, notation, axiom, sorry.
-/
import Derived.Test.YtclmcieegoobkaaDoorRows
import GoSem.ClaimSeven
namespace Go.Proofs.YtclmcieegoobkaaDoor
namespace Rows

/-- THE TIED CARD OF 'quilllaw1.TextRests'. -/
def textRestsCard : Claim7 := { stood := { row := textRestsRow, standIns := [], harness := (true, "0772d10ea211cd23ed45e3836f0bdef851a5a2c111e1c6a5617836d6604b2278"), looks := false }, kinds := [], alts := [], laidByText := true, laidKinds := [.data, .pinned], laidTests := true, laidLooks := .later }
def TextRestsCardSaid : Prop := Claim7.holds Tryd.pinned (.plain (OpenSpec.ofChange textRestsSpec)) textRestsCard

/-- THE TIED CARD OF 'quilllaw10.WordsBegin'. -/
def wordsBeginCard : Claim7 := { stood := { row := wordsBeginRow, standIns := [], harness := (true, "0772d10ea211cd23ed45e3836f0bdef851a5a2c111e1c6a5617836d6604b2278"), looks := false }, kinds := [], alts := [], laidByText := true, laidKinds := [.data, .pinned], laidTests := true, laidLooks := .later }
def WordsBeginCardSaid : Prop := Claim7.holds Tryd.pinned (.plain (OpenSpec.ofChange wordsBeginSpec)) wordsBeginCard

/-- THE TIED CARD OF 'quilllaw10.WordsBack'. -/
def wordsBackCard : Claim7 := { stood := { row := wordsBackRow, standIns := [], harness := (true, "0772d10ea211cd23ed45e3836f0bdef851a5a2c111e1c6a5617836d6604b2278"), looks := false }, kinds := [], alts := [], laidByText := true, laidKinds := [.data, .pinned], laidTests := true, laidLooks := .later }
def WordsBackCardSaid : Prop := Claim7.holds Tryd.pinned (.plain (OpenSpec.ofChange wordsBackSpec)) wordsBackCard

/-- THE TIED CARD OF 'quilllaw10.WordsEnd'. -/
def wordsEndCard : Claim7 := { stood := { row := wordsEndRow, standIns := [], harness := (true, "0772d10ea211cd23ed45e3836f0bdef851a5a2c111e1c6a5617836d6604b2278"), looks := false }, kinds := [], alts := [], laidByText := true, laidKinds := [.data, .pinned], laidTests := true, laidLooks := .later }
def WordsEndCardSaid : Prop := Claim7.holds Tryd.pinned (.plain (OpenSpec.ofChange wordsEndSpec)) wordsEndCard

/-- THE TIED CARD OF 'quilllaw10.WordsCells'. -/
def wordsCellsCard : Claim7 := { stood := { row := wordsCellsRow, standIns := [], harness := (true, "0772d10ea211cd23ed45e3836f0bdef851a5a2c111e1c6a5617836d6604b2278"), looks := false }, kinds := [], alts := [], laidByText := true, laidKinds := [.data, .pinned], laidTests := true, laidLooks := .later }
def WordsCellsCardSaid : Prop := Claim7.holds Tryd.pinned (.plain (OpenSpec.ofChange wordsCellsSpec)) wordsCellsCard

/-- THE TIED CARD OF 'quilllaw10.WordsWalk'. -/
def wordsWalkCard : Claim7 := { stood := { row := wordsWalkRow, standIns := [], harness := (true, "0772d10ea211cd23ed45e3836f0bdef851a5a2c111e1c6a5617836d6604b2278"), looks := false }, kinds := [], alts := [], laidByText := true, laidKinds := [.data, .pinned], laidTests := true, laidLooks := .later }
def WordsWalkCardSaid : Prop := Claim7.holds Tryd.pinned (.plain (OpenSpec.ofChange wordsWalkSpec)) wordsWalkCard

/-- THE TIED CARD OF 'quilllaw10.WordW'. -/
def wordWCard : Claim7 := { stood := { row := wordWRow, standIns := [], harness := (true, "0772d10ea211cd23ed45e3836f0bdef851a5a2c111e1c6a5617836d6604b2278"), looks := false }, kinds := [], alts := [], laidByText := true, laidKinds := [.data, .pinned], laidTests := true, laidLooks := .later }
def WordWCardSaid : Prop := Claim7.holds Tryd.pinned (.plain (OpenSpec.ofChange wordWSpec)) wordWCard

/-- THE TIED CARD OF 'quilllaw10.WordB'. -/
def wordBCard : Claim7 := { stood := { row := wordBRow, standIns := [], harness := (true, "0772d10ea211cd23ed45e3836f0bdef851a5a2c111e1c6a5617836d6604b2278"), looks := false }, kinds := [], alts := [], laidByText := true, laidKinds := [.data, .pinned], laidTests := true, laidLooks := .later }
def WordBCardSaid : Prop := Claim7.holds Tryd.pinned (.plain (OpenSpec.ofChange wordBSpec)) wordBCard

/-- THE TIED CARD OF 'quilllaw10.WordE'. -/
def wordECard : Claim7 := { stood := { row := wordERow, standIns := [], harness := (true, "0772d10ea211cd23ed45e3836f0bdef851a5a2c111e1c6a5617836d6604b2278"), looks := false }, kinds := [], alts := [], laidByText := true, laidKinds := [.data, .pinned], laidTests := true, laidLooks := .later }
def WordECardSaid : Prop := Claim7.holds Tryd.pinned (.plain (OpenSpec.ofChange wordESpec)) wordECard

/-- THE TIED CARD OF 'quilllaw10.WordBigW'. -/
def wordBigWCard : Claim7 := { stood := { row := wordBigWRow, standIns := [], harness := (true, "0772d10ea211cd23ed45e3836f0bdef851a5a2c111e1c6a5617836d6604b2278"), looks := false }, kinds := [], alts := [], laidByText := true, laidKinds := [.data, .pinned], laidTests := true, laidLooks := .later }
def WordBigWCardSaid : Prop := Claim7.holds Tryd.pinned (.plain (OpenSpec.ofChange wordBigWSpec)) wordBigWCard

/-- THE TIED CARD OF 'quilllaw10.WordBigB'. -/
def wordBigBCard : Claim7 := { stood := { row := wordBigBRow, standIns := [], harness := (true, "0772d10ea211cd23ed45e3836f0bdef851a5a2c111e1c6a5617836d6604b2278"), looks := false }, kinds := [], alts := [], laidByText := true, laidKinds := [.data, .pinned], laidTests := true, laidLooks := .later }
def WordBigBCardSaid : Prop := Claim7.holds Tryd.pinned (.plain (OpenSpec.ofChange wordBigBSpec)) wordBigBCard

/-- THE TIED CARD OF 'quilllaw10.WordBigE'. -/
def wordBigECard : Claim7 := { stood := { row := wordBigERow, standIns := [], harness := (true, "0772d10ea211cd23ed45e3836f0bdef851a5a2c111e1c6a5617836d6604b2278"), looks := false }, kinds := [], alts := [], laidByText := true, laidKinds := [.data, .pinned], laidTests := true, laidLooks := .later }
def WordBigECardSaid : Prop := Claim7.holds Tryd.pinned (.plain (OpenSpec.ofChange wordBigESpec)) wordBigECard

/-- THE TIED CARD OF 'quilllaw12.LinesFirst'. -/
def linesFirstCard : Claim7 := { stood := { row := linesFirstRow, standIns := [], harness := (true, "0772d10ea211cd23ed45e3836f0bdef851a5a2c111e1c6a5617836d6604b2278"), looks := false }, kinds := [], alts := [], laidByText := true, laidKinds := [.data, .pinned], laidTests := true, laidLooks := .later }
def LinesFirstCardSaid : Prop := Claim7.holds Tryd.pinned (.plain (OpenSpec.ofChange linesFirstSpec)) linesFirstCard

/-- THE SECOND FORM's CARD OF 'quilllaw1.TextRests'. -/
def textRestsUptoCard : Claim7 := { stood := { row := textRestsUptoRow, standIns := [], harness := (true, "0772d10ea211cd23ed45e3836f0bdef851a5a2c111e1c6a5617836d6604b2278"), looks := false }, kinds := [], alts := [], laidByText := true, laidKinds := [.data, .pinned], laidTests := true, laidLooks := .later }
def TextRestsUptoCardSaid : Prop := Claim7.holds Tryd.pinned (.plain (OpenSpec.upto textRestsSpec)) textRestsUptoCard

/-- THE SECOND FORM's CARD OF 'quilllaw10.WordsBegin'. -/
def wordsBeginUptoCard : Claim7 := { stood := { row := wordsBeginUptoRow, standIns := [], harness := (true, "0772d10ea211cd23ed45e3836f0bdef851a5a2c111e1c6a5617836d6604b2278"), looks := false }, kinds := [], alts := [], laidByText := true, laidKinds := [.data, .pinned], laidTests := true, laidLooks := .later }
def WordsBeginUptoCardSaid : Prop := Claim7.holds Tryd.pinned (.plain (OpenSpec.upto wordsBeginSpec)) wordsBeginUptoCard

/-- THE SECOND FORM's CARD OF 'quilllaw10.WordsBack'. -/
def wordsBackUptoCard : Claim7 := { stood := { row := wordsBackUptoRow, standIns := [], harness := (true, "0772d10ea211cd23ed45e3836f0bdef851a5a2c111e1c6a5617836d6604b2278"), looks := false }, kinds := [], alts := [], laidByText := true, laidKinds := [.data, .pinned], laidTests := true, laidLooks := .later }
def WordsBackUptoCardSaid : Prop := Claim7.holds Tryd.pinned (.plain (OpenSpec.upto wordsBackSpec)) wordsBackUptoCard

/-- THE SECOND FORM's CARD OF 'quilllaw10.WordsEnd'. -/
def wordsEndUptoCard : Claim7 := { stood := { row := wordsEndUptoRow, standIns := [], harness := (true, "0772d10ea211cd23ed45e3836f0bdef851a5a2c111e1c6a5617836d6604b2278"), looks := false }, kinds := [], alts := [], laidByText := true, laidKinds := [.data, .pinned], laidTests := true, laidLooks := .later }
def WordsEndUptoCardSaid : Prop := Claim7.holds Tryd.pinned (.plain (OpenSpec.upto wordsEndSpec)) wordsEndUptoCard

/-- THE SECOND FORM's CARD OF 'quilllaw10.WordsCells'. -/
def wordsCellsUptoCard : Claim7 := { stood := { row := wordsCellsUptoRow, standIns := [], harness := (true, "0772d10ea211cd23ed45e3836f0bdef851a5a2c111e1c6a5617836d6604b2278"), looks := false }, kinds := [], alts := [], laidByText := true, laidKinds := [.data, .pinned], laidTests := true, laidLooks := .later }
def WordsCellsUptoCardSaid : Prop := Claim7.holds Tryd.pinned (.plain (OpenSpec.upto wordsCellsSpec)) wordsCellsUptoCard

/-- THE SECOND FORM's CARD OF 'quilllaw10.WordsWalk'. -/
def wordsWalkUptoCard : Claim7 := { stood := { row := wordsWalkUptoRow, standIns := [], harness := (true, "0772d10ea211cd23ed45e3836f0bdef851a5a2c111e1c6a5617836d6604b2278"), looks := false }, kinds := [], alts := [], laidByText := true, laidKinds := [.data, .pinned], laidTests := true, laidLooks := .later }
def WordsWalkUptoCardSaid : Prop := Claim7.holds Tryd.pinned (.plain (OpenSpec.upto wordsWalkSpec)) wordsWalkUptoCard

/-- THE SECOND FORM's CARD OF 'quilllaw10.WordW'. -/
def wordWUptoCard : Claim7 := { stood := { row := wordWUptoRow, standIns := [], harness := (true, "0772d10ea211cd23ed45e3836f0bdef851a5a2c111e1c6a5617836d6604b2278"), looks := false }, kinds := [], alts := [], laidByText := true, laidKinds := [.data, .pinned], laidTests := true, laidLooks := .later }
def WordWUptoCardSaid : Prop := Claim7.holds Tryd.pinned (.plain (OpenSpec.upto wordWSpec)) wordWUptoCard

/-- THE SECOND FORM's CARD OF 'quilllaw10.WordB'. -/
def wordBUptoCard : Claim7 := { stood := { row := wordBUptoRow, standIns := [], harness := (true, "0772d10ea211cd23ed45e3836f0bdef851a5a2c111e1c6a5617836d6604b2278"), looks := false }, kinds := [], alts := [], laidByText := true, laidKinds := [.data, .pinned], laidTests := true, laidLooks := .later }
def WordBUptoCardSaid : Prop := Claim7.holds Tryd.pinned (.plain (OpenSpec.upto wordBSpec)) wordBUptoCard

/-- THE SECOND FORM's CARD OF 'quilllaw10.WordE'. -/
def wordEUptoCard : Claim7 := { stood := { row := wordEUptoRow, standIns := [], harness := (true, "0772d10ea211cd23ed45e3836f0bdef851a5a2c111e1c6a5617836d6604b2278"), looks := false }, kinds := [], alts := [], laidByText := true, laidKinds := [.data, .pinned], laidTests := true, laidLooks := .later }
def WordEUptoCardSaid : Prop := Claim7.holds Tryd.pinned (.plain (OpenSpec.upto wordESpec)) wordEUptoCard

/-- THE SECOND FORM's CARD OF 'quilllaw10.WordBigW'. -/
def wordBigWUptoCard : Claim7 := { stood := { row := wordBigWUptoRow, standIns := [], harness := (true, "0772d10ea211cd23ed45e3836f0bdef851a5a2c111e1c6a5617836d6604b2278"), looks := false }, kinds := [], alts := [], laidByText := true, laidKinds := [.data, .pinned], laidTests := true, laidLooks := .later }
def WordBigWUptoCardSaid : Prop := Claim7.holds Tryd.pinned (.plain (OpenSpec.upto wordBigWSpec)) wordBigWUptoCard

/-- THE SECOND FORM's CARD OF 'quilllaw10.WordBigB'. -/
def wordBigBUptoCard : Claim7 := { stood := { row := wordBigBUptoRow, standIns := [], harness := (true, "0772d10ea211cd23ed45e3836f0bdef851a5a2c111e1c6a5617836d6604b2278"), looks := false }, kinds := [], alts := [], laidByText := true, laidKinds := [.data, .pinned], laidTests := true, laidLooks := .later }
def WordBigBUptoCardSaid : Prop := Claim7.holds Tryd.pinned (.plain (OpenSpec.upto wordBigBSpec)) wordBigBUptoCard

/-- THE SECOND FORM's CARD OF 'quilllaw10.WordBigE'. -/
def wordBigEUptoCard : Claim7 := { stood := { row := wordBigEUptoRow, standIns := [], harness := (true, "0772d10ea211cd23ed45e3836f0bdef851a5a2c111e1c6a5617836d6604b2278"), looks := false }, kinds := [], alts := [], laidByText := true, laidKinds := [.data, .pinned], laidTests := true, laidLooks := .later }
def WordBigEUptoCardSaid : Prop := Claim7.holds Tryd.pinned (.plain (OpenSpec.upto wordBigESpec)) wordBigEUptoCard

/-- THE SECOND FORM's CARD OF 'quilllaw12.LinesFirst'. -/
def linesFirstUptoCard : Claim7 := { stood := { row := linesFirstUptoRow, standIns := [], harness := (true, "0772d10ea211cd23ed45e3836f0bdef851a5a2c111e1c6a5617836d6604b2278"), looks := false }, kinds := [], alts := [], laidByText := true, laidKinds := [.data, .pinned], laidTests := true, laidLooks := .later }
def LinesFirstUptoCardSaid : Prop := Claim7.holds Tryd.pinned (.plain (OpenSpec.upto linesFirstSpec)) linesFirstUptoCard
end Rows
end Go.Proofs.YtclmcieegoobkaaDoor
