/-
  DERIVED. GIVEN WITH THE SEED: THE CARDS: each row of YtohmhjeimeilcaaDoorRows.lean that lists a variable, with what it lists TIED to the program's text (the seventh form; the later family's looks); each row that meets fmt, with fmt's text TOLD by the authors' own Lean function (tested against real Go, not proved from fmt's source: count such statements apart). THE CARD IS WHAT COUNTS. Prove the row's statement (the work); the ties are given (YtohmhjeimeilcaaDoorTie.lean); close each card by the builder's one call (the guide's Derived/Test/ToyasCard.lean, 'card_holds'). Laid BY PROGRAM, IN A SANDBOX (cutbox-door.mjs). By AI agents, Wed Nov 11 2026. No macro, syntax, notation, axiom, sorry.
-/
import Derived.Test.YtohmhjeimeilcaaDoorRows
import GoSem.ClaimSeven
namespace Go.Proofs.YtohmhjeimeilcaaDoor
namespace Rows

/-- THE TIED CARD OF 'quilllaw14.PairsMates'. -/
def pairsMatesCard : Claim7 := { stood := { row := pairsMatesRow, standIns := [], harness := (true, "873295af7207535663e6598a1affe8d529317456ebd6d21b9ef4dc26e5f93cb3"), looks := false }, kinds := [], alts := [], laidByText := true, laidKinds := [.data, .pinned], laidTests := true, laidLooks := .later }
def PairsMatesCardSaid : Prop := Claim7.holds Tryd.pinned (.plain (OpenSpec.ofChange pairsMatesSpec)) pairsMatesCard

/-- THE TIED CARD OF 'quilllaw14.PairsBack'. -/
def pairsBackCard : Claim7 := { stood := { row := pairsBackRow, standIns := [], harness := (true, "873295af7207535663e6598a1affe8d529317456ebd6d21b9ef4dc26e5f93cb3"), looks := false }, kinds := [], alts := [], laidByText := true, laidKinds := [.data, .pinned], laidTests := true, laidLooks := .later }
def PairsBackCardSaid : Prop := Claim7.holds Tryd.pinned (.plain (OpenSpec.ofChange pairsBackSpec)) pairsBackCard

/-- THE TIED CARD OF 'quilllaw15.ObjectWords'. -/
def objectWordsCard : Claim7 := { stood := { row := objectWordsRow, standIns := [], harness := (true, "873295af7207535663e6598a1affe8d529317456ebd6d21b9ef4dc26e5f93cb3"), looks := false }, kinds := [], alts := [], laidByText := true, laidKinds := [.data, .pinned], laidTests := true, laidLooks := .later }
def ObjectWordsCardSaid : Prop := Claim7.holds Tryd.pinned (.plain (OpenSpec.ofChange objectWordsSpec)) objectWordsCard

/-- THE TIED CARD OF 'quilllaw15.ObjectQuotes'. -/
def objectQuotesCard : Claim7 := { stood := { row := objectQuotesRow, standIns := [], harness := (true, "873295af7207535663e6598a1affe8d529317456ebd6d21b9ef4dc26e5f93cb3"), looks := false }, kinds := [], alts := [], laidByText := true, laidKinds := [.data, .pinned], laidTests := true, laidLooks := .later }
def ObjectQuotesCardSaid : Prop := Claim7.holds Tryd.pinned (.plain (OpenSpec.ofChange objectQuotesSpec)) objectQuotesCard

/-- THE TIED CARD OF 'quilllaw15.ObjectPairs'. -/
def objectPairsCard : Claim7 := { stood := { row := objectPairsRow, standIns := [], harness := (true, "873295af7207535663e6598a1affe8d529317456ebd6d21b9ef4dc26e5f93cb3"), looks := false }, kinds := [], alts := [], laidByText := true, laidKinds := [.data, .pinned], laidTests := true, laidLooks := .later }
def ObjectPairsCardSaid : Prop := Claim7.holds Tryd.pinned (.plain (OpenSpec.ofChange objectPairsSpec)) objectPairsCard

/-- THE TIED CARD OF 'quilllaw15.ObjectParas'. -/
def objectParasCard : Claim7 := { stood := { row := objectParasRow, standIns := [], harness := (true, "873295af7207535663e6598a1affe8d529317456ebd6d21b9ef4dc26e5f93cb3"), looks := false }, kinds := [], alts := [], laidByText := true, laidKinds := [.data, .pinned], laidTests := true, laidLooks := .later }
def ObjectParasCardSaid : Prop := Claim7.holds Tryd.pinned (.plain (OpenSpec.ofChange objectParasSpec)) objectParasCard

/-- THE TIED CARD OF 'quilllaw15.ObjectWithin'. -/
def objectWithinCard : Claim7 := { stood := { row := objectWithinRow, standIns := [], harness := (true, "873295af7207535663e6598a1affe8d529317456ebd6d21b9ef4dc26e5f93cb3"), looks := false }, kinds := [], alts := [], laidByText := true, laidKinds := [.data, .pinned], laidTests := true, laidLooks := .later }
def ObjectWithinCardSaid : Prop := Claim7.holds Tryd.pinned (.plain (OpenSpec.ofChange objectWithinSpec)) objectWithinCard

/-- THE TIED CARD OF 'quilllaw15.PieceSmall'. -/
def pieceSmallCard : Claim7 := { stood := { row := pieceSmallRow, standIns := [], harness := (true, "873295af7207535663e6598a1affe8d529317456ebd6d21b9ef4dc26e5f93cb3"), looks := false }, kinds := [], alts := [], laidByText := true, laidKinds := [.data, .pinned], laidTests := true, laidLooks := .later }
def PieceSmallCardSaid : Prop := Claim7.holds Tryd.pinned (.plain (OpenSpec.ofChange pieceSmallSpec)) pieceSmallCard

/-- THE TIED CARD OF 'quilllaw15.PieceBig'. -/
def pieceBigCard : Claim7 := { stood := { row := pieceBigRow, standIns := [], harness := (true, "873295af7207535663e6598a1affe8d529317456ebd6d21b9ef4dc26e5f93cb3"), looks := false }, kinds := [], alts := [], laidByText := true, laidKinds := [.data, .pinned], laidTests := true, laidLooks := .later }
def PieceBigCardSaid : Prop := Claim7.holds Tryd.pinned (.plain (OpenSpec.ofChange pieceBigSpec)) pieceBigCard

/-- THE TIED CARD OF 'quilllaw15.PieceRound'. -/
def pieceRoundCard : Claim7 := { stood := { row := pieceRoundRow, standIns := [], harness := (true, "873295af7207535663e6598a1affe8d529317456ebd6d21b9ef4dc26e5f93cb3"), looks := false }, kinds := [], alts := [], laidByText := true, laidKinds := [.data, .pinned], laidTests := true, laidLooks := .later }
def PieceRoundCardSaid : Prop := Claim7.holds Tryd.pinned (.plain (OpenSpec.ofChange pieceRoundSpec)) pieceRoundCard

/-- THE TIED CARD OF 'quilllaw15.PieceCurly'. -/
def pieceCurlyCard : Claim7 := { stood := { row := pieceCurlyRow, standIns := [], harness := (true, "873295af7207535663e6598a1affe8d529317456ebd6d21b9ef4dc26e5f93cb3"), looks := false }, kinds := [], alts := [], laidByText := true, laidKinds := [.data, .pinned], laidTests := true, laidLooks := .later }
def PieceCurlyCardSaid : Prop := Claim7.holds Tryd.pinned (.plain (OpenSpec.ofChange pieceCurlySpec)) pieceCurlyCard

/-- THE SECOND FORM's CARD OF 'quilllaw14.PairsMates'. -/
def pairsMatesUptoCard : Claim7 := { stood := { row := pairsMatesUptoRow, standIns := [], harness := (true, "873295af7207535663e6598a1affe8d529317456ebd6d21b9ef4dc26e5f93cb3"), looks := false }, kinds := [], alts := [], laidByText := true, laidKinds := [.data, .pinned], laidTests := true, laidLooks := .later }
def PairsMatesUptoCardSaid : Prop := Claim7.holds Tryd.pinned (.plain (OpenSpec.upto pairsMatesSpec)) pairsMatesUptoCard

/-- THE SECOND FORM's CARD OF 'quilllaw14.PairsBack'. -/
def pairsBackUptoCard : Claim7 := { stood := { row := pairsBackUptoRow, standIns := [], harness := (true, "873295af7207535663e6598a1affe8d529317456ebd6d21b9ef4dc26e5f93cb3"), looks := false }, kinds := [], alts := [], laidByText := true, laidKinds := [.data, .pinned], laidTests := true, laidLooks := .later }
def PairsBackUptoCardSaid : Prop := Claim7.holds Tryd.pinned (.plain (OpenSpec.upto pairsBackSpec)) pairsBackUptoCard

/-- THE SECOND FORM's CARD OF 'quilllaw15.ObjectWords'. -/
def objectWordsUptoCard : Claim7 := { stood := { row := objectWordsUptoRow, standIns := [], harness := (true, "873295af7207535663e6598a1affe8d529317456ebd6d21b9ef4dc26e5f93cb3"), looks := false }, kinds := [], alts := [], laidByText := true, laidKinds := [.data, .pinned], laidTests := true, laidLooks := .later }
def ObjectWordsUptoCardSaid : Prop := Claim7.holds Tryd.pinned (.plain (OpenSpec.upto objectWordsSpec)) objectWordsUptoCard

/-- THE SECOND FORM's CARD OF 'quilllaw15.ObjectQuotes'. -/
def objectQuotesUptoCard : Claim7 := { stood := { row := objectQuotesUptoRow, standIns := [], harness := (true, "873295af7207535663e6598a1affe8d529317456ebd6d21b9ef4dc26e5f93cb3"), looks := false }, kinds := [], alts := [], laidByText := true, laidKinds := [.data, .pinned], laidTests := true, laidLooks := .later }
def ObjectQuotesUptoCardSaid : Prop := Claim7.holds Tryd.pinned (.plain (OpenSpec.upto objectQuotesSpec)) objectQuotesUptoCard

/-- THE SECOND FORM's CARD OF 'quilllaw15.ObjectPairs'. -/
def objectPairsUptoCard : Claim7 := { stood := { row := objectPairsUptoRow, standIns := [], harness := (true, "873295af7207535663e6598a1affe8d529317456ebd6d21b9ef4dc26e5f93cb3"), looks := false }, kinds := [], alts := [], laidByText := true, laidKinds := [.data, .pinned], laidTests := true, laidLooks := .later }
def ObjectPairsUptoCardSaid : Prop := Claim7.holds Tryd.pinned (.plain (OpenSpec.upto objectPairsSpec)) objectPairsUptoCard

/-- THE SECOND FORM's CARD OF 'quilllaw15.ObjectParas'. -/
def objectParasUptoCard : Claim7 := { stood := { row := objectParasUptoRow, standIns := [], harness := (true, "873295af7207535663e6598a1affe8d529317456ebd6d21b9ef4dc26e5f93cb3"), looks := false }, kinds := [], alts := [], laidByText := true, laidKinds := [.data, .pinned], laidTests := true, laidLooks := .later }
def ObjectParasUptoCardSaid : Prop := Claim7.holds Tryd.pinned (.plain (OpenSpec.upto objectParasSpec)) objectParasUptoCard

/-- THE SECOND FORM's CARD OF 'quilllaw15.ObjectWithin'. -/
def objectWithinUptoCard : Claim7 := { stood := { row := objectWithinUptoRow, standIns := [], harness := (true, "873295af7207535663e6598a1affe8d529317456ebd6d21b9ef4dc26e5f93cb3"), looks := false }, kinds := [], alts := [], laidByText := true, laidKinds := [.data, .pinned], laidTests := true, laidLooks := .later }
def ObjectWithinUptoCardSaid : Prop := Claim7.holds Tryd.pinned (.plain (OpenSpec.upto objectWithinSpec)) objectWithinUptoCard

/-- THE SECOND FORM's CARD OF 'quilllaw15.PieceSmall'. -/
def pieceSmallUptoCard : Claim7 := { stood := { row := pieceSmallUptoRow, standIns := [], harness := (true, "873295af7207535663e6598a1affe8d529317456ebd6d21b9ef4dc26e5f93cb3"), looks := false }, kinds := [], alts := [], laidByText := true, laidKinds := [.data, .pinned], laidTests := true, laidLooks := .later }
def PieceSmallUptoCardSaid : Prop := Claim7.holds Tryd.pinned (.plain (OpenSpec.upto pieceSmallSpec)) pieceSmallUptoCard

/-- THE SECOND FORM's CARD OF 'quilllaw15.PieceBig'. -/
def pieceBigUptoCard : Claim7 := { stood := { row := pieceBigUptoRow, standIns := [], harness := (true, "873295af7207535663e6598a1affe8d529317456ebd6d21b9ef4dc26e5f93cb3"), looks := false }, kinds := [], alts := [], laidByText := true, laidKinds := [.data, .pinned], laidTests := true, laidLooks := .later }
def PieceBigUptoCardSaid : Prop := Claim7.holds Tryd.pinned (.plain (OpenSpec.upto pieceBigSpec)) pieceBigUptoCard

/-- THE SECOND FORM's CARD OF 'quilllaw15.PieceRound'. -/
def pieceRoundUptoCard : Claim7 := { stood := { row := pieceRoundUptoRow, standIns := [], harness := (true, "873295af7207535663e6598a1affe8d529317456ebd6d21b9ef4dc26e5f93cb3"), looks := false }, kinds := [], alts := [], laidByText := true, laidKinds := [.data, .pinned], laidTests := true, laidLooks := .later }
def PieceRoundUptoCardSaid : Prop := Claim7.holds Tryd.pinned (.plain (OpenSpec.upto pieceRoundSpec)) pieceRoundUptoCard

/-- THE SECOND FORM's CARD OF 'quilllaw15.PieceCurly'. -/
def pieceCurlyUptoCard : Claim7 := { stood := { row := pieceCurlyUptoRow, standIns := [], harness := (true, "873295af7207535663e6598a1affe8d529317456ebd6d21b9ef4dc26e5f93cb3"), looks := false }, kinds := [], alts := [], laidByText := true, laidKinds := [.data, .pinned], laidTests := true, laidLooks := .later }
def PieceCurlyUptoCardSaid : Prop := Claim7.holds Tryd.pinned (.plain (OpenSpec.upto pieceCurlySpec)) pieceCurlyUptoCard
end Rows
end Go.Proofs.YtohmhjeimeilcaaDoor
