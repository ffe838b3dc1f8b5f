/-
  NARROWER THAN 'FOR EVERY INPUT', by the rows' own cells (each row's printed sentence says how): PairsMates: laid · PairsBack: laid · ObjectWords: laid · ObjectQuotes: laid · ObjectPairs: laid · ObjectParas: laid · ObjectWithin: laid · PieceSmall: laid · PieceBig: laid · PieceRound: laid · PieceCurly: laid.
  DERIVED. THE GIVEN ROWS OF THIS SEAT. 11 by the template 'for every input the law returns true; each argument reads behind the call as it read before'; 0 by the template 'total and deterministic' (their statements: YtohmhjeimeilcaaDoorTotals.lean).
  GIVEN WITH THE SEED: the statements are not yours to turn. If you find one false, say at which input.
  Laid BY PROGRAM, IN A SANDBOX (cutbox-rows.mjs): the forced cells as the released guide's own fill.sh prints them over the translation 8adca8e867dd96d1… (all of the seat's roots in one cut). By AI agents, Wed Nov 11 2026. No macro, syntax, notation, axiom, sorry.
-/
import Derived.Test.YtohmhjeimeilcaaDoorChecked
import GoSem.PinnedTables
import GoSem.Claim
import GoSem.ClaimJoined
import GoSem.ClaimMapViews
import Derived.JoinedTies
import Derived.KernelRfl
namespace Go.Proofs.YtohmhjeimeilcaaDoor
/- THE CELL 'sum', in the pinned program and in every row, IS THE sha256 OF THE DUMP (.gsa) THAT YtohmhjeimeilcaaDoorProg.lean LOADS. Nothing in Lean hashes anything: it is a label: what it is worth is what the hold of that sum in a sandbox is worth. -/
noncomputable def Tryd.pinned : Pinned := { name := "ytohmhjeimeilcaadoor", sum := "8adca8e867dd96d11e5d987a13d2b1bfea58bd63b290b5b0c3ca048ad90fb555", checked := Tryd.checked }
namespace Rows
def none {H : Type} : Left H := { results := [], args := [] }

/- WHAT THE LISTED PACKAGE-LEVEL VARIABLES READ AS WHEN THE CALL BEGINS. Each datum BY PROGRAM (the guide's laid-datum.mjs) off the statement by which the dump's own 'gosem.cut.vars' lays the variable. In a bare row this is a premise. The card (YtohmhjeimeilcaaDoorCards.lean) ties it to the program's text. -/
def laid_unicode_utf8_acceptRanges {H : Type} : DataW H := .agg [.agg [.lit (.int .u8 128), .lit (.int .u8 191)], .agg [.lit (.int .u8 160), .lit (.int .u8 191)], .agg [.lit (.int .u8 128), .lit (.int .u8 159)], .agg [.lit (.int .u8 144), .lit (.int .u8 191)], .agg [.lit (.int .u8 128), .lit (.int .u8 143)], .agg [.lit (.int .u8 0), .lit (.int .u8 0)], .agg [.lit (.int .u8 0), .lit (.int .u8 0)], .agg [.lit (.int .u8 0), .lit (.int .u8 0)], .agg [.lit (.int .u8 0), .lit (.int .u8 0)], .agg [.lit (.int .u8 0), .lit (.int .u8 0)], .agg [.lit (.int .u8 0), .lit (.int .u8 0)], .agg [.lit (.int .u8 0), .lit (.int .u8 0)], .agg [.lit (.int .u8 0), .lit (.int .u8 0)], .agg [.lit (.int .u8 0), .lit (.int .u8 0)], .agg [.lit (.int .u8 0), .lit (.int .u8 0)], .agg [.lit (.int .u8 0), .lit (.int .u8 0)]]
/-- One of Go's own tables, pinned by name: the form's constant. -/
def laid_unicode_utf8_first : DataW Unit := Go.Pinned.utf8First

/-- 'quilllaw14.PairsMates': WHATEVER THE INPUT: true; the input reads as it did. -/
def pairsMatesSpec : ChangeSpec := { name := "pairsMates", fn := fun _ => fun
  | [d] => { results := [.lit (.bool true)], args := [d] }
  | _ => none }
def pairsMatesRow : OpenClaim := { program := "ytohmhjeimeilcaadoor", sum := "8adca8e867dd96d11e5d987a13d2b1bfea58bd63b290b5b0c3ca048ad90fb555", func := "quill/quilllaw14.PairsMates", spec := "pairsMates", inPlace := ["internal/bytealg.IndexByteString", "internal/bytealg.IndexString"], named := ["unicode/utf8.first", "unicode/utf8.acceptRanges", "internal/bytealg.MaxLen"], apart := false, laid := [("unicode/utf8.acceptRanges", laid_unicode_utf8_acceptRanges), ("unicode/utf8.first", laid_unicode_utf8_first)] }
def PairsMatesSaid : Prop := pairsMatesRow.holds Tryd.pinned (OpenSpec.ofChange pairsMatesSpec)

/-- ITS FALSE NEIGHBOUR: 'it returns false'. Refute it at one input. -/
def pairsMatesWrong : ChangeSpec := { name := "pairsMates", fn := fun _ => fun
  | [d] => { results := [.lit (.bool false)], args := [d] }
  | _ => none }
def PairsMatesWrongFalsely : Prop := pairsMatesRow.holds Tryd.pinned (OpenSpec.ofChange pairsMatesWrong)

/-- 'quilllaw14.PairsBack': WHATEVER THE INPUT: true; the input reads as it did. -/
def pairsBackSpec : ChangeSpec := { name := "pairsBack", fn := fun _ => fun
  | [d] => { results := [.lit (.bool true)], args := [d] }
  | _ => none }
def pairsBackRow : OpenClaim := { program := "ytohmhjeimeilcaadoor", sum := "8adca8e867dd96d11e5d987a13d2b1bfea58bd63b290b5b0c3ca048ad90fb555", func := "quill/quilllaw14.PairsBack", spec := "pairsBack", inPlace := ["internal/bytealg.IndexByteString", "internal/bytealg.IndexString"], named := ["unicode/utf8.first", "unicode/utf8.acceptRanges", "internal/bytealg.MaxLen"], apart := false, laid := [("unicode/utf8.acceptRanges", laid_unicode_utf8_acceptRanges), ("unicode/utf8.first", laid_unicode_utf8_first)] }
def PairsBackSaid : Prop := pairsBackRow.holds Tryd.pinned (OpenSpec.ofChange pairsBackSpec)

/-- ITS FALSE NEIGHBOUR: 'it returns false'. Refute it at one input. -/
def pairsBackWrong : ChangeSpec := { name := "pairsBack", fn := fun _ => fun
  | [d] => { results := [.lit (.bool false)], args := [d] }
  | _ => none }
def PairsBackWrongFalsely : Prop := pairsBackRow.holds Tryd.pinned (OpenSpec.ofChange pairsBackWrong)

/-- 'quilllaw15.ObjectWords': WHATEVER THE INPUT: true; the input reads as it did. -/
def objectWordsSpec : ChangeSpec := { name := "objectWords", fn := fun _ => fun
  | [d] => { results := [.lit (.bool true)], args := [d] }
  | _ => none }
def objectWordsRow : OpenClaim := { program := "ytohmhjeimeilcaadoor", sum := "8adca8e867dd96d11e5d987a13d2b1bfea58bd63b290b5b0c3ca048ad90fb555", func := "quill/quilllaw15.ObjectWords", spec := "objectWords", inPlace := ["internal/bytealg.IndexByteString", "internal/bytealg.IndexString"], named := ["unicode/utf8.first", "unicode/utf8.acceptRanges", "internal/bytealg.MaxLen"], apart := false, laid := [("unicode/utf8.acceptRanges", laid_unicode_utf8_acceptRanges), ("unicode/utf8.first", laid_unicode_utf8_first)] }
def ObjectWordsSaid : Prop := objectWordsRow.holds Tryd.pinned (OpenSpec.ofChange objectWordsSpec)

/-- ITS FALSE NEIGHBOUR: 'it returns false'. Refute it at one input. -/
def objectWordsWrong : ChangeSpec := { name := "objectWords", fn := fun _ => fun
  | [d] => { results := [.lit (.bool false)], args := [d] }
  | _ => none }
def ObjectWordsWrongFalsely : Prop := objectWordsRow.holds Tryd.pinned (OpenSpec.ofChange objectWordsWrong)

/-- 'quilllaw15.ObjectQuotes': WHATEVER THE INPUT: true; the input reads as it did. -/
def objectQuotesSpec : ChangeSpec := { name := "objectQuotes", fn := fun _ => fun
  | [d] => { results := [.lit (.bool true)], args := [d] }
  | _ => none }
def objectQuotesRow : OpenClaim := { program := "ytohmhjeimeilcaadoor", sum := "8adca8e867dd96d11e5d987a13d2b1bfea58bd63b290b5b0c3ca048ad90fb555", func := "quill/quilllaw15.ObjectQuotes", spec := "objectQuotes", inPlace := ["internal/bytealg.IndexByteString", "internal/bytealg.IndexString"], named := ["unicode/utf8.first", "unicode/utf8.acceptRanges", "internal/bytealg.MaxLen"], apart := false, laid := [("unicode/utf8.acceptRanges", laid_unicode_utf8_acceptRanges), ("unicode/utf8.first", laid_unicode_utf8_first)] }
def ObjectQuotesSaid : Prop := objectQuotesRow.holds Tryd.pinned (OpenSpec.ofChange objectQuotesSpec)

/-- ITS FALSE NEIGHBOUR: 'it returns false'. Refute it at one input. -/
def objectQuotesWrong : ChangeSpec := { name := "objectQuotes", fn := fun _ => fun
  | [d] => { results := [.lit (.bool false)], args := [d] }
  | _ => none }
def ObjectQuotesWrongFalsely : Prop := objectQuotesRow.holds Tryd.pinned (OpenSpec.ofChange objectQuotesWrong)

/-- 'quilllaw15.ObjectPairs': WHATEVER THE INPUT: true; the input reads as it did. -/
def objectPairsSpec : ChangeSpec := { name := "objectPairs", fn := fun _ => fun
  | [d] => { results := [.lit (.bool true)], args := [d] }
  | _ => none }
def objectPairsRow : OpenClaim := { program := "ytohmhjeimeilcaadoor", sum := "8adca8e867dd96d11e5d987a13d2b1bfea58bd63b290b5b0c3ca048ad90fb555", func := "quill/quilllaw15.ObjectPairs", spec := "objectPairs", inPlace := ["internal/bytealg.IndexByteString", "internal/bytealg.IndexString"], named := ["unicode/utf8.first", "unicode/utf8.acceptRanges", "internal/bytealg.MaxLen"], apart := false, laid := [("unicode/utf8.acceptRanges", laid_unicode_utf8_acceptRanges), ("unicode/utf8.first", laid_unicode_utf8_first)] }
def ObjectPairsSaid : Prop := objectPairsRow.holds Tryd.pinned (OpenSpec.ofChange objectPairsSpec)

/-- ITS FALSE NEIGHBOUR: 'it returns false'. Refute it at one input. -/
def objectPairsWrong : ChangeSpec := { name := "objectPairs", fn := fun _ => fun
  | [d] => { results := [.lit (.bool false)], args := [d] }
  | _ => none }
def ObjectPairsWrongFalsely : Prop := objectPairsRow.holds Tryd.pinned (OpenSpec.ofChange objectPairsWrong)

/-- 'quilllaw15.ObjectParas': WHATEVER THE INPUT: true; the input reads as it did. -/
def objectParasSpec : ChangeSpec := { name := "objectParas", fn := fun _ => fun
  | [d] => { results := [.lit (.bool true)], args := [d] }
  | _ => none }
def objectParasRow : OpenClaim := { program := "ytohmhjeimeilcaadoor", sum := "8adca8e867dd96d11e5d987a13d2b1bfea58bd63b290b5b0c3ca048ad90fb555", func := "quill/quilllaw15.ObjectParas", spec := "objectParas", inPlace := ["internal/bytealg.IndexByteString", "internal/bytealg.IndexString"], named := ["unicode/utf8.first", "unicode/utf8.acceptRanges", "internal/bytealg.MaxLen"], apart := false, laid := [("unicode/utf8.acceptRanges", laid_unicode_utf8_acceptRanges), ("unicode/utf8.first", laid_unicode_utf8_first)] }
def ObjectParasSaid : Prop := objectParasRow.holds Tryd.pinned (OpenSpec.ofChange objectParasSpec)

/-- ITS FALSE NEIGHBOUR: 'it returns false'. Refute it at one input. -/
def objectParasWrong : ChangeSpec := { name := "objectParas", fn := fun _ => fun
  | [d] => { results := [.lit (.bool false)], args := [d] }
  | _ => none }
def ObjectParasWrongFalsely : Prop := objectParasRow.holds Tryd.pinned (OpenSpec.ofChange objectParasWrong)

/-- 'quilllaw15.ObjectWithin': WHATEVER THE INPUT: true; the input reads as it did. -/
def objectWithinSpec : ChangeSpec := { name := "objectWithin", fn := fun _ => fun
  | [d] => { results := [.lit (.bool true)], args := [d] }
  | _ => none }
def objectWithinRow : OpenClaim := { program := "ytohmhjeimeilcaadoor", sum := "8adca8e867dd96d11e5d987a13d2b1bfea58bd63b290b5b0c3ca048ad90fb555", func := "quill/quilllaw15.ObjectWithin", spec := "objectWithin", inPlace := ["internal/bytealg.IndexByteString", "internal/bytealg.IndexString"], named := ["unicode/utf8.first", "unicode/utf8.acceptRanges", "internal/bytealg.MaxLen"], apart := false, laid := [("unicode/utf8.acceptRanges", laid_unicode_utf8_acceptRanges), ("unicode/utf8.first", laid_unicode_utf8_first)] }
def ObjectWithinSaid : Prop := objectWithinRow.holds Tryd.pinned (OpenSpec.ofChange objectWithinSpec)

/-- ITS FALSE NEIGHBOUR: 'it returns false'. Refute it at one input. -/
def objectWithinWrong : ChangeSpec := { name := "objectWithin", fn := fun _ => fun
  | [d] => { results := [.lit (.bool false)], args := [d] }
  | _ => none }
def ObjectWithinWrongFalsely : Prop := objectWithinRow.holds Tryd.pinned (OpenSpec.ofChange objectWithinWrong)

/-- 'quilllaw15.PieceSmall': WHATEVER THE INPUT: true; the input reads as it did. -/
def pieceSmallSpec : ChangeSpec := { name := "pieceSmall", fn := fun _ => fun
  | [d] => { results := [.lit (.bool true)], args := [d] }
  | _ => none }
def pieceSmallRow : OpenClaim := { program := "ytohmhjeimeilcaadoor", sum := "8adca8e867dd96d11e5d987a13d2b1bfea58bd63b290b5b0c3ca048ad90fb555", func := "quill/quilllaw15.PieceSmall", spec := "pieceSmall", inPlace := ["internal/bytealg.IndexByteString", "internal/bytealg.IndexString"], named := ["unicode/utf8.first", "unicode/utf8.acceptRanges", "internal/bytealg.MaxLen"], apart := false, laid := [("unicode/utf8.acceptRanges", laid_unicode_utf8_acceptRanges), ("unicode/utf8.first", laid_unicode_utf8_first)] }
def PieceSmallSaid : Prop := pieceSmallRow.holds Tryd.pinned (OpenSpec.ofChange pieceSmallSpec)

/-- ITS FALSE NEIGHBOUR: 'it returns false'. Refute it at one input. -/
def pieceSmallWrong : ChangeSpec := { name := "pieceSmall", fn := fun _ => fun
  | [d] => { results := [.lit (.bool false)], args := [d] }
  | _ => none }
def PieceSmallWrongFalsely : Prop := pieceSmallRow.holds Tryd.pinned (OpenSpec.ofChange pieceSmallWrong)

/-- 'quilllaw15.PieceBig': WHATEVER THE INPUT: true; the input reads as it did. -/
def pieceBigSpec : ChangeSpec := { name := "pieceBig", fn := fun _ => fun
  | [d] => { results := [.lit (.bool true)], args := [d] }
  | _ => none }
def pieceBigRow : OpenClaim := { program := "ytohmhjeimeilcaadoor", sum := "8adca8e867dd96d11e5d987a13d2b1bfea58bd63b290b5b0c3ca048ad90fb555", func := "quill/quilllaw15.PieceBig", spec := "pieceBig", inPlace := ["internal/bytealg.IndexByteString", "internal/bytealg.IndexString"], named := ["unicode/utf8.first", "unicode/utf8.acceptRanges", "internal/bytealg.MaxLen"], apart := false, laid := [("unicode/utf8.acceptRanges", laid_unicode_utf8_acceptRanges), ("unicode/utf8.first", laid_unicode_utf8_first)] }
def PieceBigSaid : Prop := pieceBigRow.holds Tryd.pinned (OpenSpec.ofChange pieceBigSpec)

/-- ITS FALSE NEIGHBOUR: 'it returns false'. Refute it at one input. -/
def pieceBigWrong : ChangeSpec := { name := "pieceBig", fn := fun _ => fun
  | [d] => { results := [.lit (.bool false)], args := [d] }
  | _ => none }
def PieceBigWrongFalsely : Prop := pieceBigRow.holds Tryd.pinned (OpenSpec.ofChange pieceBigWrong)

/-- 'quilllaw15.PieceRound': WHATEVER THE INPUT: true; the input reads as it did. -/
def pieceRoundSpec : ChangeSpec := { name := "pieceRound", fn := fun _ => fun
  | [d] => { results := [.lit (.bool true)], args := [d] }
  | _ => none }
def pieceRoundRow : OpenClaim := { program := "ytohmhjeimeilcaadoor", sum := "8adca8e867dd96d11e5d987a13d2b1bfea58bd63b290b5b0c3ca048ad90fb555", func := "quill/quilllaw15.PieceRound", spec := "pieceRound", inPlace := ["internal/bytealg.IndexByteString", "internal/bytealg.IndexString"], named := ["unicode/utf8.first", "unicode/utf8.acceptRanges", "internal/bytealg.MaxLen"], apart := false, laid := [("unicode/utf8.acceptRanges", laid_unicode_utf8_acceptRanges), ("unicode/utf8.first", laid_unicode_utf8_first)] }
def PieceRoundSaid : Prop := pieceRoundRow.holds Tryd.pinned (OpenSpec.ofChange pieceRoundSpec)

/-- ITS FALSE NEIGHBOUR: 'it returns false'. Refute it at one input. -/
def pieceRoundWrong : ChangeSpec := { name := "pieceRound", fn := fun _ => fun
  | [d] => { results := [.lit (.bool false)], args := [d] }
  | _ => none }
def PieceRoundWrongFalsely : Prop := pieceRoundRow.holds Tryd.pinned (OpenSpec.ofChange pieceRoundWrong)

/-- 'quilllaw15.PieceCurly': WHATEVER THE INPUT: true; the input reads as it did. -/
def pieceCurlySpec : ChangeSpec := { name := "pieceCurly", fn := fun _ => fun
  | [d] => { results := [.lit (.bool true)], args := [d] }
  | _ => none }
def pieceCurlyRow : OpenClaim := { program := "ytohmhjeimeilcaadoor", sum := "8adca8e867dd96d11e5d987a13d2b1bfea58bd63b290b5b0c3ca048ad90fb555", func := "quill/quilllaw15.PieceCurly", spec := "pieceCurly", inPlace := ["internal/bytealg.IndexByteString", "internal/bytealg.IndexString"], named := ["unicode/utf8.first", "unicode/utf8.acceptRanges", "internal/bytealg.MaxLen"], apart := false, laid := [("unicode/utf8.acceptRanges", laid_unicode_utf8_acceptRanges), ("unicode/utf8.first", laid_unicode_utf8_first)] }
def PieceCurlySaid : Prop := pieceCurlyRow.holds Tryd.pinned (OpenSpec.ofChange pieceCurlySpec)

/-- ITS FALSE NEIGHBOUR: 'it returns false'. Refute it at one input. -/
def pieceCurlyWrong : ChangeSpec := { name := "pieceCurly", fn := fun _ => fun
  | [d] => { results := [.lit (.bool false)], args := [d] }
  | _ => none }
def PieceCurlyWrongFalsely : Prop := pieceCurlyRow.holds Tryd.pinned (OpenSpec.ofChange pieceCurlyWrong)

/- THE SECOND FORM. 'bulk': how many values and letters a reading holds, each counted each time it is reached (what is shared counts as often as it is met; a slice's spare places count too). A statement '..UptoSaid' is the law's where the arguments, and the package variables that the reading takes, are together of bulk at most 1048576: NARROWER than '..Said'. Prove '..Said' where nothing that the law and all that it calls make is longer than what came in: it says more and counts as full. Else prove '..UptoSaid'. A law counts once. -/
mutual
def uptoBulk {H : Type} : DataW H → Nat
  | .lit (.string bytes) => bytes.length + 1
  | .lit _ => 1
  | .nil => 1
  | .ptr d => uptoBulk d + 1
  | .slice elems spare => uptoBulkAll elems + uptoBulkAll spare + 1
  | .agg parts => uptoBulkAll parts + 1
  | .iface _ d => uptoBulk d + 1
  | .map entries => uptoBulkEntries entries + 1
  | .held _ => 1
def uptoBulkAll {H : Type} : List (DataW H) → Nat
  | [] => 0
  | d :: r => uptoBulk d + uptoBulkAll r
def uptoBulkEntries {H : Type} : List (Lit × DataW H) → Nat
  | [] => 0
  | x :: r => uptoBulkEntry x + uptoBulkEntries r
def uptoBulkEntry {H : Type} : Lit × DataW H → Nat
  | (.string bytes, d) => bytes.length + uptoBulk d + 1
  | (_, d) => uptoBulk d + 1
 end
def uptoSmall : (H : Type) → List (DataW H) → Bool := fun _ ds => decide (uptoBulkAll ds ≤ 1048576)
def OpenSpec.upto (s : _root_.Go.ChangeSpec) : _root_.Go.OpenSpec := { _root_.Go.OpenSpec.ofChange s with cond := some uptoSmall }

/-- 'quilllaw14.PairsMates', WHERE WHAT IT READS IS OF BULK AT MOST 1048576: true; the input reads as it did. -/
def pairsMatesUptoRow : OpenClaim := { program := "ytohmhjeimeilcaadoor", sum := "8adca8e867dd96d11e5d987a13d2b1bfea58bd63b290b5b0c3ca048ad90fb555", func := "quill/quilllaw14.PairsMates", spec := "pairsMates", inPlace := ["internal/bytealg.IndexByteString", "internal/bytealg.IndexString"], named := ["unicode/utf8.first", "unicode/utf8.acceptRanges", "internal/bytealg.MaxLen"], apart := false, laid := [("unicode/utf8.acceptRanges", laid_unicode_utf8_acceptRanges), ("unicode/utf8.first", laid_unicode_utf8_first)], narrowed := true }
def PairsMatesUptoSaid : Prop := pairsMatesUptoRow.holds Tryd.pinned (OpenSpec.upto pairsMatesSpec)

/-- 'quilllaw14.PairsBack', WHERE WHAT IT READS IS OF BULK AT MOST 1048576: true; the input reads as it did. -/
def pairsBackUptoRow : OpenClaim := { program := "ytohmhjeimeilcaadoor", sum := "8adca8e867dd96d11e5d987a13d2b1bfea58bd63b290b5b0c3ca048ad90fb555", func := "quill/quilllaw14.PairsBack", spec := "pairsBack", inPlace := ["internal/bytealg.IndexByteString", "internal/bytealg.IndexString"], named := ["unicode/utf8.first", "unicode/utf8.acceptRanges", "internal/bytealg.MaxLen"], apart := false, laid := [("unicode/utf8.acceptRanges", laid_unicode_utf8_acceptRanges), ("unicode/utf8.first", laid_unicode_utf8_first)], narrowed := true }
def PairsBackUptoSaid : Prop := pairsBackUptoRow.holds Tryd.pinned (OpenSpec.upto pairsBackSpec)

/-- 'quilllaw15.ObjectWords', WHERE WHAT IT READS IS OF BULK AT MOST 1048576: true; the input reads as it did. -/
def objectWordsUptoRow : OpenClaim := { program := "ytohmhjeimeilcaadoor", sum := "8adca8e867dd96d11e5d987a13d2b1bfea58bd63b290b5b0c3ca048ad90fb555", func := "quill/quilllaw15.ObjectWords", spec := "objectWords", inPlace := ["internal/bytealg.IndexByteString", "internal/bytealg.IndexString"], named := ["unicode/utf8.first", "unicode/utf8.acceptRanges", "internal/bytealg.MaxLen"], apart := false, laid := [("unicode/utf8.acceptRanges", laid_unicode_utf8_acceptRanges), ("unicode/utf8.first", laid_unicode_utf8_first)], narrowed := true }
def ObjectWordsUptoSaid : Prop := objectWordsUptoRow.holds Tryd.pinned (OpenSpec.upto objectWordsSpec)

/-- 'quilllaw15.ObjectQuotes', WHERE WHAT IT READS IS OF BULK AT MOST 1048576: true; the input reads as it did. -/
def objectQuotesUptoRow : OpenClaim := { program := "ytohmhjeimeilcaadoor", sum := "8adca8e867dd96d11e5d987a13d2b1bfea58bd63b290b5b0c3ca048ad90fb555", func := "quill/quilllaw15.ObjectQuotes", spec := "objectQuotes", inPlace := ["internal/bytealg.IndexByteString", "internal/bytealg.IndexString"], named := ["unicode/utf8.first", "unicode/utf8.acceptRanges", "internal/bytealg.MaxLen"], apart := false, laid := [("unicode/utf8.acceptRanges", laid_unicode_utf8_acceptRanges), ("unicode/utf8.first", laid_unicode_utf8_first)], narrowed := true }
def ObjectQuotesUptoSaid : Prop := objectQuotesUptoRow.holds Tryd.pinned (OpenSpec.upto objectQuotesSpec)

/-- 'quilllaw15.ObjectPairs', WHERE WHAT IT READS IS OF BULK AT MOST 1048576: true; the input reads as it did. -/
def objectPairsUptoRow : OpenClaim := { program := "ytohmhjeimeilcaadoor", sum := "8adca8e867dd96d11e5d987a13d2b1bfea58bd63b290b5b0c3ca048ad90fb555", func := "quill/quilllaw15.ObjectPairs", spec := "objectPairs", inPlace := ["internal/bytealg.IndexByteString", "internal/bytealg.IndexString"], named := ["unicode/utf8.first", "unicode/utf8.acceptRanges", "internal/bytealg.MaxLen"], apart := false, laid := [("unicode/utf8.acceptRanges", laid_unicode_utf8_acceptRanges), ("unicode/utf8.first", laid_unicode_utf8_first)], narrowed := true }
def ObjectPairsUptoSaid : Prop := objectPairsUptoRow.holds Tryd.pinned (OpenSpec.upto objectPairsSpec)

/-- 'quilllaw15.ObjectParas', WHERE WHAT IT READS IS OF BULK AT MOST 1048576: true; the input reads as it did. -/
def objectParasUptoRow : OpenClaim := { program := "ytohmhjeimeilcaadoor", sum := "8adca8e867dd96d11e5d987a13d2b1bfea58bd63b290b5b0c3ca048ad90fb555", func := "quill/quilllaw15.ObjectParas", spec := "objectParas", inPlace := ["internal/bytealg.IndexByteString", "internal/bytealg.IndexString"], named := ["unicode/utf8.first", "unicode/utf8.acceptRanges", "internal/bytealg.MaxLen"], apart := false, laid := [("unicode/utf8.acceptRanges", laid_unicode_utf8_acceptRanges), ("unicode/utf8.first", laid_unicode_utf8_first)], narrowed := true }
def ObjectParasUptoSaid : Prop := objectParasUptoRow.holds Tryd.pinned (OpenSpec.upto objectParasSpec)

/-- 'quilllaw15.ObjectWithin', WHERE WHAT IT READS IS OF BULK AT MOST 1048576: true; the input reads as it did. -/
def objectWithinUptoRow : OpenClaim := { program := "ytohmhjeimeilcaadoor", sum := "8adca8e867dd96d11e5d987a13d2b1bfea58bd63b290b5b0c3ca048ad90fb555", func := "quill/quilllaw15.ObjectWithin", spec := "objectWithin", inPlace := ["internal/bytealg.IndexByteString", "internal/bytealg.IndexString"], named := ["unicode/utf8.first", "unicode/utf8.acceptRanges", "internal/bytealg.MaxLen"], apart := false, laid := [("unicode/utf8.acceptRanges", laid_unicode_utf8_acceptRanges), ("unicode/utf8.first", laid_unicode_utf8_first)], narrowed := true }
def ObjectWithinUptoSaid : Prop := objectWithinUptoRow.holds Tryd.pinned (OpenSpec.upto objectWithinSpec)

/-- 'quilllaw15.PieceSmall', WHERE WHAT IT READS IS OF BULK AT MOST 1048576: true; the input reads as it did. -/
def pieceSmallUptoRow : OpenClaim := { program := "ytohmhjeimeilcaadoor", sum := "8adca8e867dd96d11e5d987a13d2b1bfea58bd63b290b5b0c3ca048ad90fb555", func := "quill/quilllaw15.PieceSmall", spec := "pieceSmall", inPlace := ["internal/bytealg.IndexByteString", "internal/bytealg.IndexString"], named := ["unicode/utf8.first", "unicode/utf8.acceptRanges", "internal/bytealg.MaxLen"], apart := false, laid := [("unicode/utf8.acceptRanges", laid_unicode_utf8_acceptRanges), ("unicode/utf8.first", laid_unicode_utf8_first)], narrowed := true }
def PieceSmallUptoSaid : Prop := pieceSmallUptoRow.holds Tryd.pinned (OpenSpec.upto pieceSmallSpec)

/-- 'quilllaw15.PieceBig', WHERE WHAT IT READS IS OF BULK AT MOST 1048576: true; the input reads as it did. -/
def pieceBigUptoRow : OpenClaim := { program := "ytohmhjeimeilcaadoor", sum := "8adca8e867dd96d11e5d987a13d2b1bfea58bd63b290b5b0c3ca048ad90fb555", func := "quill/quilllaw15.PieceBig", spec := "pieceBig", inPlace := ["internal/bytealg.IndexByteString", "internal/bytealg.IndexString"], named := ["unicode/utf8.first", "unicode/utf8.acceptRanges", "internal/bytealg.MaxLen"], apart := false, laid := [("unicode/utf8.acceptRanges", laid_unicode_utf8_acceptRanges), ("unicode/utf8.first", laid_unicode_utf8_first)], narrowed := true }
def PieceBigUptoSaid : Prop := pieceBigUptoRow.holds Tryd.pinned (OpenSpec.upto pieceBigSpec)

/-- 'quilllaw15.PieceRound', WHERE WHAT IT READS IS OF BULK AT MOST 1048576: true; the input reads as it did. -/
def pieceRoundUptoRow : OpenClaim := { program := "ytohmhjeimeilcaadoor", sum := "8adca8e867dd96d11e5d987a13d2b1bfea58bd63b290b5b0c3ca048ad90fb555", func := "quill/quilllaw15.PieceRound", spec := "pieceRound", inPlace := ["internal/bytealg.IndexByteString", "internal/bytealg.IndexString"], named := ["unicode/utf8.first", "unicode/utf8.acceptRanges", "internal/bytealg.MaxLen"], apart := false, laid := [("unicode/utf8.acceptRanges", laid_unicode_utf8_acceptRanges), ("unicode/utf8.first", laid_unicode_utf8_first)], narrowed := true }
def PieceRoundUptoSaid : Prop := pieceRoundUptoRow.holds Tryd.pinned (OpenSpec.upto pieceRoundSpec)

/-- 'quilllaw15.PieceCurly', WHERE WHAT IT READS IS OF BULK AT MOST 1048576: true; the input reads as it did. -/
def pieceCurlyUptoRow : OpenClaim := { program := "ytohmhjeimeilcaadoor", sum := "8adca8e867dd96d11e5d987a13d2b1bfea58bd63b290b5b0c3ca048ad90fb555", func := "quill/quilllaw15.PieceCurly", spec := "pieceCurly", inPlace := ["internal/bytealg.IndexByteString", "internal/bytealg.IndexString"], named := ["unicode/utf8.first", "unicode/utf8.acceptRanges", "internal/bytealg.MaxLen"], apart := false, laid := [("unicode/utf8.acceptRanges", laid_unicode_utf8_acceptRanges), ("unicode/utf8.first", laid_unicode_utf8_first)], narrowed := true }
def PieceCurlyUptoSaid : Prop := pieceCurlyUptoRow.holds Tryd.pinned (OpenSpec.upto pieceCurlySpec)

end Rows
end Go.Proofs.YtohmhjeimeilcaaDoor
