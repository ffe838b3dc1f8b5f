/-
  NARROWER THAN 'FOR EVERY INPUT', by the rows' own cells (each row's printed sentence says how): TextRests: laid · WordsBegin: laid · WordsBack: laid · WordsEnd: laid · WordsCells: laid · WordsWalk: laid · WordW: laid · WordB: laid · WordE: laid · WordBigW: laid · WordBigB: laid · WordBigE: laid · LinesFirst: laid.
  DERIVED. THE GIVEN ROWS OF THIS SEAT. 13 by the template 'for every input the law returns true; each argument reads behind the call as it read before'; 0 by the template 'total and deterministic' (their statements: YtclmcieegoobkaaDoorTotals.lean).
  GIVEN WITH THE SEED: the statements are not yours to turn. If you find one false, say at which input.
  Laid BY PROGRAM, IN A SANDBOX (cutbox-rows.mjs): the forced cells as the released guide's own fill.sh prints them over the translation e52860ca9b528bbc… (all of the seat's roots in one cut). By AI agents, Wed Nov 11 2026. No macro, syntax, notation, axiom, sorry.
-/
import Derived.Test.YtclmcieegoobkaaDoorChecked
import GoSem.PinnedTables
import GoSem.Claim
import GoSem.ClaimJoined
import GoSem.ClaimMapViews
import Derived.JoinedTies
import Derived.KernelRfl
namespace Go.Proofs.YtclmcieegoobkaaDoor
/- THE CELL 'sum', in the pinned program and in every row, IS THE sha256 OF THE DUMP (.gsa) THAT YtclmcieegoobkaaDoorProg.lean LOADS. Nothing in Lean hashes anything: it is a label: what it is worth is what the hold of that sum in a sandbox is worth. -/
noncomputable def Tryd.pinned : Pinned := { name := "ytclmcieegoobkaadoor", sum := "e52860ca9b528bbc73d503049a045151b71565007ea994f61670ba3a4dfb75ce", checked := Tryd.checked }
namespace Rows
def none {H : Type} : Left H := { results := [], args := [] }

/- WHAT THE LISTED PACKAGE-LEVEL VARIABLES READ AS WHEN THE CALL BEGINS. Each datum BY PROGRAM (the guide's laid-datum.mjs) off the statement by which the dump's own 'gosem.cut.vars' lays the variable. In a bare row this is a premise. The card (YtclmcieegoobkaaDoorCards.lean) ties it to the program's text. -/
def laid_unicode_utf8_acceptRanges {H : Type} : DataW H := .agg [.agg [.lit (.int .u8 128), .lit (.int .u8 191)], .agg [.lit (.int .u8 160), .lit (.int .u8 191)], .agg [.lit (.int .u8 128), .lit (.int .u8 159)], .agg [.lit (.int .u8 144), .lit (.int .u8 191)], .agg [.lit (.int .u8 128), .lit (.int .u8 143)], .agg [.lit (.int .u8 0), .lit (.int .u8 0)], .agg [.lit (.int .u8 0), .lit (.int .u8 0)], .agg [.lit (.int .u8 0), .lit (.int .u8 0)], .agg [.lit (.int .u8 0), .lit (.int .u8 0)], .agg [.lit (.int .u8 0), .lit (.int .u8 0)], .agg [.lit (.int .u8 0), .lit (.int .u8 0)], .agg [.lit (.int .u8 0), .lit (.int .u8 0)], .agg [.lit (.int .u8 0), .lit (.int .u8 0)], .agg [.lit (.int .u8 0), .lit (.int .u8 0)], .agg [.lit (.int .u8 0), .lit (.int .u8 0)], .agg [.lit (.int .u8 0), .lit (.int .u8 0)]]
/-- One of Go's own tables, pinned by name: the form's constant. -/
def laid_unicode_utf8_first : DataW Unit := Go.Pinned.utf8First

/-- 'quilllaw1.TextRests': WHATEVER THE INPUT: true; the input reads as it did. -/
def textRestsSpec : ChangeSpec := { name := "textRests", fn := fun _ => fun
  | [d] => { results := [.lit (.bool true)], args := [d] }
  | _ => none }
def textRestsRow : OpenClaim := { program := "ytclmcieegoobkaadoor", sum := "e52860ca9b528bbc73d503049a045151b71565007ea994f61670ba3a4dfb75ce", func := "quill/quilllaw1.TextRests", spec := "textRests", named := ["unicode/utf8.first", "unicode/utf8.acceptRanges"], apart := false, laid := [("unicode/utf8.acceptRanges", laid_unicode_utf8_acceptRanges), ("unicode/utf8.first", laid_unicode_utf8_first)] }
def TextRestsSaid : Prop := textRestsRow.holds Tryd.pinned (OpenSpec.ofChange textRestsSpec)

/-- ITS FALSE NEIGHBOUR: 'it returns false'. Refute it at one input. -/
def textRestsWrong : ChangeSpec := { name := "textRests", fn := fun _ => fun
  | [d] => { results := [.lit (.bool false)], args := [d] }
  | _ => none }
def TextRestsWrongFalsely : Prop := textRestsRow.holds Tryd.pinned (OpenSpec.ofChange textRestsWrong)

/-- 'quilllaw10.WordsBegin': WHATEVER THE INPUT: true; the input reads as it did. -/
def wordsBeginSpec : ChangeSpec := { name := "wordsBegin", fn := fun _ => fun
  | [d] => { results := [.lit (.bool true)], args := [d] }
  | _ => none }
def wordsBeginRow : OpenClaim := { program := "ytclmcieegoobkaadoor", sum := "e52860ca9b528bbc73d503049a045151b71565007ea994f61670ba3a4dfb75ce", func := "quill/quilllaw10.WordsBegin", spec := "wordsBegin", unfollowed := true, recurses := true, named := ["unicode/utf8.first", "unicode/utf8.acceptRanges"], apart := false, laid := [("unicode/utf8.acceptRanges", laid_unicode_utf8_acceptRanges), ("unicode/utf8.first", laid_unicode_utf8_first)] }
def WordsBeginSaid : Prop := wordsBeginRow.holds Tryd.pinned (OpenSpec.ofChange wordsBeginSpec)

/-- ITS FALSE NEIGHBOUR: 'it returns false'. Refute it at one input. -/
def wordsBeginWrong : ChangeSpec := { name := "wordsBegin", fn := fun _ => fun
  | [d] => { results := [.lit (.bool false)], args := [d] }
  | _ => none }
def WordsBeginWrongFalsely : Prop := wordsBeginRow.holds Tryd.pinned (OpenSpec.ofChange wordsBeginWrong)

/-- 'quilllaw10.WordsBack': WHATEVER THE INPUT: true; the input reads as it did. -/
def wordsBackSpec : ChangeSpec := { name := "wordsBack", fn := fun _ => fun
  | [d] => { results := [.lit (.bool true)], args := [d] }
  | _ => none }
def wordsBackRow : OpenClaim := { program := "ytclmcieegoobkaadoor", sum := "e52860ca9b528bbc73d503049a045151b71565007ea994f61670ba3a4dfb75ce", func := "quill/quilllaw10.WordsBack", spec := "wordsBack", unfollowed := true, recurses := true, named := ["unicode/utf8.first", "unicode/utf8.acceptRanges"], apart := false, laid := [("unicode/utf8.acceptRanges", laid_unicode_utf8_acceptRanges), ("unicode/utf8.first", laid_unicode_utf8_first)] }
def WordsBackSaid : Prop := wordsBackRow.holds Tryd.pinned (OpenSpec.ofChange wordsBackSpec)

/-- ITS FALSE NEIGHBOUR: 'it returns false'. Refute it at one input. -/
def wordsBackWrong : ChangeSpec := { name := "wordsBack", fn := fun _ => fun
  | [d] => { results := [.lit (.bool false)], args := [d] }
  | _ => none }
def WordsBackWrongFalsely : Prop := wordsBackRow.holds Tryd.pinned (OpenSpec.ofChange wordsBackWrong)

/-- 'quilllaw10.WordsEnd': WHATEVER THE INPUT: true; the input reads as it did. -/
def wordsEndSpec : ChangeSpec := { name := "wordsEnd", fn := fun _ => fun
  | [d] => { results := [.lit (.bool true)], args := [d] }
  | _ => none }
def wordsEndRow : OpenClaim := { program := "ytclmcieegoobkaadoor", sum := "e52860ca9b528bbc73d503049a045151b71565007ea994f61670ba3a4dfb75ce", func := "quill/quilllaw10.WordsEnd", spec := "wordsEnd", unfollowed := true, recurses := true, named := ["unicode/utf8.first", "unicode/utf8.acceptRanges"], apart := false, laid := [("unicode/utf8.acceptRanges", laid_unicode_utf8_acceptRanges), ("unicode/utf8.first", laid_unicode_utf8_first)] }
def WordsEndSaid : Prop := wordsEndRow.holds Tryd.pinned (OpenSpec.ofChange wordsEndSpec)

/-- ITS FALSE NEIGHBOUR: 'it returns false'. Refute it at one input. -/
def wordsEndWrong : ChangeSpec := { name := "wordsEnd", fn := fun _ => fun
  | [d] => { results := [.lit (.bool false)], args := [d] }
  | _ => none }
def WordsEndWrongFalsely : Prop := wordsEndRow.holds Tryd.pinned (OpenSpec.ofChange wordsEndWrong)

/-- 'quilllaw10.WordsCells': WHATEVER THE INPUT: true; the input reads as it did. -/
def wordsCellsSpec : ChangeSpec := { name := "wordsCells", fn := fun _ => fun
  | [d] => { results := [.lit (.bool true)], args := [d] }
  | _ => none }
def wordsCellsRow : OpenClaim := { program := "ytclmcieegoobkaadoor", sum := "e52860ca9b528bbc73d503049a045151b71565007ea994f61670ba3a4dfb75ce", func := "quill/quilllaw10.WordsCells", spec := "wordsCells", unfollowed := true, recurses := true, named := ["unicode/utf8.first", "unicode/utf8.acceptRanges"], apart := false, laid := [("unicode/utf8.acceptRanges", laid_unicode_utf8_acceptRanges), ("unicode/utf8.first", laid_unicode_utf8_first)] }
def WordsCellsSaid : Prop := wordsCellsRow.holds Tryd.pinned (OpenSpec.ofChange wordsCellsSpec)

/-- ITS FALSE NEIGHBOUR: 'it returns false'. Refute it at one input. -/
def wordsCellsWrong : ChangeSpec := { name := "wordsCells", fn := fun _ => fun
  | [d] => { results := [.lit (.bool false)], args := [d] }
  | _ => none }
def WordsCellsWrongFalsely : Prop := wordsCellsRow.holds Tryd.pinned (OpenSpec.ofChange wordsCellsWrong)

/-- 'quilllaw10.WordsWalk': WHATEVER THE INPUT: true; the input reads as it did. -/
def wordsWalkSpec : ChangeSpec := { name := "wordsWalk", fn := fun _ => fun
  | [d] => { results := [.lit (.bool true)], args := [d] }
  | _ => none }
def wordsWalkRow : OpenClaim := { program := "ytclmcieegoobkaadoor", sum := "e52860ca9b528bbc73d503049a045151b71565007ea994f61670ba3a4dfb75ce", func := "quill/quilllaw10.WordsWalk", spec := "wordsWalk", unfollowed := true, recurses := true, named := ["unicode/utf8.first", "unicode/utf8.acceptRanges"], apart := false, laid := [("unicode/utf8.acceptRanges", laid_unicode_utf8_acceptRanges), ("unicode/utf8.first", laid_unicode_utf8_first)] }
def WordsWalkSaid : Prop := wordsWalkRow.holds Tryd.pinned (OpenSpec.ofChange wordsWalkSpec)

/-- ITS FALSE NEIGHBOUR: 'it returns false'. Refute it at one input. -/
def wordsWalkWrong : ChangeSpec := { name := "wordsWalk", fn := fun _ => fun
  | [d] => { results := [.lit (.bool false)], args := [d] }
  | _ => none }
def WordsWalkWrongFalsely : Prop := wordsWalkRow.holds Tryd.pinned (OpenSpec.ofChange wordsWalkWrong)

/-- 'quilllaw10.WordW': WHATEVER THE INPUT: true; the input reads as it did. -/
def wordWSpec : ChangeSpec := { name := "wordW", fn := fun _ => fun
  | [d] => { results := [.lit (.bool true)], args := [d] }
  | _ => none }
def wordWRow : OpenClaim := { program := "ytclmcieegoobkaadoor", sum := "e52860ca9b528bbc73d503049a045151b71565007ea994f61670ba3a4dfb75ce", func := "quill/quilllaw10.WordW", spec := "wordW", unfollowed := true, recurses := true, named := ["unicode/utf8.first", "unicode/utf8.acceptRanges"], apart := false, laid := [("unicode/utf8.acceptRanges", laid_unicode_utf8_acceptRanges), ("unicode/utf8.first", laid_unicode_utf8_first)] }
def WordWSaid : Prop := wordWRow.holds Tryd.pinned (OpenSpec.ofChange wordWSpec)

/-- ITS FALSE NEIGHBOUR: 'it returns false'. Refute it at one input. -/
def wordWWrong : ChangeSpec := { name := "wordW", fn := fun _ => fun
  | [d] => { results := [.lit (.bool false)], args := [d] }
  | _ => none }
def WordWWrongFalsely : Prop := wordWRow.holds Tryd.pinned (OpenSpec.ofChange wordWWrong)

/-- 'quilllaw10.WordB': WHATEVER THE INPUT: true; the input reads as it did. -/
def wordBSpec : ChangeSpec := { name := "wordB", fn := fun _ => fun
  | [d] => { results := [.lit (.bool true)], args := [d] }
  | _ => none }
def wordBRow : OpenClaim := { program := "ytclmcieegoobkaadoor", sum := "e52860ca9b528bbc73d503049a045151b71565007ea994f61670ba3a4dfb75ce", func := "quill/quilllaw10.WordB", spec := "wordB", unfollowed := true, recurses := true, named := ["unicode/utf8.first", "unicode/utf8.acceptRanges"], apart := false, laid := [("unicode/utf8.acceptRanges", laid_unicode_utf8_acceptRanges), ("unicode/utf8.first", laid_unicode_utf8_first)] }
def WordBSaid : Prop := wordBRow.holds Tryd.pinned (OpenSpec.ofChange wordBSpec)

/-- ITS FALSE NEIGHBOUR: 'it returns false'. Refute it at one input. -/
def wordBWrong : ChangeSpec := { name := "wordB", fn := fun _ => fun
  | [d] => { results := [.lit (.bool false)], args := [d] }
  | _ => none }
def WordBWrongFalsely : Prop := wordBRow.holds Tryd.pinned (OpenSpec.ofChange wordBWrong)

/-- 'quilllaw10.WordE': WHATEVER THE INPUT: true; the input reads as it did. -/
def wordESpec : ChangeSpec := { name := "wordE", fn := fun _ => fun
  | [d] => { results := [.lit (.bool true)], args := [d] }
  | _ => none }
def wordERow : OpenClaim := { program := "ytclmcieegoobkaadoor", sum := "e52860ca9b528bbc73d503049a045151b71565007ea994f61670ba3a4dfb75ce", func := "quill/quilllaw10.WordE", spec := "wordE", unfollowed := true, recurses := true, named := ["unicode/utf8.first", "unicode/utf8.acceptRanges"], apart := false, laid := [("unicode/utf8.acceptRanges", laid_unicode_utf8_acceptRanges), ("unicode/utf8.first", laid_unicode_utf8_first)] }
def WordESaid : Prop := wordERow.holds Tryd.pinned (OpenSpec.ofChange wordESpec)

/-- ITS FALSE NEIGHBOUR: 'it returns false'. Refute it at one input. -/
def wordEWrong : ChangeSpec := { name := "wordE", fn := fun _ => fun
  | [d] => { results := [.lit (.bool false)], args := [d] }
  | _ => none }
def WordEWrongFalsely : Prop := wordERow.holds Tryd.pinned (OpenSpec.ofChange wordEWrong)

/-- 'quilllaw10.WordBigW': WHATEVER THE INPUT: true; the input reads as it did. -/
def wordBigWSpec : ChangeSpec := { name := "wordBigW", fn := fun _ => fun
  | [d] => { results := [.lit (.bool true)], args := [d] }
  | _ => none }
def wordBigWRow : OpenClaim := { program := "ytclmcieegoobkaadoor", sum := "e52860ca9b528bbc73d503049a045151b71565007ea994f61670ba3a4dfb75ce", func := "quill/quilllaw10.WordBigW", spec := "wordBigW", unfollowed := true, recurses := true, named := ["unicode/utf8.first", "unicode/utf8.acceptRanges"], apart := false, laid := [("unicode/utf8.acceptRanges", laid_unicode_utf8_acceptRanges), ("unicode/utf8.first", laid_unicode_utf8_first)] }
def WordBigWSaid : Prop := wordBigWRow.holds Tryd.pinned (OpenSpec.ofChange wordBigWSpec)

/-- ITS FALSE NEIGHBOUR: 'it returns false'. Refute it at one input. -/
def wordBigWWrong : ChangeSpec := { name := "wordBigW", fn := fun _ => fun
  | [d] => { results := [.lit (.bool false)], args := [d] }
  | _ => none }
def WordBigWWrongFalsely : Prop := wordBigWRow.holds Tryd.pinned (OpenSpec.ofChange wordBigWWrong)

/-- 'quilllaw10.WordBigB': WHATEVER THE INPUT: true; the input reads as it did. -/
def wordBigBSpec : ChangeSpec := { name := "wordBigB", fn := fun _ => fun
  | [d] => { results := [.lit (.bool true)], args := [d] }
  | _ => none }
def wordBigBRow : OpenClaim := { program := "ytclmcieegoobkaadoor", sum := "e52860ca9b528bbc73d503049a045151b71565007ea994f61670ba3a4dfb75ce", func := "quill/quilllaw10.WordBigB", spec := "wordBigB", unfollowed := true, recurses := true, named := ["unicode/utf8.first", "unicode/utf8.acceptRanges"], apart := false, laid := [("unicode/utf8.acceptRanges", laid_unicode_utf8_acceptRanges), ("unicode/utf8.first", laid_unicode_utf8_first)] }
def WordBigBSaid : Prop := wordBigBRow.holds Tryd.pinned (OpenSpec.ofChange wordBigBSpec)

/-- ITS FALSE NEIGHBOUR: 'it returns false'. Refute it at one input. -/
def wordBigBWrong : ChangeSpec := { name := "wordBigB", fn := fun _ => fun
  | [d] => { results := [.lit (.bool false)], args := [d] }
  | _ => none }
def WordBigBWrongFalsely : Prop := wordBigBRow.holds Tryd.pinned (OpenSpec.ofChange wordBigBWrong)

/-- 'quilllaw10.WordBigE': WHATEVER THE INPUT: true; the input reads as it did. -/
def wordBigESpec : ChangeSpec := { name := "wordBigE", fn := fun _ => fun
  | [d] => { results := [.lit (.bool true)], args := [d] }
  | _ => none }
def wordBigERow : OpenClaim := { program := "ytclmcieegoobkaadoor", sum := "e52860ca9b528bbc73d503049a045151b71565007ea994f61670ba3a4dfb75ce", func := "quill/quilllaw10.WordBigE", spec := "wordBigE", unfollowed := true, recurses := true, named := ["unicode/utf8.first", "unicode/utf8.acceptRanges"], apart := false, laid := [("unicode/utf8.acceptRanges", laid_unicode_utf8_acceptRanges), ("unicode/utf8.first", laid_unicode_utf8_first)] }
def WordBigESaid : Prop := wordBigERow.holds Tryd.pinned (OpenSpec.ofChange wordBigESpec)

/-- ITS FALSE NEIGHBOUR: 'it returns false'. Refute it at one input. -/
def wordBigEWrong : ChangeSpec := { name := "wordBigE", fn := fun _ => fun
  | [d] => { results := [.lit (.bool false)], args := [d] }
  | _ => none }
def WordBigEWrongFalsely : Prop := wordBigERow.holds Tryd.pinned (OpenSpec.ofChange wordBigEWrong)

/-- 'quilllaw12.LinesFirst': WHATEVER THE INPUT: true; the input reads as it did. -/
def linesFirstSpec : ChangeSpec := { name := "linesFirst", fn := fun _ => fun
  | [d] => { results := [.lit (.bool true)], args := [d] }
  | _ => none }
def linesFirstRow : OpenClaim := { program := "ytclmcieegoobkaadoor", sum := "e52860ca9b528bbc73d503049a045151b71565007ea994f61670ba3a4dfb75ce", func := "quill/quilllaw12.LinesFirst", spec := "linesFirst", inPlace := ["internal/bytealg.CountString", "internal/bytealg.IndexByteString", "internal/bytealg.IndexString"], named := ["unicode/utf8.first", "unicode/utf8.acceptRanges", "internal/bytealg.MaxLen"], apart := false, laid := [("unicode/utf8.acceptRanges", laid_unicode_utf8_acceptRanges), ("unicode/utf8.first", laid_unicode_utf8_first)] }
def LinesFirstSaid : Prop := linesFirstRow.holds Tryd.pinned (OpenSpec.ofChange linesFirstSpec)

/-- ITS FALSE NEIGHBOUR: 'it returns false'. Refute it at one input. -/
def linesFirstWrong : ChangeSpec := { name := "linesFirst", fn := fun _ => fun
  | [d] => { results := [.lit (.bool false)], args := [d] }
  | _ => none }
def LinesFirstWrongFalsely : Prop := linesFirstRow.holds Tryd.pinned (OpenSpec.ofChange linesFirstWrong)

/- THE SECOND FORM. 'bulk': how many values and letters a reading holds, each counted each time it is reached (what is shared counts as often as it is met; a slice's spare places count too). A statement '..UptoSaid' is the law's where the arguments, and the package variables that the reading takes, are together of bulk at most 1048576: NARROWER than '..Said'. Prove '..Said' where nothing that the law and all that it calls make is longer than what came in: it says more and counts as full. Else prove '..UptoSaid'. A law counts once. -/
mutual
def uptoBulk {H : Type} : DataW H → Nat
  | .lit (.string bytes) => bytes.length + 1
  | .lit _ => 1
  | .nil => 1
  | .ptr d => uptoBulk d + 1
  | .slice elems spare => uptoBulkAll elems + uptoBulkAll spare + 1
  | .agg parts => uptoBulkAll parts + 1
  | .iface _ d => uptoBulk d + 1
  | .map entries => uptoBulkEntries entries + 1
  | .held _ => 1
def uptoBulkAll {H : Type} : List (DataW H) → Nat
  | [] => 0
  | d :: r => uptoBulk d + uptoBulkAll r
def uptoBulkEntries {H : Type} : List (Lit × DataW H) → Nat
  | [] => 0
  | x :: r => uptoBulkEntry x + uptoBulkEntries r
def uptoBulkEntry {H : Type} : Lit × DataW H → Nat
  | (.string bytes, d) => bytes.length + uptoBulk d + 1
  | (_, d) => uptoBulk d + 1
 end
def uptoSmall : (H : Type) → List (DataW H) → Bool := fun _ ds => decide (uptoBulkAll ds ≤ 1048576)
def OpenSpec.upto (s : _root_.Go.ChangeSpec) : _root_.Go.OpenSpec := { _root_.Go.OpenSpec.ofChange s with cond := some uptoSmall }

/-- 'quilllaw1.TextRests', WHERE WHAT IT READS IS OF BULK AT MOST 1048576: true; the input reads as it did. -/
def textRestsUptoRow : OpenClaim := { program := "ytclmcieegoobkaadoor", sum := "e52860ca9b528bbc73d503049a045151b71565007ea994f61670ba3a4dfb75ce", func := "quill/quilllaw1.TextRests", spec := "textRests", named := ["unicode/utf8.first", "unicode/utf8.acceptRanges"], apart := false, laid := [("unicode/utf8.acceptRanges", laid_unicode_utf8_acceptRanges), ("unicode/utf8.first", laid_unicode_utf8_first)], narrowed := true }
def TextRestsUptoSaid : Prop := textRestsUptoRow.holds Tryd.pinned (OpenSpec.upto textRestsSpec)

/-- 'quilllaw10.WordsBegin', WHERE WHAT IT READS IS OF BULK AT MOST 1048576: true; the input reads as it did. -/
def wordsBeginUptoRow : OpenClaim := { program := "ytclmcieegoobkaadoor", sum := "e52860ca9b528bbc73d503049a045151b71565007ea994f61670ba3a4dfb75ce", func := "quill/quilllaw10.WordsBegin", spec := "wordsBegin", unfollowed := true, recurses := true, named := ["unicode/utf8.first", "unicode/utf8.acceptRanges"], apart := false, laid := [("unicode/utf8.acceptRanges", laid_unicode_utf8_acceptRanges), ("unicode/utf8.first", laid_unicode_utf8_first)], narrowed := true }
def WordsBeginUptoSaid : Prop := wordsBeginUptoRow.holds Tryd.pinned (OpenSpec.upto wordsBeginSpec)

/-- 'quilllaw10.WordsBack', WHERE WHAT IT READS IS OF BULK AT MOST 1048576: true; the input reads as it did. -/
def wordsBackUptoRow : OpenClaim := { program := "ytclmcieegoobkaadoor", sum := "e52860ca9b528bbc73d503049a045151b71565007ea994f61670ba3a4dfb75ce", func := "quill/quilllaw10.WordsBack", spec := "wordsBack", unfollowed := true, recurses := true, named := ["unicode/utf8.first", "unicode/utf8.acceptRanges"], apart := false, laid := [("unicode/utf8.acceptRanges", laid_unicode_utf8_acceptRanges), ("unicode/utf8.first", laid_unicode_utf8_first)], narrowed := true }
def WordsBackUptoSaid : Prop := wordsBackUptoRow.holds Tryd.pinned (OpenSpec.upto wordsBackSpec)

/-- 'quilllaw10.WordsEnd', WHERE WHAT IT READS IS OF BULK AT MOST 1048576: true; the input reads as it did. -/
def wordsEndUptoRow : OpenClaim := { program := "ytclmcieegoobkaadoor", sum := "e52860ca9b528bbc73d503049a045151b71565007ea994f61670ba3a4dfb75ce", func := "quill/quilllaw10.WordsEnd", spec := "wordsEnd", unfollowed := true, recurses := true, named := ["unicode/utf8.first", "unicode/utf8.acceptRanges"], apart := false, laid := [("unicode/utf8.acceptRanges", laid_unicode_utf8_acceptRanges), ("unicode/utf8.first", laid_unicode_utf8_first)], narrowed := true }
def WordsEndUptoSaid : Prop := wordsEndUptoRow.holds Tryd.pinned (OpenSpec.upto wordsEndSpec)

/-- 'quilllaw10.WordsCells', WHERE WHAT IT READS IS OF BULK AT MOST 1048576: true; the input reads as it did. -/
def wordsCellsUptoRow : OpenClaim := { program := "ytclmcieegoobkaadoor", sum := "e52860ca9b528bbc73d503049a045151b71565007ea994f61670ba3a4dfb75ce", func := "quill/quilllaw10.WordsCells", spec := "wordsCells", unfollowed := true, recurses := true, named := ["unicode/utf8.first", "unicode/utf8.acceptRanges"], apart := false, laid := [("unicode/utf8.acceptRanges", laid_unicode_utf8_acceptRanges), ("unicode/utf8.first", laid_unicode_utf8_first)], narrowed := true }
def WordsCellsUptoSaid : Prop := wordsCellsUptoRow.holds Tryd.pinned (OpenSpec.upto wordsCellsSpec)

/-- 'quilllaw10.WordsWalk', WHERE WHAT IT READS IS OF BULK AT MOST 1048576: true; the input reads as it did. -/
def wordsWalkUptoRow : OpenClaim := { program := "ytclmcieegoobkaadoor", sum := "e52860ca9b528bbc73d503049a045151b71565007ea994f61670ba3a4dfb75ce", func := "quill/quilllaw10.WordsWalk", spec := "wordsWalk", unfollowed := true, recurses := true, named := ["unicode/utf8.first", "unicode/utf8.acceptRanges"], apart := false, laid := [("unicode/utf8.acceptRanges", laid_unicode_utf8_acceptRanges), ("unicode/utf8.first", laid_unicode_utf8_first)], narrowed := true }
def WordsWalkUptoSaid : Prop := wordsWalkUptoRow.holds Tryd.pinned (OpenSpec.upto wordsWalkSpec)

/-- 'quilllaw10.WordW', WHERE WHAT IT READS IS OF BULK AT MOST 1048576: true; the input reads as it did. -/
def wordWUptoRow : OpenClaim := { program := "ytclmcieegoobkaadoor", sum := "e52860ca9b528bbc73d503049a045151b71565007ea994f61670ba3a4dfb75ce", func := "quill/quilllaw10.WordW", spec := "wordW", unfollowed := true, recurses := true, named := ["unicode/utf8.first", "unicode/utf8.acceptRanges"], apart := false, laid := [("unicode/utf8.acceptRanges", laid_unicode_utf8_acceptRanges), ("unicode/utf8.first", laid_unicode_utf8_first)], narrowed := true }
def WordWUptoSaid : Prop := wordWUptoRow.holds Tryd.pinned (OpenSpec.upto wordWSpec)

/-- 'quilllaw10.WordB', WHERE WHAT IT READS IS OF BULK AT MOST 1048576: true; the input reads as it did. -/
def wordBUptoRow : OpenClaim := { program := "ytclmcieegoobkaadoor", sum := "e52860ca9b528bbc73d503049a045151b71565007ea994f61670ba3a4dfb75ce", func := "quill/quilllaw10.WordB", spec := "wordB", unfollowed := true, recurses := true, named := ["unicode/utf8.first", "unicode/utf8.acceptRanges"], apart := false, laid := [("unicode/utf8.acceptRanges", laid_unicode_utf8_acceptRanges), ("unicode/utf8.first", laid_unicode_utf8_first)], narrowed := true }
def WordBUptoSaid : Prop := wordBUptoRow.holds Tryd.pinned (OpenSpec.upto wordBSpec)

/-- 'quilllaw10.WordE', WHERE WHAT IT READS IS OF BULK AT MOST 1048576: true; the input reads as it did. -/
def wordEUptoRow : OpenClaim := { program := "ytclmcieegoobkaadoor", sum := "e52860ca9b528bbc73d503049a045151b71565007ea994f61670ba3a4dfb75ce", func := "quill/quilllaw10.WordE", spec := "wordE", unfollowed := true, recurses := true, named := ["unicode/utf8.first", "unicode/utf8.acceptRanges"], apart := false, laid := [("unicode/utf8.acceptRanges", laid_unicode_utf8_acceptRanges), ("unicode/utf8.first", laid_unicode_utf8_first)], narrowed := true }
def WordEUptoSaid : Prop := wordEUptoRow.holds Tryd.pinned (OpenSpec.upto wordESpec)

/-- 'quilllaw10.WordBigW', WHERE WHAT IT READS IS OF BULK AT MOST 1048576: true; the input reads as it did. -/
def wordBigWUptoRow : OpenClaim := { program := "ytclmcieegoobkaadoor", sum := "e52860ca9b528bbc73d503049a045151b71565007ea994f61670ba3a4dfb75ce", func := "quill/quilllaw10.WordBigW", spec := "wordBigW", unfollowed := true, recurses := true, named := ["unicode/utf8.first", "unicode/utf8.acceptRanges"], apart := false, laid := [("unicode/utf8.acceptRanges", laid_unicode_utf8_acceptRanges), ("unicode/utf8.first", laid_unicode_utf8_first)], narrowed := true }
def WordBigWUptoSaid : Prop := wordBigWUptoRow.holds Tryd.pinned (OpenSpec.upto wordBigWSpec)

/-- 'quilllaw10.WordBigB', WHERE WHAT IT READS IS OF BULK AT MOST 1048576: true; the input reads as it did. -/
def wordBigBUptoRow : OpenClaim := { program := "ytclmcieegoobkaadoor", sum := "e52860ca9b528bbc73d503049a045151b71565007ea994f61670ba3a4dfb75ce", func := "quill/quilllaw10.WordBigB", spec := "wordBigB", unfollowed := true, recurses := true, named := ["unicode/utf8.first", "unicode/utf8.acceptRanges"], apart := false, laid := [("unicode/utf8.acceptRanges", laid_unicode_utf8_acceptRanges), ("unicode/utf8.first", laid_unicode_utf8_first)], narrowed := true }
def WordBigBUptoSaid : Prop := wordBigBUptoRow.holds Tryd.pinned (OpenSpec.upto wordBigBSpec)

/-- 'quilllaw10.WordBigE', WHERE WHAT IT READS IS OF BULK AT MOST 1048576: true; the input reads as it did. -/
def wordBigEUptoRow : OpenClaim := { program := "ytclmcieegoobkaadoor", sum := "e52860ca9b528bbc73d503049a045151b71565007ea994f61670ba3a4dfb75ce", func := "quill/quilllaw10.WordBigE", spec := "wordBigE", unfollowed := true, recurses := true, named := ["unicode/utf8.first", "unicode/utf8.acceptRanges"], apart := false, laid := [("unicode/utf8.acceptRanges", laid_unicode_utf8_acceptRanges), ("unicode/utf8.first", laid_unicode_utf8_first)], narrowed := true }
def WordBigEUptoSaid : Prop := wordBigEUptoRow.holds Tryd.pinned (OpenSpec.upto wordBigESpec)

/-- 'quilllaw12.LinesFirst', WHERE WHAT IT READS IS OF BULK AT MOST 1048576: true; the input reads as it did. -/
def linesFirstUptoRow : OpenClaim := { program := "ytclmcieegoobkaadoor", sum := "e52860ca9b528bbc73d503049a045151b71565007ea994f61670ba3a4dfb75ce", func := "quill/quilllaw12.LinesFirst", spec := "linesFirst", inPlace := ["internal/bytealg.CountString", "internal/bytealg.IndexByteString", "internal/bytealg.IndexString"], named := ["unicode/utf8.first", "unicode/utf8.acceptRanges", "internal/bytealg.MaxLen"], apart := false, laid := [("unicode/utf8.acceptRanges", laid_unicode_utf8_acceptRanges), ("unicode/utf8.first", laid_unicode_utf8_first)], narrowed := true }
def LinesFirstUptoSaid : Prop := linesFirstUptoRow.holds Tryd.pinned (OpenSpec.upto linesFirstSpec)

end Rows
end Go.Proofs.YtclmcieegoobkaaDoor
