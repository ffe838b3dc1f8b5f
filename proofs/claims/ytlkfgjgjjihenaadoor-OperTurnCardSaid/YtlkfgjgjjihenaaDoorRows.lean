/-
  NARROWER THAN 'FOR EVERY INPUT', by the rows' own cells (each row's printed sentence says how): ChangeDeletes: laid · ChangeChanges: laid · ChangeYanks: laid · ChangeShifts: laid · ChangeCases: laid · ChangeStays: laid · OperLower: laid · OperUpper: laid · OperTurn: laid · OperRight: laid · OperLeft: laid.
  DERIVED. THE GIVEN ROWS OF THIS SEAT. 11 by the template 'for every input the law returns true; each argument reads behind the call as it read before'; 0 by the template 'total and deterministic' (their statements: YtlkfgjgjjihenaaDoorTotals.lean).
  GIVEN WITH THE SEED: the statements are not yours to turn. If you find one false, say at which input.
  Laid BY PROGRAM, IN A SANDBOX (cutbox-rows.mjs): the forced cells as the released guide's own fill.sh prints them over the translation 92e7118fc25c5ff5… (all of the seat's roots in one cut). By AI agents, Wed Nov 11 2026. No macro, syntax, notation, axiom, sorry.
-/
import Derived.Test.YtlkfgjgjjihenaaDoorChecked
import GoSem.PinnedTables
import GoSem.Claim
import GoSem.ClaimJoined
import GoSem.ClaimMapViews
import Derived.JoinedTies
import Derived.KernelRfl
namespace Go.Proofs.YtlkfgjgjjihenaaDoor
/- THE CELL 'sum', in the pinned program and in every row, IS THE sha256 OF THE DUMP (.gsa) THAT YtlkfgjgjjihenaaDoorProg.lean LOADS. Nothing in Lean hashes anything: it is a label: what it is worth is what the hold of that sum in a sandbox is worth. -/
noncomputable def Tryd.pinned : Pinned := { name := "ytlkfgjgjjihenaadoor", sum := "92e7118fc25c5ff522435ea0402688676d1ff9a701bcde7be274712c3cf3bc63", checked := Tryd.checked }
namespace Rows
def none {H : Type} : Left H := { results := [], args := [] }

/- WHAT THE LISTED PACKAGE-LEVEL VARIABLES READ AS WHEN THE CALL BEGINS. Each datum BY PROGRAM (the guide's laid-datum.mjs) off the statement by which the dump's own 'gosem.cut.vars' lays the variable. In a bare row this is a premise. The card (YtlkfgjgjjihenaaDoorCards.lean) ties it to the program's text. -/
def laid_unicode_utf8_acceptRanges {H : Type} : DataW H := .agg [.agg [.lit (.int .u8 128), .lit (.int .u8 191)], .agg [.lit (.int .u8 160), .lit (.int .u8 191)], .agg [.lit (.int .u8 128), .lit (.int .u8 159)], .agg [.lit (.int .u8 144), .lit (.int .u8 191)], .agg [.lit (.int .u8 128), .lit (.int .u8 143)], .agg [.lit (.int .u8 0), .lit (.int .u8 0)], .agg [.lit (.int .u8 0), .lit (.int .u8 0)], .agg [.lit (.int .u8 0), .lit (.int .u8 0)], .agg [.lit (.int .u8 0), .lit (.int .u8 0)], .agg [.lit (.int .u8 0), .lit (.int .u8 0)], .agg [.lit (.int .u8 0), .lit (.int .u8 0)], .agg [.lit (.int .u8 0), .lit (.int .u8 0)], .agg [.lit (.int .u8 0), .lit (.int .u8 0)], .agg [.lit (.int .u8 0), .lit (.int .u8 0)], .agg [.lit (.int .u8 0), .lit (.int .u8 0)], .agg [.lit (.int .u8 0), .lit (.int .u8 0)]]
/-- One of Go's own tables, pinned by name: the form's constant. -/
def laid_unicode_utf8_first : DataW Unit := Go.Pinned.utf8First

/-- 'quilllaw18.ChangeDeletes': WHATEVER THE INPUT: true; the input reads as it did. -/
def changeDeletesSpec : ChangeSpec := { name := "changeDeletes", fn := fun _ => fun
  | [d] => { results := [.lit (.bool true)], args := [d] }
  | _ => none }
def changeDeletesRow : OpenClaim := { program := "ytlkfgjgjjihenaadoor", sum := "92e7118fc25c5ff522435ea0402688676d1ff9a701bcde7be274712c3cf3bc63", func := "quill/quilllaw18.ChangeDeletes", spec := "changeDeletes", inPlace := ["internal/bytealg.CountString", "internal/bytealg.IndexByteString", "internal/bytealg.IndexString", "internal/abi.NoEscape", "internal/bytealg.MakeNoZero"], named := ["unicode/utf8.first", "unicode/utf8.acceptRanges", "internal/bytealg.MaxLen"], apart := false, laid := [("unicode/utf8.acceptRanges", laid_unicode_utf8_acceptRanges), ("unicode/utf8.first", laid_unicode_utf8_first)] }
def ChangeDeletesSaid : Prop := changeDeletesRow.holds Tryd.pinned (OpenSpec.ofChange changeDeletesSpec)

/-- ITS FALSE NEIGHBOUR: 'it returns false'. Refute it at one input. -/
def changeDeletesWrong : ChangeSpec := { name := "changeDeletes", fn := fun _ => fun
  | [d] => { results := [.lit (.bool false)], args := [d] }
  | _ => none }
def ChangeDeletesWrongFalsely : Prop := changeDeletesRow.holds Tryd.pinned (OpenSpec.ofChange changeDeletesWrong)

/-- 'quilllaw18.ChangeChanges': WHATEVER THE INPUT: true; the input reads as it did. -/
def changeChangesSpec : ChangeSpec := { name := "changeChanges", fn := fun _ => fun
  | [d] => { results := [.lit (.bool true)], args := [d] }
  | _ => none }
def changeChangesRow : OpenClaim := { program := "ytlkfgjgjjihenaadoor", sum := "92e7118fc25c5ff522435ea0402688676d1ff9a701bcde7be274712c3cf3bc63", func := "quill/quilllaw18.ChangeChanges", spec := "changeChanges", inPlace := ["internal/bytealg.CountString", "internal/bytealg.IndexByteString", "internal/bytealg.IndexString", "internal/abi.NoEscape", "internal/bytealg.MakeNoZero"], named := ["unicode/utf8.first", "unicode/utf8.acceptRanges", "internal/bytealg.MaxLen"], apart := false, laid := [("unicode/utf8.acceptRanges", laid_unicode_utf8_acceptRanges), ("unicode/utf8.first", laid_unicode_utf8_first)] }
def ChangeChangesSaid : Prop := changeChangesRow.holds Tryd.pinned (OpenSpec.ofChange changeChangesSpec)

/-- ITS FALSE NEIGHBOUR: 'it returns false'. Refute it at one input. -/
def changeChangesWrong : ChangeSpec := { name := "changeChanges", fn := fun _ => fun
  | [d] => { results := [.lit (.bool false)], args := [d] }
  | _ => none }
def ChangeChangesWrongFalsely : Prop := changeChangesRow.holds Tryd.pinned (OpenSpec.ofChange changeChangesWrong)

/-- 'quilllaw18.ChangeYanks': WHATEVER THE INPUT: true; the input reads as it did. -/
def changeYanksSpec : ChangeSpec := { name := "changeYanks", fn := fun _ => fun
  | [d] => { results := [.lit (.bool true)], args := [d] }
  | _ => none }
def changeYanksRow : OpenClaim := { program := "ytlkfgjgjjihenaadoor", sum := "92e7118fc25c5ff522435ea0402688676d1ff9a701bcde7be274712c3cf3bc63", func := "quill/quilllaw18.ChangeYanks", spec := "changeYanks", inPlace := ["internal/bytealg.CountString", "internal/bytealg.IndexByteString", "internal/bytealg.IndexString", "internal/abi.NoEscape", "internal/bytealg.MakeNoZero"], named := ["unicode/utf8.first", "unicode/utf8.acceptRanges", "internal/bytealg.MaxLen"], apart := false, laid := [("unicode/utf8.acceptRanges", laid_unicode_utf8_acceptRanges), ("unicode/utf8.first", laid_unicode_utf8_first)] }
def ChangeYanksSaid : Prop := changeYanksRow.holds Tryd.pinned (OpenSpec.ofChange changeYanksSpec)

/-- ITS FALSE NEIGHBOUR: 'it returns false'. Refute it at one input. -/
def changeYanksWrong : ChangeSpec := { name := "changeYanks", fn := fun _ => fun
  | [d] => { results := [.lit (.bool false)], args := [d] }
  | _ => none }
def ChangeYanksWrongFalsely : Prop := changeYanksRow.holds Tryd.pinned (OpenSpec.ofChange changeYanksWrong)

/-- 'quilllaw18.ChangeShifts': WHATEVER THE INPUT: true; the input reads as it did. -/
def changeShiftsSpec : ChangeSpec := { name := "changeShifts", fn := fun _ => fun
  | [d] => { results := [.lit (.bool true)], args := [d] }
  | _ => none }
def changeShiftsRow : OpenClaim := { program := "ytlkfgjgjjihenaadoor", sum := "92e7118fc25c5ff522435ea0402688676d1ff9a701bcde7be274712c3cf3bc63", func := "quill/quilllaw18.ChangeShifts", spec := "changeShifts", inPlace := ["internal/bytealg.CountString", "internal/bytealg.IndexByteString", "internal/bytealg.IndexString", "internal/abi.NoEscape", "internal/bytealg.MakeNoZero"], named := ["unicode/utf8.first", "unicode/utf8.acceptRanges", "internal/bytealg.MaxLen"], apart := false, laid := [("unicode/utf8.acceptRanges", laid_unicode_utf8_acceptRanges), ("unicode/utf8.first", laid_unicode_utf8_first)] }
def ChangeShiftsSaid : Prop := changeShiftsRow.holds Tryd.pinned (OpenSpec.ofChange changeShiftsSpec)

/-- ITS FALSE NEIGHBOUR: 'it returns false'. Refute it at one input. -/
def changeShiftsWrong : ChangeSpec := { name := "changeShifts", fn := fun _ => fun
  | [d] => { results := [.lit (.bool false)], args := [d] }
  | _ => none }
def ChangeShiftsWrongFalsely : Prop := changeShiftsRow.holds Tryd.pinned (OpenSpec.ofChange changeShiftsWrong)

/-- 'quilllaw18.ChangeCases': WHATEVER THE INPUT: true; the input reads as it did. -/
def changeCasesSpec : ChangeSpec := { name := "changeCases", fn := fun _ => fun
  | [d] => { results := [.lit (.bool true)], args := [d] }
  | _ => none }
def changeCasesRow : OpenClaim := { program := "ytlkfgjgjjihenaadoor", sum := "92e7118fc25c5ff522435ea0402688676d1ff9a701bcde7be274712c3cf3bc63", func := "quill/quilllaw18.ChangeCases", spec := "changeCases", inPlace := ["internal/bytealg.CountString", "internal/bytealg.IndexByteString", "internal/bytealg.IndexString", "internal/abi.NoEscape", "internal/bytealg.MakeNoZero"], named := ["unicode/utf8.first", "unicode/utf8.acceptRanges", "internal/bytealg.MaxLen"], apart := false, laid := [("unicode/utf8.acceptRanges", laid_unicode_utf8_acceptRanges), ("unicode/utf8.first", laid_unicode_utf8_first)] }
def ChangeCasesSaid : Prop := changeCasesRow.holds Tryd.pinned (OpenSpec.ofChange changeCasesSpec)

/-- ITS FALSE NEIGHBOUR: 'it returns false'. Refute it at one input. -/
def changeCasesWrong : ChangeSpec := { name := "changeCases", fn := fun _ => fun
  | [d] => { results := [.lit (.bool false)], args := [d] }
  | _ => none }
def ChangeCasesWrongFalsely : Prop := changeCasesRow.holds Tryd.pinned (OpenSpec.ofChange changeCasesWrong)

/-- 'quilllaw18.ChangeStays': WHATEVER THE INPUT: true; the input reads as it did. -/
def changeStaysSpec : ChangeSpec := { name := "changeStays", fn := fun _ => fun
  | [d] => { results := [.lit (.bool true)], args := [d] }
  | _ => none }
def changeStaysRow : OpenClaim := { program := "ytlkfgjgjjihenaadoor", sum := "92e7118fc25c5ff522435ea0402688676d1ff9a701bcde7be274712c3cf3bc63", func := "quill/quilllaw18.ChangeStays", spec := "changeStays", inPlace := ["internal/bytealg.CountString", "internal/bytealg.IndexByteString", "internal/bytealg.IndexString", "internal/abi.NoEscape", "internal/bytealg.MakeNoZero"], named := ["unicode/utf8.first", "unicode/utf8.acceptRanges", "internal/bytealg.MaxLen"], apart := false, laid := [("unicode/utf8.acceptRanges", laid_unicode_utf8_acceptRanges), ("unicode/utf8.first", laid_unicode_utf8_first)] }
def ChangeStaysSaid : Prop := changeStaysRow.holds Tryd.pinned (OpenSpec.ofChange changeStaysSpec)

/-- ITS FALSE NEIGHBOUR: 'it returns false'. Refute it at one input. -/
def changeStaysWrong : ChangeSpec := { name := "changeStays", fn := fun _ => fun
  | [d] => { results := [.lit (.bool false)], args := [d] }
  | _ => none }
def ChangeStaysWrongFalsely : Prop := changeStaysRow.holds Tryd.pinned (OpenSpec.ofChange changeStaysWrong)

/-- 'quilllaw18.OperLower': WHATEVER THE INPUT: true; the input reads as it did. -/
def operLowerSpec : ChangeSpec := { name := "operLower", fn := fun _ => fun
  | [d] => { results := [.lit (.bool true)], args := [d] }
  | _ => none }
def operLowerRow : OpenClaim := { program := "ytlkfgjgjjihenaadoor", sum := "92e7118fc25c5ff522435ea0402688676d1ff9a701bcde7be274712c3cf3bc63", func := "quill/quilllaw18.OperLower", spec := "operLower", inPlace := ["internal/bytealg.CountString", "internal/bytealg.IndexByteString", "internal/bytealg.IndexString", "internal/abi.NoEscape", "internal/bytealg.MakeNoZero"], named := ["unicode/utf8.first", "unicode/utf8.acceptRanges", "internal/bytealg.MaxLen"], apart := false, laid := [("unicode/utf8.acceptRanges", laid_unicode_utf8_acceptRanges), ("unicode/utf8.first", laid_unicode_utf8_first)] }
def OperLowerSaid : Prop := operLowerRow.holds Tryd.pinned (OpenSpec.ofChange operLowerSpec)

/-- ITS FALSE NEIGHBOUR: 'it returns false'. Refute it at one input. -/
def operLowerWrong : ChangeSpec := { name := "operLower", fn := fun _ => fun
  | [d] => { results := [.lit (.bool false)], args := [d] }
  | _ => none }
def OperLowerWrongFalsely : Prop := operLowerRow.holds Tryd.pinned (OpenSpec.ofChange operLowerWrong)

/-- 'quilllaw18.OperUpper': WHATEVER THE INPUT: true; the input reads as it did. -/
def operUpperSpec : ChangeSpec := { name := "operUpper", fn := fun _ => fun
  | [d] => { results := [.lit (.bool true)], args := [d] }
  | _ => none }
def operUpperRow : OpenClaim := { program := "ytlkfgjgjjihenaadoor", sum := "92e7118fc25c5ff522435ea0402688676d1ff9a701bcde7be274712c3cf3bc63", func := "quill/quilllaw18.OperUpper", spec := "operUpper", inPlace := ["internal/bytealg.CountString", "internal/bytealg.IndexByteString", "internal/bytealg.IndexString", "internal/abi.NoEscape", "internal/bytealg.MakeNoZero"], named := ["unicode/utf8.first", "unicode/utf8.acceptRanges", "internal/bytealg.MaxLen"], apart := false, laid := [("unicode/utf8.acceptRanges", laid_unicode_utf8_acceptRanges), ("unicode/utf8.first", laid_unicode_utf8_first)] }
def OperUpperSaid : Prop := operUpperRow.holds Tryd.pinned (OpenSpec.ofChange operUpperSpec)

/-- ITS FALSE NEIGHBOUR: 'it returns false'. Refute it at one input. -/
def operUpperWrong : ChangeSpec := { name := "operUpper", fn := fun _ => fun
  | [d] => { results := [.lit (.bool false)], args := [d] }
  | _ => none }
def OperUpperWrongFalsely : Prop := operUpperRow.holds Tryd.pinned (OpenSpec.ofChange operUpperWrong)

/-- 'quilllaw18.OperTurn': WHATEVER THE INPUT: true; the input reads as it did. -/
def operTurnSpec : ChangeSpec := { name := "operTurn", fn := fun _ => fun
  | [d] => { results := [.lit (.bool true)], args := [d] }
  | _ => none }
def operTurnRow : OpenClaim := { program := "ytlkfgjgjjihenaadoor", sum := "92e7118fc25c5ff522435ea0402688676d1ff9a701bcde7be274712c3cf3bc63", func := "quill/quilllaw18.OperTurn", spec := "operTurn", inPlace := ["internal/bytealg.CountString", "internal/bytealg.IndexByteString", "internal/bytealg.IndexString", "internal/abi.NoEscape", "internal/bytealg.MakeNoZero"], named := ["unicode/utf8.first", "unicode/utf8.acceptRanges", "internal/bytealg.MaxLen"], apart := false, laid := [("unicode/utf8.acceptRanges", laid_unicode_utf8_acceptRanges), ("unicode/utf8.first", laid_unicode_utf8_first)] }
def OperTurnSaid : Prop := operTurnRow.holds Tryd.pinned (OpenSpec.ofChange operTurnSpec)

/-- ITS FALSE NEIGHBOUR: 'it returns false'. Refute it at one input. -/
def operTurnWrong : ChangeSpec := { name := "operTurn", fn := fun _ => fun
  | [d] => { results := [.lit (.bool false)], args := [d] }
  | _ => none }
def OperTurnWrongFalsely : Prop := operTurnRow.holds Tryd.pinned (OpenSpec.ofChange operTurnWrong)

/-- 'quilllaw18.OperRight': WHATEVER THE INPUT: true; the input reads as it did. -/
def operRightSpec : ChangeSpec := { name := "operRight", fn := fun _ => fun
  | [d] => { results := [.lit (.bool true)], args := [d] }
  | _ => none }
def operRightRow : OpenClaim := { program := "ytlkfgjgjjihenaadoor", sum := "92e7118fc25c5ff522435ea0402688676d1ff9a701bcde7be274712c3cf3bc63", func := "quill/quilllaw18.OperRight", spec := "operRight", inPlace := ["internal/bytealg.CountString", "internal/bytealg.IndexByteString", "internal/bytealg.IndexString", "internal/abi.NoEscape", "internal/bytealg.MakeNoZero"], named := ["unicode/utf8.first", "unicode/utf8.acceptRanges", "internal/bytealg.MaxLen"], apart := false, laid := [("unicode/utf8.acceptRanges", laid_unicode_utf8_acceptRanges), ("unicode/utf8.first", laid_unicode_utf8_first)] }
def OperRightSaid : Prop := operRightRow.holds Tryd.pinned (OpenSpec.ofChange operRightSpec)

/-- ITS FALSE NEIGHBOUR: 'it returns false'. Refute it at one input. -/
def operRightWrong : ChangeSpec := { name := "operRight", fn := fun _ => fun
  | [d] => { results := [.lit (.bool false)], args := [d] }
  | _ => none }
def OperRightWrongFalsely : Prop := operRightRow.holds Tryd.pinned (OpenSpec.ofChange operRightWrong)

/-- 'quilllaw18.OperLeft': WHATEVER THE INPUT: true; the input reads as it did. -/
def operLeftSpec : ChangeSpec := { name := "operLeft", fn := fun _ => fun
  | [d] => { results := [.lit (.bool true)], args := [d] }
  | _ => none }
def operLeftRow : OpenClaim := { program := "ytlkfgjgjjihenaadoor", sum := "92e7118fc25c5ff522435ea0402688676d1ff9a701bcde7be274712c3cf3bc63", func := "quill/quilllaw18.OperLeft", spec := "operLeft", inPlace := ["internal/bytealg.CountString", "internal/bytealg.IndexByteString", "internal/bytealg.IndexString", "internal/abi.NoEscape", "internal/bytealg.MakeNoZero"], named := ["unicode/utf8.first", "unicode/utf8.acceptRanges", "internal/bytealg.MaxLen"], apart := false, laid := [("unicode/utf8.acceptRanges", laid_unicode_utf8_acceptRanges), ("unicode/utf8.first", laid_unicode_utf8_first)] }
def OperLeftSaid : Prop := operLeftRow.holds Tryd.pinned (OpenSpec.ofChange operLeftSpec)

/-- ITS FALSE NEIGHBOUR: 'it returns false'. Refute it at one input. -/
def operLeftWrong : ChangeSpec := { name := "operLeft", fn := fun _ => fun
  | [d] => { results := [.lit (.bool false)], args := [d] }
  | _ => none }
def OperLeftWrongFalsely : Prop := operLeftRow.holds Tryd.pinned (OpenSpec.ofChange operLeftWrong)

/- THE SECOND FORM. 'bulk': how many values and letters a reading holds, each counted each time it is reached (what is shared counts as often as it is met; a slice's spare places count too). A statement '..UptoSaid' is the law's where the arguments, and the package variables that the reading takes, are together of bulk at most 1048576: NARROWER than '..Said'. Prove '..Said' where nothing that the law and all that it calls make is longer than what came in: it says more and counts as full. Else prove '..UptoSaid'. A law counts once. -/
mutual
def uptoBulk {H : Type} : DataW H → Nat
  | .lit (.string bytes) => bytes.length + 1
  | .lit _ => 1
  | .nil => 1
  | .ptr d => uptoBulk d + 1
  | .slice elems spare => uptoBulkAll elems + uptoBulkAll spare + 1
  | .agg parts => uptoBulkAll parts + 1
  | .iface _ d => uptoBulk d + 1
  | .map entries => uptoBulkEntries entries + 1
  | .held _ => 1
def uptoBulkAll {H : Type} : List (DataW H) → Nat
  | [] => 0
  | d :: r => uptoBulk d + uptoBulkAll r
def uptoBulkEntries {H : Type} : List (Lit × DataW H) → Nat
  | [] => 0
  | x :: r => uptoBulkEntry x + uptoBulkEntries r
def uptoBulkEntry {H : Type} : Lit × DataW H → Nat
  | (.string bytes, d) => bytes.length + uptoBulk d + 1
  | (_, d) => uptoBulk d + 1
 end
def uptoSmall : (H : Type) → List (DataW H) → Bool := fun _ ds => decide (uptoBulkAll ds ≤ 1048576)
def OpenSpec.upto (s : _root_.Go.ChangeSpec) : _root_.Go.OpenSpec := { _root_.Go.OpenSpec.ofChange s with cond := some uptoSmall }

/-- 'quilllaw18.ChangeDeletes', WHERE WHAT IT READS IS OF BULK AT MOST 1048576: true; the input reads as it did. -/
def changeDeletesUptoRow : OpenClaim := { program := "ytlkfgjgjjihenaadoor", sum := "92e7118fc25c5ff522435ea0402688676d1ff9a701bcde7be274712c3cf3bc63", func := "quill/quilllaw18.ChangeDeletes", spec := "changeDeletes", inPlace := ["internal/bytealg.CountString", "internal/bytealg.IndexByteString", "internal/bytealg.IndexString", "internal/abi.NoEscape", "internal/bytealg.MakeNoZero"], named := ["unicode/utf8.first", "unicode/utf8.acceptRanges", "internal/bytealg.MaxLen"], apart := false, laid := [("unicode/utf8.acceptRanges", laid_unicode_utf8_acceptRanges), ("unicode/utf8.first", laid_unicode_utf8_first)], narrowed := true }
def ChangeDeletesUptoSaid : Prop := changeDeletesUptoRow.holds Tryd.pinned (OpenSpec.upto changeDeletesSpec)

/-- 'quilllaw18.ChangeChanges', WHERE WHAT IT READS IS OF BULK AT MOST 1048576: true; the input reads as it did. -/
def changeChangesUptoRow : OpenClaim := { program := "ytlkfgjgjjihenaadoor", sum := "92e7118fc25c5ff522435ea0402688676d1ff9a701bcde7be274712c3cf3bc63", func := "quill/quilllaw18.ChangeChanges", spec := "changeChanges", inPlace := ["internal/bytealg.CountString", "internal/bytealg.IndexByteString", "internal/bytealg.IndexString", "internal/abi.NoEscape", "internal/bytealg.MakeNoZero"], named := ["unicode/utf8.first", "unicode/utf8.acceptRanges", "internal/bytealg.MaxLen"], apart := false, laid := [("unicode/utf8.acceptRanges", laid_unicode_utf8_acceptRanges), ("unicode/utf8.first", laid_unicode_utf8_first)], narrowed := true }
def ChangeChangesUptoSaid : Prop := changeChangesUptoRow.holds Tryd.pinned (OpenSpec.upto changeChangesSpec)

/-- 'quilllaw18.ChangeYanks', WHERE WHAT IT READS IS OF BULK AT MOST 1048576: true; the input reads as it did. -/
def changeYanksUptoRow : OpenClaim := { program := "ytlkfgjgjjihenaadoor", sum := "92e7118fc25c5ff522435ea0402688676d1ff9a701bcde7be274712c3cf3bc63", func := "quill/quilllaw18.ChangeYanks", spec := "changeYanks", inPlace := ["internal/bytealg.CountString", "internal/bytealg.IndexByteString", "internal/bytealg.IndexString", "internal/abi.NoEscape", "internal/bytealg.MakeNoZero"], named := ["unicode/utf8.first", "unicode/utf8.acceptRanges", "internal/bytealg.MaxLen"], apart := false, laid := [("unicode/utf8.acceptRanges", laid_unicode_utf8_acceptRanges), ("unicode/utf8.first", laid_unicode_utf8_first)], narrowed := true }
def ChangeYanksUptoSaid : Prop := changeYanksUptoRow.holds Tryd.pinned (OpenSpec.upto changeYanksSpec)

/-- 'quilllaw18.ChangeShifts', WHERE WHAT IT READS IS OF BULK AT MOST 1048576: true; the input reads as it did. -/
def changeShiftsUptoRow : OpenClaim := { program := "ytlkfgjgjjihenaadoor", sum := "92e7118fc25c5ff522435ea0402688676d1ff9a701bcde7be274712c3cf3bc63", func := "quill/quilllaw18.ChangeShifts", spec := "changeShifts", inPlace := ["internal/bytealg.CountString", "internal/bytealg.IndexByteString", "internal/bytealg.IndexString", "internal/abi.NoEscape", "internal/bytealg.MakeNoZero"], named := ["unicode/utf8.first", "unicode/utf8.acceptRanges", "internal/bytealg.MaxLen"], apart := false, laid := [("unicode/utf8.acceptRanges", laid_unicode_utf8_acceptRanges), ("unicode/utf8.first", laid_unicode_utf8_first)], narrowed := true }
def ChangeShiftsUptoSaid : Prop := changeShiftsUptoRow.holds Tryd.pinned (OpenSpec.upto changeShiftsSpec)

/-- 'quilllaw18.ChangeCases', WHERE WHAT IT READS IS OF BULK AT MOST 1048576: true; the input reads as it did. -/
def changeCasesUptoRow : OpenClaim := { program := "ytlkfgjgjjihenaadoor", sum := "92e7118fc25c5ff522435ea0402688676d1ff9a701bcde7be274712c3cf3bc63", func := "quill/quilllaw18.ChangeCases", spec := "changeCases", inPlace := ["internal/bytealg.CountString", "internal/bytealg.IndexByteString", "internal/bytealg.IndexString", "internal/abi.NoEscape", "internal/bytealg.MakeNoZero"], named := ["unicode/utf8.first", "unicode/utf8.acceptRanges", "internal/bytealg.MaxLen"], apart := false, laid := [("unicode/utf8.acceptRanges", laid_unicode_utf8_acceptRanges), ("unicode/utf8.first", laid_unicode_utf8_first)], narrowed := true }
def ChangeCasesUptoSaid : Prop := changeCasesUptoRow.holds Tryd.pinned (OpenSpec.upto changeCasesSpec)

/-- 'quilllaw18.ChangeStays', WHERE WHAT IT READS IS OF BULK AT MOST 1048576: true; the input reads as it did. -/
def changeStaysUptoRow : OpenClaim := { program := "ytlkfgjgjjihenaadoor", sum := "92e7118fc25c5ff522435ea0402688676d1ff9a701bcde7be274712c3cf3bc63", func := "quill/quilllaw18.ChangeStays", spec := "changeStays", inPlace := ["internal/bytealg.CountString", "internal/bytealg.IndexByteString", "internal/bytealg.IndexString", "internal/abi.NoEscape", "internal/bytealg.MakeNoZero"], named := ["unicode/utf8.first", "unicode/utf8.acceptRanges", "internal/bytealg.MaxLen"], apart := false, laid := [("unicode/utf8.acceptRanges", laid_unicode_utf8_acceptRanges), ("unicode/utf8.first", laid_unicode_utf8_first)], narrowed := true }
def ChangeStaysUptoSaid : Prop := changeStaysUptoRow.holds Tryd.pinned (OpenSpec.upto changeStaysSpec)

/-- 'quilllaw18.OperLower', WHERE WHAT IT READS IS OF BULK AT MOST 1048576: true; the input reads as it did. -/
def operLowerUptoRow : OpenClaim := { program := "ytlkfgjgjjihenaadoor", sum := "92e7118fc25c5ff522435ea0402688676d1ff9a701bcde7be274712c3cf3bc63", func := "quill/quilllaw18.OperLower", spec := "operLower", inPlace := ["internal/bytealg.CountString", "internal/bytealg.IndexByteString", "internal/bytealg.IndexString", "internal/abi.NoEscape", "internal/bytealg.MakeNoZero"], named := ["unicode/utf8.first", "unicode/utf8.acceptRanges", "internal/bytealg.MaxLen"], apart := false, laid := [("unicode/utf8.acceptRanges", laid_unicode_utf8_acceptRanges), ("unicode/utf8.first", laid_unicode_utf8_first)], narrowed := true }
def OperLowerUptoSaid : Prop := operLowerUptoRow.holds Tryd.pinned (OpenSpec.upto operLowerSpec)

/-- 'quilllaw18.OperUpper', WHERE WHAT IT READS IS OF BULK AT MOST 1048576: true; the input reads as it did. -/
def operUpperUptoRow : OpenClaim := { program := "ytlkfgjgjjihenaadoor", sum := "92e7118fc25c5ff522435ea0402688676d1ff9a701bcde7be274712c3cf3bc63", func := "quill/quilllaw18.OperUpper", spec := "operUpper", inPlace := ["internal/bytealg.CountString", "internal/bytealg.IndexByteString", "internal/bytealg.IndexString", "internal/abi.NoEscape", "internal/bytealg.MakeNoZero"], named := ["unicode/utf8.first", "unicode/utf8.acceptRanges", "internal/bytealg.MaxLen"], apart := false, laid := [("unicode/utf8.acceptRanges", laid_unicode_utf8_acceptRanges), ("unicode/utf8.first", laid_unicode_utf8_first)], narrowed := true }
def OperUpperUptoSaid : Prop := operUpperUptoRow.holds Tryd.pinned (OpenSpec.upto operUpperSpec)

/-- 'quilllaw18.OperTurn', WHERE WHAT IT READS IS OF BULK AT MOST 1048576: true; the input reads as it did. -/
def operTurnUptoRow : OpenClaim := { program := "ytlkfgjgjjihenaadoor", sum := "92e7118fc25c5ff522435ea0402688676d1ff9a701bcde7be274712c3cf3bc63", func := "quill/quilllaw18.OperTurn", spec := "operTurn", inPlace := ["internal/bytealg.CountString", "internal/bytealg.IndexByteString", "internal/bytealg.IndexString", "internal/abi.NoEscape", "internal/bytealg.MakeNoZero"], named := ["unicode/utf8.first", "unicode/utf8.acceptRanges", "internal/bytealg.MaxLen"], apart := false, laid := [("unicode/utf8.acceptRanges", laid_unicode_utf8_acceptRanges), ("unicode/utf8.first", laid_unicode_utf8_first)], narrowed := true }
def OperTurnUptoSaid : Prop := operTurnUptoRow.holds Tryd.pinned (OpenSpec.upto operTurnSpec)

/-- 'quilllaw18.OperRight', WHERE WHAT IT READS IS OF BULK AT MOST 1048576: true; the input reads as it did. -/
def operRightUptoRow : OpenClaim := { program := "ytlkfgjgjjihenaadoor", sum := "92e7118fc25c5ff522435ea0402688676d1ff9a701bcde7be274712c3cf3bc63", func := "quill/quilllaw18.OperRight", spec := "operRight", inPlace := ["internal/bytealg.CountString", "internal/bytealg.IndexByteString", "internal/bytealg.IndexString", "internal/abi.NoEscape", "internal/bytealg.MakeNoZero"], named := ["unicode/utf8.first", "unicode/utf8.acceptRanges", "internal/bytealg.MaxLen"], apart := false, laid := [("unicode/utf8.acceptRanges", laid_unicode_utf8_acceptRanges), ("unicode/utf8.first", laid_unicode_utf8_first)], narrowed := true }
def OperRightUptoSaid : Prop := operRightUptoRow.holds Tryd.pinned (OpenSpec.upto operRightSpec)

/-- 'quilllaw18.OperLeft', WHERE WHAT IT READS IS OF BULK AT MOST 1048576: true; the input reads as it did. -/
def operLeftUptoRow : OpenClaim := { program := "ytlkfgjgjjihenaadoor", sum := "92e7118fc25c5ff522435ea0402688676d1ff9a701bcde7be274712c3cf3bc63", func := "quill/quilllaw18.OperLeft", spec := "operLeft", inPlace := ["internal/bytealg.CountString", "internal/bytealg.IndexByteString", "internal/bytealg.IndexString", "internal/abi.NoEscape", "internal/bytealg.MakeNoZero"], named := ["unicode/utf8.first", "unicode/utf8.acceptRanges", "internal/bytealg.MaxLen"], apart := false, laid := [("unicode/utf8.acceptRanges", laid_unicode_utf8_acceptRanges), ("unicode/utf8.first", laid_unicode_utf8_first)], narrowed := true }
def OperLeftUptoSaid : Prop := operLeftUptoRow.holds Tryd.pinned (OpenSpec.upto operLeftSpec)

end Rows
end Go.Proofs.YtlkfgjgjjihenaaDoor
