/-
  NARROWER THAN 'FOR EVERY INPUT', by the rows' own cells (each row's printed sentence says how): ChangeShifts: laid · ChangeStays: laid · OperRight: laid · OperLeft: laid · SmallTakes: laid · SmallTurns: laid · SmallJoins: laid · SmallSame: laid · SmallX: laid · SmallBigX: laid · SmallR: laid · SmallTilde: laid.
  DERIVED. THE GIVEN ROWS OF THIS SEAT. 12 by the template 'for every input the law returns true; each argument reads behind the call as it read before'; 0 by the template 'total and deterministic' (their statements: YtkeojjojilfklaaDoorTotals.lean).
  GIVEN WITH THE SEED: the statements are not yours to turn. If you find one false, say at which input.
  Laid BY PROGRAM, IN A SANDBOX (cutbox-rows.mjs): the forced cells as the released guide's own fill.sh prints them over the translation 960869191b45f139… (all of the seat's roots in one cut). By AI agents, Wed Nov 11 2026. No macro, syntax, notation, axiom, sorry.
-/
import Derived.Test.YtkeojjojilfklaaDoorChecked
import GoSem.PinnedTables
import GoSem.Claim
import GoSem.ClaimJoined
import GoSem.ClaimMapViews
import Derived.JoinedTies
import Derived.KernelRfl
namespace Go.Proofs.YtkeojjojilfklaaDoor
/- THE CELL 'sum', in the pinned program and in every row, IS THE sha256 OF THE DUMP (.gsa) THAT YtkeojjojilfklaaDoorProg.lean LOADS. Nothing in Lean hashes anything: it is a label: what it is worth is what the hold of that sum in a sandbox is worth. -/
noncomputable def Tryd.pinned : Pinned := { name := "ytkeojjojilfklaadoor", sum := "960869191b45f1395cd2d3b44de73f9853eb5076edbbca12f6dae8ffdcc1bd05", checked := Tryd.checked }
namespace Rows
def none {H : Type} : Left H := { results := [], args := [] }

/- WHAT THE LISTED PACKAGE-LEVEL VARIABLES READ AS WHEN THE CALL BEGINS. Each datum BY PROGRAM (the guide's laid-datum.mjs) off the statement by which the dump's own 'gosem.cut.vars' lays the variable. In a bare row this is a premise. The card (YtkeojjojilfklaaDoorCards.lean) ties it to the program's text. -/
def laid_unicode_utf8_acceptRanges {H : Type} : DataW H := .agg [.agg [.lit (.int .u8 128), .lit (.int .u8 191)], .agg [.lit (.int .u8 160), .lit (.int .u8 191)], .agg [.lit (.int .u8 128), .lit (.int .u8 159)], .agg [.lit (.int .u8 144), .lit (.int .u8 191)], .agg [.lit (.int .u8 128), .lit (.int .u8 143)], .agg [.lit (.int .u8 0), .lit (.int .u8 0)], .agg [.lit (.int .u8 0), .lit (.int .u8 0)], .agg [.lit (.int .u8 0), .lit (.int .u8 0)], .agg [.lit (.int .u8 0), .lit (.int .u8 0)], .agg [.lit (.int .u8 0), .lit (.int .u8 0)], .agg [.lit (.int .u8 0), .lit (.int .u8 0)], .agg [.lit (.int .u8 0), .lit (.int .u8 0)], .agg [.lit (.int .u8 0), .lit (.int .u8 0)], .agg [.lit (.int .u8 0), .lit (.int .u8 0)], .agg [.lit (.int .u8 0), .lit (.int .u8 0)], .agg [.lit (.int .u8 0), .lit (.int .u8 0)]]
/-- One of Go's own tables, pinned by name: the form's constant. -/
def laid_unicode_utf8_first : DataW Unit := Go.Pinned.utf8First

/-- 'quilllaw18.ChangeShifts': WHATEVER THE INPUT: true; the input reads as it did. -/
def changeShiftsSpec : ChangeSpec := { name := "changeShifts", fn := fun _ => fun
  | [d] => { results := [.lit (.bool true)], args := [d] }
  | _ => none }
def changeShiftsRow : OpenClaim := { program := "ytkeojjojilfklaadoor", sum := "960869191b45f1395cd2d3b44de73f9853eb5076edbbca12f6dae8ffdcc1bd05", func := "quill/quilllaw18.ChangeShifts", spec := "changeShifts", inPlace := ["internal/bytealg.CountString", "internal/bytealg.IndexByteString", "internal/bytealg.IndexString", "internal/abi.NoEscape", "internal/bytealg.MakeNoZero"], named := ["unicode/utf8.first", "unicode/utf8.acceptRanges", "internal/bytealg.MaxLen"], apart := false, laid := [("unicode/utf8.acceptRanges", laid_unicode_utf8_acceptRanges), ("unicode/utf8.first", laid_unicode_utf8_first)] }
def ChangeShiftsSaid : Prop := changeShiftsRow.holds Tryd.pinned (OpenSpec.ofChange changeShiftsSpec)

/-- ITS FALSE NEIGHBOUR: 'it returns false'. Refute it at one input. -/
def changeShiftsWrong : ChangeSpec := { name := "changeShifts", fn := fun _ => fun
  | [d] => { results := [.lit (.bool false)], args := [d] }
  | _ => none }
def ChangeShiftsWrongFalsely : Prop := changeShiftsRow.holds Tryd.pinned (OpenSpec.ofChange changeShiftsWrong)

/-- 'quilllaw18.ChangeStays': WHATEVER THE INPUT: true; the input reads as it did. -/
def changeStaysSpec : ChangeSpec := { name := "changeStays", fn := fun _ => fun
  | [d] => { results := [.lit (.bool true)], args := [d] }
  | _ => none }
def changeStaysRow : OpenClaim := { program := "ytkeojjojilfklaadoor", sum := "960869191b45f1395cd2d3b44de73f9853eb5076edbbca12f6dae8ffdcc1bd05", func := "quill/quilllaw18.ChangeStays", spec := "changeStays", inPlace := ["internal/bytealg.CountString", "internal/bytealg.IndexByteString", "internal/bytealg.IndexString", "internal/abi.NoEscape", "internal/bytealg.MakeNoZero"], named := ["unicode/utf8.first", "unicode/utf8.acceptRanges", "internal/bytealg.MaxLen"], apart := false, laid := [("unicode/utf8.acceptRanges", laid_unicode_utf8_acceptRanges), ("unicode/utf8.first", laid_unicode_utf8_first)] }
def ChangeStaysSaid : Prop := changeStaysRow.holds Tryd.pinned (OpenSpec.ofChange changeStaysSpec)

/-- ITS FALSE NEIGHBOUR: 'it returns false'. Refute it at one input. -/
def changeStaysWrong : ChangeSpec := { name := "changeStays", fn := fun _ => fun
  | [d] => { results := [.lit (.bool false)], args := [d] }
  | _ => none }
def ChangeStaysWrongFalsely : Prop := changeStaysRow.holds Tryd.pinned (OpenSpec.ofChange changeStaysWrong)

/-- 'quilllaw18.OperRight': WHATEVER THE INPUT: true; the input reads as it did. -/
def operRightSpec : ChangeSpec := { name := "operRight", fn := fun _ => fun
  | [d] => { results := [.lit (.bool true)], args := [d] }
  | _ => none }
def operRightRow : OpenClaim := { program := "ytkeojjojilfklaadoor", sum := "960869191b45f1395cd2d3b44de73f9853eb5076edbbca12f6dae8ffdcc1bd05", func := "quill/quilllaw18.OperRight", spec := "operRight", inPlace := ["internal/bytealg.CountString", "internal/bytealg.IndexByteString", "internal/bytealg.IndexString", "internal/abi.NoEscape", "internal/bytealg.MakeNoZero"], named := ["unicode/utf8.first", "unicode/utf8.acceptRanges", "internal/bytealg.MaxLen"], apart := false, laid := [("unicode/utf8.acceptRanges", laid_unicode_utf8_acceptRanges), ("unicode/utf8.first", laid_unicode_utf8_first)] }
def OperRightSaid : Prop := operRightRow.holds Tryd.pinned (OpenSpec.ofChange operRightSpec)

/-- ITS FALSE NEIGHBOUR: 'it returns false'. Refute it at one input. -/
def operRightWrong : ChangeSpec := { name := "operRight", fn := fun _ => fun
  | [d] => { results := [.lit (.bool false)], args := [d] }
  | _ => none }
def OperRightWrongFalsely : Prop := operRightRow.holds Tryd.pinned (OpenSpec.ofChange operRightWrong)

/-- 'quilllaw18.OperLeft': WHATEVER THE INPUT: true; the input reads as it did. -/
def operLeftSpec : ChangeSpec := { name := "operLeft", fn := fun _ => fun
  | [d] => { results := [.lit (.bool true)], args := [d] }
  | _ => none }
def operLeftRow : OpenClaim := { program := "ytkeojjojilfklaadoor", sum := "960869191b45f1395cd2d3b44de73f9853eb5076edbbca12f6dae8ffdcc1bd05", func := "quill/quilllaw18.OperLeft", spec := "operLeft", inPlace := ["internal/bytealg.CountString", "internal/bytealg.IndexByteString", "internal/bytealg.IndexString", "internal/abi.NoEscape", "internal/bytealg.MakeNoZero"], named := ["unicode/utf8.first", "unicode/utf8.acceptRanges", "internal/bytealg.MaxLen"], apart := false, laid := [("unicode/utf8.acceptRanges", laid_unicode_utf8_acceptRanges), ("unicode/utf8.first", laid_unicode_utf8_first)] }
def OperLeftSaid : Prop := operLeftRow.holds Tryd.pinned (OpenSpec.ofChange operLeftSpec)

/-- ITS FALSE NEIGHBOUR: 'it returns false'. Refute it at one input. -/
def operLeftWrong : ChangeSpec := { name := "operLeft", fn := fun _ => fun
  | [d] => { results := [.lit (.bool false)], args := [d] }
  | _ => none }
def OperLeftWrongFalsely : Prop := operLeftRow.holds Tryd.pinned (OpenSpec.ofChange operLeftWrong)

/-- 'quilllaw20.SmallTakes': WHATEVER THE INPUT: true; the input reads as it did. -/
def smallTakesSpec : ChangeSpec := { name := "smallTakes", fn := fun _ => fun
  | [d] => { results := [.lit (.bool true)], args := [d] }
  | _ => none }
def smallTakesRow : OpenClaim := { program := "ytkeojjojilfklaadoor", sum := "960869191b45f1395cd2d3b44de73f9853eb5076edbbca12f6dae8ffdcc1bd05", func := "quill/quilllaw20.SmallTakes", spec := "smallTakes", named := ["unicode/utf8.first", "unicode/utf8.acceptRanges"], apart := false, laid := [("unicode/utf8.acceptRanges", laid_unicode_utf8_acceptRanges), ("unicode/utf8.first", laid_unicode_utf8_first)] }
def SmallTakesSaid : Prop := smallTakesRow.holds Tryd.pinned (OpenSpec.ofChange smallTakesSpec)

/-- ITS FALSE NEIGHBOUR: 'it returns false'. Refute it at one input. -/
def smallTakesWrong : ChangeSpec := { name := "smallTakes", fn := fun _ => fun
  | [d] => { results := [.lit (.bool false)], args := [d] }
  | _ => none }
def SmallTakesWrongFalsely : Prop := smallTakesRow.holds Tryd.pinned (OpenSpec.ofChange smallTakesWrong)

/-- 'quilllaw20.SmallTurns': WHATEVER THE INPUT: true; the input reads as it did. -/
def smallTurnsSpec : ChangeSpec := { name := "smallTurns", fn := fun _ => fun
  | [d] => { results := [.lit (.bool true)], args := [d] }
  | _ => none }
def smallTurnsRow : OpenClaim := { program := "ytkeojjojilfklaadoor", sum := "960869191b45f1395cd2d3b44de73f9853eb5076edbbca12f6dae8ffdcc1bd05", func := "quill/quilllaw20.SmallTurns", spec := "smallTurns", named := ["unicode/utf8.first", "unicode/utf8.acceptRanges"], apart := false, laid := [("unicode/utf8.acceptRanges", laid_unicode_utf8_acceptRanges), ("unicode/utf8.first", laid_unicode_utf8_first)] }
def SmallTurnsSaid : Prop := smallTurnsRow.holds Tryd.pinned (OpenSpec.ofChange smallTurnsSpec)

/-- ITS FALSE NEIGHBOUR: 'it returns false'. Refute it at one input. -/
def smallTurnsWrong : ChangeSpec := { name := "smallTurns", fn := fun _ => fun
  | [d] => { results := [.lit (.bool false)], args := [d] }
  | _ => none }
def SmallTurnsWrongFalsely : Prop := smallTurnsRow.holds Tryd.pinned (OpenSpec.ofChange smallTurnsWrong)

/-- 'quilllaw20.SmallJoins': WHATEVER THE INPUT: true; the input reads as it did. -/
def smallJoinsSpec : ChangeSpec := { name := "smallJoins", fn := fun _ => fun
  | [d] => { results := [.lit (.bool true)], args := [d] }
  | _ => none }
def smallJoinsRow : OpenClaim := { program := "ytkeojjojilfklaadoor", sum := "960869191b45f1395cd2d3b44de73f9853eb5076edbbca12f6dae8ffdcc1bd05", func := "quill/quilllaw20.SmallJoins", spec := "smallJoins", named := ["unicode/utf8.first", "unicode/utf8.acceptRanges"], apart := false, laid := [("unicode/utf8.acceptRanges", laid_unicode_utf8_acceptRanges), ("unicode/utf8.first", laid_unicode_utf8_first)] }
def SmallJoinsSaid : Prop := smallJoinsRow.holds Tryd.pinned (OpenSpec.ofChange smallJoinsSpec)

/-- ITS FALSE NEIGHBOUR: 'it returns false'. Refute it at one input. -/
def smallJoinsWrong : ChangeSpec := { name := "smallJoins", fn := fun _ => fun
  | [d] => { results := [.lit (.bool false)], args := [d] }
  | _ => none }
def SmallJoinsWrongFalsely : Prop := smallJoinsRow.holds Tryd.pinned (OpenSpec.ofChange smallJoinsWrong)

/-- 'quilllaw20.SmallSame': WHATEVER THE INPUT: true; the input reads as it did. -/
def smallSameSpec : ChangeSpec := { name := "smallSame", fn := fun _ => fun
  | [d] => { results := [.lit (.bool true)], args := [d] }
  | _ => none }
def smallSameRow : OpenClaim := { program := "ytkeojjojilfklaadoor", sum := "960869191b45f1395cd2d3b44de73f9853eb5076edbbca12f6dae8ffdcc1bd05", func := "quill/quilllaw20.SmallSame", spec := "smallSame", named := ["unicode/utf8.first", "unicode/utf8.acceptRanges"], apart := false, laid := [("unicode/utf8.acceptRanges", laid_unicode_utf8_acceptRanges), ("unicode/utf8.first", laid_unicode_utf8_first)] }
def SmallSameSaid : Prop := smallSameRow.holds Tryd.pinned (OpenSpec.ofChange smallSameSpec)

/-- ITS FALSE NEIGHBOUR: 'it returns false'. Refute it at one input. -/
def smallSameWrong : ChangeSpec := { name := "smallSame", fn := fun _ => fun
  | [d] => { results := [.lit (.bool false)], args := [d] }
  | _ => none }
def SmallSameWrongFalsely : Prop := smallSameRow.holds Tryd.pinned (OpenSpec.ofChange smallSameWrong)

/-- 'quilllaw20.SmallX': WHATEVER THE INPUT: true; the input reads as it did. -/
def smallXSpec : ChangeSpec := { name := "smallX", fn := fun _ => fun
  | [d] => { results := [.lit (.bool true)], args := [d] }
  | _ => none }
def smallXRow : OpenClaim := { program := "ytkeojjojilfklaadoor", sum := "960869191b45f1395cd2d3b44de73f9853eb5076edbbca12f6dae8ffdcc1bd05", func := "quill/quilllaw20.SmallX", spec := "smallX", named := ["unicode/utf8.first", "unicode/utf8.acceptRanges"], apart := false, laid := [("unicode/utf8.acceptRanges", laid_unicode_utf8_acceptRanges), ("unicode/utf8.first", laid_unicode_utf8_first)] }
def SmallXSaid : Prop := smallXRow.holds Tryd.pinned (OpenSpec.ofChange smallXSpec)

/-- ITS FALSE NEIGHBOUR: 'it returns false'. Refute it at one input. -/
def smallXWrong : ChangeSpec := { name := "smallX", fn := fun _ => fun
  | [d] => { results := [.lit (.bool false)], args := [d] }
  | _ => none }
def SmallXWrongFalsely : Prop := smallXRow.holds Tryd.pinned (OpenSpec.ofChange smallXWrong)

/-- 'quilllaw20.SmallBigX': WHATEVER THE INPUT: true; the input reads as it did. -/
def smallBigXSpec : ChangeSpec := { name := "smallBigX", fn := fun _ => fun
  | [d] => { results := [.lit (.bool true)], args := [d] }
  | _ => none }
def smallBigXRow : OpenClaim := { program := "ytkeojjojilfklaadoor", sum := "960869191b45f1395cd2d3b44de73f9853eb5076edbbca12f6dae8ffdcc1bd05", func := "quill/quilllaw20.SmallBigX", spec := "smallBigX", named := ["unicode/utf8.first", "unicode/utf8.acceptRanges"], apart := false, laid := [("unicode/utf8.acceptRanges", laid_unicode_utf8_acceptRanges), ("unicode/utf8.first", laid_unicode_utf8_first)] }
def SmallBigXSaid : Prop := smallBigXRow.holds Tryd.pinned (OpenSpec.ofChange smallBigXSpec)

/-- ITS FALSE NEIGHBOUR: 'it returns false'. Refute it at one input. -/
def smallBigXWrong : ChangeSpec := { name := "smallBigX", fn := fun _ => fun
  | [d] => { results := [.lit (.bool false)], args := [d] }
  | _ => none }
def SmallBigXWrongFalsely : Prop := smallBigXRow.holds Tryd.pinned (OpenSpec.ofChange smallBigXWrong)

/-- 'quilllaw20.SmallR': WHATEVER THE INPUT: true; the input reads as it did. -/
def smallRSpec : ChangeSpec := { name := "smallR", fn := fun _ => fun
  | [d] => { results := [.lit (.bool true)], args := [d] }
  | _ => none }
def smallRRow : OpenClaim := { program := "ytkeojjojilfklaadoor", sum := "960869191b45f1395cd2d3b44de73f9853eb5076edbbca12f6dae8ffdcc1bd05", func := "quill/quilllaw20.SmallR", spec := "smallR", named := ["unicode/utf8.first", "unicode/utf8.acceptRanges"], apart := false, laid := [("unicode/utf8.acceptRanges", laid_unicode_utf8_acceptRanges), ("unicode/utf8.first", laid_unicode_utf8_first)] }
def SmallRSaid : Prop := smallRRow.holds Tryd.pinned (OpenSpec.ofChange smallRSpec)

/-- ITS FALSE NEIGHBOUR: 'it returns false'. Refute it at one input. -/
def smallRWrong : ChangeSpec := { name := "smallR", fn := fun _ => fun
  | [d] => { results := [.lit (.bool false)], args := [d] }
  | _ => none }
def SmallRWrongFalsely : Prop := smallRRow.holds Tryd.pinned (OpenSpec.ofChange smallRWrong)

/-- 'quilllaw20.SmallTilde': WHATEVER THE INPUT: true; the input reads as it did. -/
def smallTildeSpec : ChangeSpec := { name := "smallTilde", fn := fun _ => fun
  | [d] => { results := [.lit (.bool true)], args := [d] }
  | _ => none }
def smallTildeRow : OpenClaim := { program := "ytkeojjojilfklaadoor", sum := "960869191b45f1395cd2d3b44de73f9853eb5076edbbca12f6dae8ffdcc1bd05", func := "quill/quilllaw20.SmallTilde", spec := "smallTilde", named := ["unicode/utf8.first", "unicode/utf8.acceptRanges"], apart := false, laid := [("unicode/utf8.acceptRanges", laid_unicode_utf8_acceptRanges), ("unicode/utf8.first", laid_unicode_utf8_first)] }
def SmallTildeSaid : Prop := smallTildeRow.holds Tryd.pinned (OpenSpec.ofChange smallTildeSpec)

/-- ITS FALSE NEIGHBOUR: 'it returns false'. Refute it at one input. -/
def smallTildeWrong : ChangeSpec := { name := "smallTilde", fn := fun _ => fun
  | [d] => { results := [.lit (.bool false)], args := [d] }
  | _ => none }
def SmallTildeWrongFalsely : Prop := smallTildeRow.holds Tryd.pinned (OpenSpec.ofChange smallTildeWrong)

/- THE SECOND FORM. 'bulk': how many values and letters a reading holds, each counted each time it is reached (what is shared counts as often as it is met; a slice's spare places count too). A statement '..UptoSaid' is the law's where the arguments, and the package variables that the reading takes, are together of bulk at most 1048576: NARROWER than '..Said'. Prove '..Said' where nothing that the law and all that it calls make is longer than what came in: it says more and counts as full. Else prove '..UptoSaid'. A law counts once. -/
mutual
def uptoBulk {H : Type} : DataW H → Nat
  | .lit (.string bytes) => bytes.length + 1
  | .lit _ => 1
  | .nil => 1
  | .ptr d => uptoBulk d + 1
  | .slice elems spare => uptoBulkAll elems + uptoBulkAll spare + 1
  | .agg parts => uptoBulkAll parts + 1
  | .iface _ d => uptoBulk d + 1
  | .map entries => uptoBulkEntries entries + 1
  | .held _ => 1
def uptoBulkAll {H : Type} : List (DataW H) → Nat
  | [] => 0
  | d :: r => uptoBulk d + uptoBulkAll r
def uptoBulkEntries {H : Type} : List (Lit × DataW H) → Nat
  | [] => 0
  | x :: r => uptoBulkEntry x + uptoBulkEntries r
def uptoBulkEntry {H : Type} : Lit × DataW H → Nat
  | (.string bytes, d) => bytes.length + uptoBulk d + 1
  | (_, d) => uptoBulk d + 1
 end
def uptoSmall : (H : Type) → List (DataW H) → Bool := fun _ ds => decide (uptoBulkAll ds ≤ 1048576)
def OpenSpec.upto (s : _root_.Go.ChangeSpec) : _root_.Go.OpenSpec := { _root_.Go.OpenSpec.ofChange s with cond := some uptoSmall }

/-- 'quilllaw18.ChangeShifts', WHERE WHAT IT READS IS OF BULK AT MOST 1048576: true; the input reads as it did. -/
def changeShiftsUptoRow : OpenClaim := { program := "ytkeojjojilfklaadoor", sum := "960869191b45f1395cd2d3b44de73f9853eb5076edbbca12f6dae8ffdcc1bd05", func := "quill/quilllaw18.ChangeShifts", spec := "changeShifts", inPlace := ["internal/bytealg.CountString", "internal/bytealg.IndexByteString", "internal/bytealg.IndexString", "internal/abi.NoEscape", "internal/bytealg.MakeNoZero"], named := ["unicode/utf8.first", "unicode/utf8.acceptRanges", "internal/bytealg.MaxLen"], apart := false, laid := [("unicode/utf8.acceptRanges", laid_unicode_utf8_acceptRanges), ("unicode/utf8.first", laid_unicode_utf8_first)], narrowed := true }
def ChangeShiftsUptoSaid : Prop := changeShiftsUptoRow.holds Tryd.pinned (OpenSpec.upto changeShiftsSpec)

/-- 'quilllaw18.ChangeStays', WHERE WHAT IT READS IS OF BULK AT MOST 1048576: true; the input reads as it did. -/
def changeStaysUptoRow : OpenClaim := { program := "ytkeojjojilfklaadoor", sum := "960869191b45f1395cd2d3b44de73f9853eb5076edbbca12f6dae8ffdcc1bd05", func := "quill/quilllaw18.ChangeStays", spec := "changeStays", inPlace := ["internal/bytealg.CountString", "internal/bytealg.IndexByteString", "internal/bytealg.IndexString", "internal/abi.NoEscape", "internal/bytealg.MakeNoZero"], named := ["unicode/utf8.first", "unicode/utf8.acceptRanges", "internal/bytealg.MaxLen"], apart := false, laid := [("unicode/utf8.acceptRanges", laid_unicode_utf8_acceptRanges), ("unicode/utf8.first", laid_unicode_utf8_first)], narrowed := true }
def ChangeStaysUptoSaid : Prop := changeStaysUptoRow.holds Tryd.pinned (OpenSpec.upto changeStaysSpec)

/-- 'quilllaw18.OperRight', WHERE WHAT IT READS IS OF BULK AT MOST 1048576: true; the input reads as it did. -/
def operRightUptoRow : OpenClaim := { program := "ytkeojjojilfklaadoor", sum := "960869191b45f1395cd2d3b44de73f9853eb5076edbbca12f6dae8ffdcc1bd05", func := "quill/quilllaw18.OperRight", spec := "operRight", inPlace := ["internal/bytealg.CountString", "internal/bytealg.IndexByteString", "internal/bytealg.IndexString", "internal/abi.NoEscape", "internal/bytealg.MakeNoZero"], named := ["unicode/utf8.first", "unicode/utf8.acceptRanges", "internal/bytealg.MaxLen"], apart := false, laid := [("unicode/utf8.acceptRanges", laid_unicode_utf8_acceptRanges), ("unicode/utf8.first", laid_unicode_utf8_first)], narrowed := true }
def OperRightUptoSaid : Prop := operRightUptoRow.holds Tryd.pinned (OpenSpec.upto operRightSpec)

/-- 'quilllaw18.OperLeft', WHERE WHAT IT READS IS OF BULK AT MOST 1048576: true; the input reads as it did. -/
def operLeftUptoRow : OpenClaim := { program := "ytkeojjojilfklaadoor", sum := "960869191b45f1395cd2d3b44de73f9853eb5076edbbca12f6dae8ffdcc1bd05", func := "quill/quilllaw18.OperLeft", spec := "operLeft", inPlace := ["internal/bytealg.CountString", "internal/bytealg.IndexByteString", "internal/bytealg.IndexString", "internal/abi.NoEscape", "internal/bytealg.MakeNoZero"], named := ["unicode/utf8.first", "unicode/utf8.acceptRanges", "internal/bytealg.MaxLen"], apart := false, laid := [("unicode/utf8.acceptRanges", laid_unicode_utf8_acceptRanges), ("unicode/utf8.first", laid_unicode_utf8_first)], narrowed := true }
def OperLeftUptoSaid : Prop := operLeftUptoRow.holds Tryd.pinned (OpenSpec.upto operLeftSpec)

/-- 'quilllaw20.SmallTakes', WHERE WHAT IT READS IS OF BULK AT MOST 1048576: true; the input reads as it did. -/
def smallTakesUptoRow : OpenClaim := { program := "ytkeojjojilfklaadoor", sum := "960869191b45f1395cd2d3b44de73f9853eb5076edbbca12f6dae8ffdcc1bd05", func := "quill/quilllaw20.SmallTakes", spec := "smallTakes", named := ["unicode/utf8.first", "unicode/utf8.acceptRanges"], apart := false, laid := [("unicode/utf8.acceptRanges", laid_unicode_utf8_acceptRanges), ("unicode/utf8.first", laid_unicode_utf8_first)], narrowed := true }
def SmallTakesUptoSaid : Prop := smallTakesUptoRow.holds Tryd.pinned (OpenSpec.upto smallTakesSpec)

/-- 'quilllaw20.SmallTurns', WHERE WHAT IT READS IS OF BULK AT MOST 1048576: true; the input reads as it did. -/
def smallTurnsUptoRow : OpenClaim := { program := "ytkeojjojilfklaadoor", sum := "960869191b45f1395cd2d3b44de73f9853eb5076edbbca12f6dae8ffdcc1bd05", func := "quill/quilllaw20.SmallTurns", spec := "smallTurns", named := ["unicode/utf8.first", "unicode/utf8.acceptRanges"], apart := false, laid := [("unicode/utf8.acceptRanges", laid_unicode_utf8_acceptRanges), ("unicode/utf8.first", laid_unicode_utf8_first)], narrowed := true }
def SmallTurnsUptoSaid : Prop := smallTurnsUptoRow.holds Tryd.pinned (OpenSpec.upto smallTurnsSpec)

/-- 'quilllaw20.SmallJoins', WHERE WHAT IT READS IS OF BULK AT MOST 1048576: true; the input reads as it did. -/
def smallJoinsUptoRow : OpenClaim := { program := "ytkeojjojilfklaadoor", sum := "960869191b45f1395cd2d3b44de73f9853eb5076edbbca12f6dae8ffdcc1bd05", func := "quill/quilllaw20.SmallJoins", spec := "smallJoins", named := ["unicode/utf8.first", "unicode/utf8.acceptRanges"], apart := false, laid := [("unicode/utf8.acceptRanges", laid_unicode_utf8_acceptRanges), ("unicode/utf8.first", laid_unicode_utf8_first)], narrowed := true }
def SmallJoinsUptoSaid : Prop := smallJoinsUptoRow.holds Tryd.pinned (OpenSpec.upto smallJoinsSpec)

/-- 'quilllaw20.SmallSame', WHERE WHAT IT READS IS OF BULK AT MOST 1048576: true; the input reads as it did. -/
def smallSameUptoRow : OpenClaim := { program := "ytkeojjojilfklaadoor", sum := "960869191b45f1395cd2d3b44de73f9853eb5076edbbca12f6dae8ffdcc1bd05", func := "quill/quilllaw20.SmallSame", spec := "smallSame", named := ["unicode/utf8.first", "unicode/utf8.acceptRanges"], apart := false, laid := [("unicode/utf8.acceptRanges", laid_unicode_utf8_acceptRanges), ("unicode/utf8.first", laid_unicode_utf8_first)], narrowed := true }
def SmallSameUptoSaid : Prop := smallSameUptoRow.holds Tryd.pinned (OpenSpec.upto smallSameSpec)

/-- 'quilllaw20.SmallX', WHERE WHAT IT READS IS OF BULK AT MOST 1048576: true; the input reads as it did. -/
def smallXUptoRow : OpenClaim := { program := "ytkeojjojilfklaadoor", sum := "960869191b45f1395cd2d3b44de73f9853eb5076edbbca12f6dae8ffdcc1bd05", func := "quill/quilllaw20.SmallX", spec := "smallX", named := ["unicode/utf8.first", "unicode/utf8.acceptRanges"], apart := false, laid := [("unicode/utf8.acceptRanges", laid_unicode_utf8_acceptRanges), ("unicode/utf8.first", laid_unicode_utf8_first)], narrowed := true }
def SmallXUptoSaid : Prop := smallXUptoRow.holds Tryd.pinned (OpenSpec.upto smallXSpec)

/-- 'quilllaw20.SmallBigX', WHERE WHAT IT READS IS OF BULK AT MOST 1048576: true; the input reads as it did. -/
def smallBigXUptoRow : OpenClaim := { program := "ytkeojjojilfklaadoor", sum := "960869191b45f1395cd2d3b44de73f9853eb5076edbbca12f6dae8ffdcc1bd05", func := "quill/quilllaw20.SmallBigX", spec := "smallBigX", named := ["unicode/utf8.first", "unicode/utf8.acceptRanges"], apart := false, laid := [("unicode/utf8.acceptRanges", laid_unicode_utf8_acceptRanges), ("unicode/utf8.first", laid_unicode_utf8_first)], narrowed := true }
def SmallBigXUptoSaid : Prop := smallBigXUptoRow.holds Tryd.pinned (OpenSpec.upto smallBigXSpec)

/-- 'quilllaw20.SmallR', WHERE WHAT IT READS IS OF BULK AT MOST 1048576: true; the input reads as it did. -/
def smallRUptoRow : OpenClaim := { program := "ytkeojjojilfklaadoor", sum := "960869191b45f1395cd2d3b44de73f9853eb5076edbbca12f6dae8ffdcc1bd05", func := "quill/quilllaw20.SmallR", spec := "smallR", named := ["unicode/utf8.first", "unicode/utf8.acceptRanges"], apart := false, laid := [("unicode/utf8.acceptRanges", laid_unicode_utf8_acceptRanges), ("unicode/utf8.first", laid_unicode_utf8_first)], narrowed := true }
def SmallRUptoSaid : Prop := smallRUptoRow.holds Tryd.pinned (OpenSpec.upto smallRSpec)

/-- 'quilllaw20.SmallTilde', WHERE WHAT IT READS IS OF BULK AT MOST 1048576: true; the input reads as it did. -/
def smallTildeUptoRow : OpenClaim := { program := "ytkeojjojilfklaadoor", sum := "960869191b45f1395cd2d3b44de73f9853eb5076edbbca12f6dae8ffdcc1bd05", func := "quill/quilllaw20.SmallTilde", spec := "smallTilde", named := ["unicode/utf8.first", "unicode/utf8.acceptRanges"], apart := false, laid := [("unicode/utf8.acceptRanges", laid_unicode_utf8_acceptRanges), ("unicode/utf8.first", laid_unicode_utf8_first)], narrowed := true }
def SmallTildeUptoSaid : Prop := smallTildeUptoRow.holds Tryd.pinned (OpenSpec.upto smallTildeSpec)

end Rows
end Go.Proofs.YtkeojjojilfklaaDoor
