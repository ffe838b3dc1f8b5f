/-
  NARROWER THAN 'FOR EVERY INPUT', by the rows' own cells (each row's printed sentence says how): SeekFinds: laid · SeekStands: laid · ParasMove: laid · ParasEnd: laid.
  DERIVED. THE GIVEN ROWS OF THIS SEAT. 4 by the template 'for every input the law returns true; each argument reads behind the call as it read before'; 0 by the template 'total and deterministic' (their statements: YtfkcofnoccanbaaDoorTotals.lean).
  GIVEN WITH THE SEED: the statements are not yours to turn. If you find one false, say at which input.
  Laid BY PROGRAM, IN A SANDBOX (cutbox-rows.mjs): the forced cells as the released guide's own fill.sh prints them over the translation a488e7e664ea8346… (all of the seat's roots in one cut). By AI agents, Wed Nov 11 2026. No macro, syntax, notation, axiom, sorry.
-/
import Derived.Test.YtfkcofnoccanbaaDoorChecked
import GoSem.PinnedTables
import GoSem.Claim
import GoSem.ClaimJoined
import GoSem.ClaimMapViews
import Derived.JoinedTies
import Derived.KernelRfl
namespace Go.Proofs.YtfkcofnoccanbaaDoor
/- THE CELL 'sum', in the pinned program and in every row, IS THE sha256 OF THE DUMP (.gsa) THAT YtfkcofnoccanbaaDoorProg.lean LOADS. Nothing in Lean hashes anything: it is a label: what it is worth is what the hold of that sum in a sandbox is worth. -/
noncomputable def Tryd.pinned : Pinned := { name := "ytfkcofnoccanbaadoor", sum := "a488e7e664ea83460e1a909e847aa8d87d895b18a97701fb53ca0b70a8d99aeb", checked := Tryd.checked }
namespace Rows
def none {H : Type} : Left H := { results := [], args := [] }

/- WHAT THE LISTED PACKAGE-LEVEL VARIABLES READ AS WHEN THE CALL BEGINS. Each datum BY PROGRAM (the guide's laid-datum.mjs) off the statement by which the dump's own 'gosem.cut.vars' lays the variable. In a bare row this is a premise. The card (YtfkcofnoccanbaaDoorCards.lean) ties it to the program's text. -/
def laid_unicode_utf8_acceptRanges {H : Type} : DataW H := .agg [.agg [.lit (.int .u8 128), .lit (.int .u8 191)], .agg [.lit (.int .u8 160), .lit (.int .u8 191)], .agg [.lit (.int .u8 128), .lit (.int .u8 159)], .agg [.lit (.int .u8 144), .lit (.int .u8 191)], .agg [.lit (.int .u8 128), .lit (.int .u8 143)], .agg [.lit (.int .u8 0), .lit (.int .u8 0)], .agg [.lit (.int .u8 0), .lit (.int .u8 0)], .agg [.lit (.int .u8 0), .lit (.int .u8 0)], .agg [.lit (.int .u8 0), .lit (.int .u8 0)], .agg [.lit (.int .u8 0), .lit (.int .u8 0)], .agg [.lit (.int .u8 0), .lit (.int .u8 0)], .agg [.lit (.int .u8 0), .lit (.int .u8 0)], .agg [.lit (.int .u8 0), .lit (.int .u8 0)], .agg [.lit (.int .u8 0), .lit (.int .u8 0)], .agg [.lit (.int .u8 0), .lit (.int .u8 0)], .agg [.lit (.int .u8 0), .lit (.int .u8 0)]]
/-- One of Go's own tables, pinned by name: the form's constant. -/
def laid_unicode_utf8_first : DataW Unit := Go.Pinned.utf8First

/-- 'quilllaw11.SeekFinds': WHATEVER THE INPUT: true; the input reads as it did. -/
def seekFindsSpec : ChangeSpec := { name := "seekFinds", fn := fun _ => fun
  | [d] => { results := [.lit (.bool true)], args := [d] }
  | _ => none }
def seekFindsRow : OpenClaim := { program := "ytfkcofnoccanbaadoor", sum := "a488e7e664ea83460e1a909e847aa8d87d895b18a97701fb53ca0b70a8d99aeb", func := "quill/quilllaw11.SeekFinds", spec := "seekFinds", named := ["unicode/utf8.first", "unicode/utf8.acceptRanges"], apart := false, laid := [("unicode/utf8.acceptRanges", laid_unicode_utf8_acceptRanges), ("unicode/utf8.first", laid_unicode_utf8_first)] }
def SeekFindsSaid : Prop := seekFindsRow.holds Tryd.pinned (OpenSpec.ofChange seekFindsSpec)

/-- ITS FALSE NEIGHBOUR: 'it returns false'. Refute it at one input. -/
def seekFindsWrong : ChangeSpec := { name := "seekFinds", fn := fun _ => fun
  | [d] => { results := [.lit (.bool false)], args := [d] }
  | _ => none }
def SeekFindsWrongFalsely : Prop := seekFindsRow.holds Tryd.pinned (OpenSpec.ofChange seekFindsWrong)

/-- 'quilllaw11.SeekStands': WHATEVER THE INPUT: true; the input reads as it did. -/
def seekStandsSpec : ChangeSpec := { name := "seekStands", fn := fun _ => fun
  | [d] => { results := [.lit (.bool true)], args := [d] }
  | _ => none }
def seekStandsRow : OpenClaim := { program := "ytfkcofnoccanbaadoor", sum := "a488e7e664ea83460e1a909e847aa8d87d895b18a97701fb53ca0b70a8d99aeb", func := "quill/quilllaw11.SeekStands", spec := "seekStands", named := ["unicode/utf8.first", "unicode/utf8.acceptRanges"], apart := false, laid := [("unicode/utf8.acceptRanges", laid_unicode_utf8_acceptRanges), ("unicode/utf8.first", laid_unicode_utf8_first)] }
def SeekStandsSaid : Prop := seekStandsRow.holds Tryd.pinned (OpenSpec.ofChange seekStandsSpec)

/-- ITS FALSE NEIGHBOUR: 'it returns false'. Refute it at one input. -/
def seekStandsWrong : ChangeSpec := { name := "seekStands", fn := fun _ => fun
  | [d] => { results := [.lit (.bool false)], args := [d] }
  | _ => none }
def SeekStandsWrongFalsely : Prop := seekStandsRow.holds Tryd.pinned (OpenSpec.ofChange seekStandsWrong)

/-- 'quilllaw13.ParasMove': WHATEVER THE INPUT: true; the input reads as it did. -/
def parasMoveSpec : ChangeSpec := { name := "parasMove", fn := fun _ => fun
  | [d] => { results := [.lit (.bool true)], args := [d] }
  | _ => none }
def parasMoveRow : OpenClaim := { program := "ytfkcofnoccanbaadoor", sum := "a488e7e664ea83460e1a909e847aa8d87d895b18a97701fb53ca0b70a8d99aeb", func := "quill/quilllaw13.ParasMove", spec := "parasMove", named := ["unicode/utf8.first", "unicode/utf8.acceptRanges"], apart := false, laid := [("unicode/utf8.acceptRanges", laid_unicode_utf8_acceptRanges), ("unicode/utf8.first", laid_unicode_utf8_first)] }
def ParasMoveSaid : Prop := parasMoveRow.holds Tryd.pinned (OpenSpec.ofChange parasMoveSpec)

/-- ITS FALSE NEIGHBOUR: 'it returns false'. Refute it at one input. -/
def parasMoveWrong : ChangeSpec := { name := "parasMove", fn := fun _ => fun
  | [d] => { results := [.lit (.bool false)], args := [d] }
  | _ => none }
def ParasMoveWrongFalsely : Prop := parasMoveRow.holds Tryd.pinned (OpenSpec.ofChange parasMoveWrong)

/-- 'quilllaw13.ParasEnd': WHATEVER THE INPUT: true; the input reads as it did. -/
def parasEndSpec : ChangeSpec := { name := "parasEnd", fn := fun _ => fun
  | [d] => { results := [.lit (.bool true)], args := [d] }
  | _ => none }
def parasEndRow : OpenClaim := { program := "ytfkcofnoccanbaadoor", sum := "a488e7e664ea83460e1a909e847aa8d87d895b18a97701fb53ca0b70a8d99aeb", func := "quill/quilllaw13.ParasEnd", spec := "parasEnd", named := ["unicode/utf8.first", "unicode/utf8.acceptRanges"], apart := false, laid := [("unicode/utf8.acceptRanges", laid_unicode_utf8_acceptRanges), ("unicode/utf8.first", laid_unicode_utf8_first)] }
def ParasEndSaid : Prop := parasEndRow.holds Tryd.pinned (OpenSpec.ofChange parasEndSpec)

/-- ITS FALSE NEIGHBOUR: 'it returns false'. Refute it at one input. -/
def parasEndWrong : ChangeSpec := { name := "parasEnd", fn := fun _ => fun
  | [d] => { results := [.lit (.bool false)], args := [d] }
  | _ => none }
def ParasEndWrongFalsely : Prop := parasEndRow.holds Tryd.pinned (OpenSpec.ofChange parasEndWrong)

/- THE SECOND FORM. 'bulk': how many values and letters a reading holds, each counted each time it is reached (what is shared counts as often as it is met; a slice's spare places count too). A statement '..UptoSaid' is the law's where the arguments, and the package variables that the reading takes, are together of bulk at most 1048576: NARROWER than '..Said'. Prove '..Said' where nothing that the law and all that it calls make is longer than what came in: it says more and counts as full. Else prove '..UptoSaid'. A law counts once. -/
mutual
def uptoBulk {H : Type} : DataW H → Nat
  | .lit (.string bytes) => bytes.length + 1
  | .lit _ => 1
  | .nil => 1
  | .ptr d => uptoBulk d + 1
  | .slice elems spare => uptoBulkAll elems + uptoBulkAll spare + 1
  | .agg parts => uptoBulkAll parts + 1
  | .iface _ d => uptoBulk d + 1
  | .map entries => uptoBulkEntries entries + 1
  | .held _ => 1
def uptoBulkAll {H : Type} : List (DataW H) → Nat
  | [] => 0
  | d :: r => uptoBulk d + uptoBulkAll r
def uptoBulkEntries {H : Type} : List (Lit × DataW H) → Nat
  | [] => 0
  | x :: r => uptoBulkEntry x + uptoBulkEntries r
def uptoBulkEntry {H : Type} : Lit × DataW H → Nat
  | (.string bytes, d) => bytes.length + uptoBulk d + 1
  | (_, d) => uptoBulk d + 1
 end
def uptoSmall : (H : Type) → List (DataW H) → Bool := fun _ ds => decide (uptoBulkAll ds ≤ 1048576)
def OpenSpec.upto (s : _root_.Go.ChangeSpec) : _root_.Go.OpenSpec := { _root_.Go.OpenSpec.ofChange s with cond := some uptoSmall }

/-- 'quilllaw11.SeekFinds', WHERE WHAT IT READS IS OF BULK AT MOST 1048576: true; the input reads as it did. -/
def seekFindsUptoRow : OpenClaim := { program := "ytfkcofnoccanbaadoor", sum := "a488e7e664ea83460e1a909e847aa8d87d895b18a97701fb53ca0b70a8d99aeb", func := "quill/quilllaw11.SeekFinds", spec := "seekFinds", named := ["unicode/utf8.first", "unicode/utf8.acceptRanges"], apart := false, laid := [("unicode/utf8.acceptRanges", laid_unicode_utf8_acceptRanges), ("unicode/utf8.first", laid_unicode_utf8_first)], narrowed := true }
def SeekFindsUptoSaid : Prop := seekFindsUptoRow.holds Tryd.pinned (OpenSpec.upto seekFindsSpec)

/-- 'quilllaw11.SeekStands', WHERE WHAT IT READS IS OF BULK AT MOST 1048576: true; the input reads as it did. -/
def seekStandsUptoRow : OpenClaim := { program := "ytfkcofnoccanbaadoor", sum := "a488e7e664ea83460e1a909e847aa8d87d895b18a97701fb53ca0b70a8d99aeb", func := "quill/quilllaw11.SeekStands", spec := "seekStands", named := ["unicode/utf8.first", "unicode/utf8.acceptRanges"], apart := false, laid := [("unicode/utf8.acceptRanges", laid_unicode_utf8_acceptRanges), ("unicode/utf8.first", laid_unicode_utf8_first)], narrowed := true }
def SeekStandsUptoSaid : Prop := seekStandsUptoRow.holds Tryd.pinned (OpenSpec.upto seekStandsSpec)

/-- 'quilllaw13.ParasMove', WHERE WHAT IT READS IS OF BULK AT MOST 1048576: true; the input reads as it did. -/
def parasMoveUptoRow : OpenClaim := { program := "ytfkcofnoccanbaadoor", sum := "a488e7e664ea83460e1a909e847aa8d87d895b18a97701fb53ca0b70a8d99aeb", func := "quill/quilllaw13.ParasMove", spec := "parasMove", named := ["unicode/utf8.first", "unicode/utf8.acceptRanges"], apart := false, laid := [("unicode/utf8.acceptRanges", laid_unicode_utf8_acceptRanges), ("unicode/utf8.first", laid_unicode_utf8_first)], narrowed := true }
def ParasMoveUptoSaid : Prop := parasMoveUptoRow.holds Tryd.pinned (OpenSpec.upto parasMoveSpec)

/-- 'quilllaw13.ParasEnd', WHERE WHAT IT READS IS OF BULK AT MOST 1048576: true; the input reads as it did. -/
def parasEndUptoRow : OpenClaim := { program := "ytfkcofnoccanbaadoor", sum := "a488e7e664ea83460e1a909e847aa8d87d895b18a97701fb53ca0b70a8d99aeb", func := "quill/quilllaw13.ParasEnd", spec := "parasEnd", named := ["unicode/utf8.first", "unicode/utf8.acceptRanges"], apart := false, laid := [("unicode/utf8.acceptRanges", laid_unicode_utf8_acceptRanges), ("unicode/utf8.first", laid_unicode_utf8_first)], narrowed := true }
def ParasEndUptoSaid : Prop := parasEndUptoRow.holds Tryd.pinned (OpenSpec.upto parasEndSpec)

end Rows
end Go.Proofs.YtfkcofnoccanbaaDoor
