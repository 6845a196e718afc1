/-
  NARROWER THAN 'FOR EVERY INPUT', by the rows' own cells (each row's printed sentence says how): QpWrites: laid · QpReads: laid · QpBack: laid · QpWidth: laid · QpLines: laid.
  DERIVED. THE GIVEN ROWS OF THIS SEAT. 5 by the template 'for every input the law returns true; each argument reads behind the call as it read before'; 0 by the template 'total and deterministic' (their statements: YtobnckbpgckgjaaDoorTotals.lean).
  GIVEN WITH THE SEED: the statements are not yours to turn. If you find one false, say at which input.
  Laid BY PROGRAM, IN A SANDBOX (cutbox-rows.mjs): the forced cells as the released guide's own fill.sh prints them over the translation 0d5eae7fb7a5da7e… (all of the seat's roots in one cut). By AI agents, Wed Nov 11 2026. No macro, syntax, notation, axiom, sorry.
-/
import Derived.Test.YtobnckbpgckgjaaDoorChecked
import GoSem.PinnedTables
import GoSem.Claim
import GoSem.ClaimJoined
import GoSem.ClaimMapViews
import Derived.JoinedTies
import Derived.KernelRfl
namespace Go.Proofs.YtobnckbpgckgjaaDoor
/- THE CELL 'sum', in the pinned program and in every row, IS THE sha256 OF THE DUMP (.gsa) THAT YtobnckbpgckgjaaDoorProg.lean LOADS. Nothing in Lean hashes anything: it is a label: what it is worth is what the hold of that sum in a sandbox is worth. -/
noncomputable def Tryd.pinned : Pinned := { name := "ytobnckbpgckgjaadoor", sum := "0d5eae7fb7a5da7e78aa0eced7b2c4ddd575b514aaf76f97b58151dbfe98f3d0", checked := Tryd.checked }
namespace Rows
def none {H : Type} : Left H := { results := [], args := [] }

/- WHAT THE LISTED PACKAGE-LEVEL VARIABLES READ AS WHEN THE CALL BEGINS. Each datum BY PROGRAM (the guide's laid-datum.mjs) off the statement by which the dump's own 'gosem.cut.vars' lays the variable. In a bare row this is a premise. The card (YtobnckbpgckgjaaDoorCards.lean) ties it to the program's text. -/
def laid_unicode_utf8_acceptRanges {H : Type} : DataW H := .agg [.agg [.lit (.int .u8 128), .lit (.int .u8 191)], .agg [.lit (.int .u8 160), .lit (.int .u8 191)], .agg [.lit (.int .u8 128), .lit (.int .u8 159)], .agg [.lit (.int .u8 144), .lit (.int .u8 191)], .agg [.lit (.int .u8 128), .lit (.int .u8 143)], .agg [.lit (.int .u8 0), .lit (.int .u8 0)], .agg [.lit (.int .u8 0), .lit (.int .u8 0)], .agg [.lit (.int .u8 0), .lit (.int .u8 0)], .agg [.lit (.int .u8 0), .lit (.int .u8 0)], .agg [.lit (.int .u8 0), .lit (.int .u8 0)], .agg [.lit (.int .u8 0), .lit (.int .u8 0)], .agg [.lit (.int .u8 0), .lit (.int .u8 0)], .agg [.lit (.int .u8 0), .lit (.int .u8 0)], .agg [.lit (.int .u8 0), .lit (.int .u8 0)], .agg [.lit (.int .u8 0), .lit (.int .u8 0)], .agg [.lit (.int .u8 0), .lit (.int .u8 0)]]
/-- One of Go's own tables, pinned by name: the form's constant. -/
def laid_unicode_utf8_first : DataW Unit := Go.Pinned.utf8First

/-- 'bulletinlaw17.QpWrites': WHATEVER THE INPUT: true; the input reads as it did. -/
def qpWritesSpec : ChangeSpec := { name := "qpWrites", fn := fun _ => fun
  | [d] => { results := [.lit (.bool true)], args := [d] }
  | _ => none }
def qpWritesRow : OpenClaim := { program := "ytobnckbpgckgjaadoor", sum := "0d5eae7fb7a5da7e78aa0eced7b2c4ddd575b514aaf76f97b58151dbfe98f3d0", func := "bulletin/bulletinlaw17.QpWrites", spec := "qpWrites", inPlace := ["internal/bytealg.IndexByteString", "internal/bytealg.IndexString", "internal/abi.NoEscape"], named := ["internal/bytealg.MaxLen", "unicode/utf8.first", "unicode/utf8.acceptRanges"], apart := false, laid := [("unicode/utf8.acceptRanges", laid_unicode_utf8_acceptRanges), ("unicode/utf8.first", laid_unicode_utf8_first)] }
def QpWritesSaid : Prop := qpWritesRow.holds Tryd.pinned (OpenSpec.ofChange qpWritesSpec)

/-- ITS FALSE NEIGHBOUR: 'it returns false'. Refute it at one input. -/
def qpWritesWrong : ChangeSpec := { name := "qpWrites", fn := fun _ => fun
  | [d] => { results := [.lit (.bool false)], args := [d] }
  | _ => none }
def QpWritesWrongFalsely : Prop := qpWritesRow.holds Tryd.pinned (OpenSpec.ofChange qpWritesWrong)

/-- 'bulletinlaw17.QpReads': WHATEVER THE INPUT: true; the input reads as it did. -/
def qpReadsSpec : ChangeSpec := { name := "qpReads", fn := fun _ => fun
  | [d1, d2] => { results := [.lit (.bool true)], args := [d1, d2] }
  | _ => none }
def qpReadsRow : OpenClaim := { program := "ytobnckbpgckgjaadoor", sum := "0d5eae7fb7a5da7e78aa0eced7b2c4ddd575b514aaf76f97b58151dbfe98f3d0", func := "bulletin/bulletinlaw17.QpReads", spec := "qpReads", inPlace := ["internal/bytealg.IndexByteString", "internal/bytealg.IndexString", "internal/abi.NoEscape"], named := ["internal/bytealg.MaxLen", "unicode/utf8.first", "unicode/utf8.acceptRanges"], apart := false, laid := [("unicode/utf8.acceptRanges", laid_unicode_utf8_acceptRanges), ("unicode/utf8.first", laid_unicode_utf8_first)] }
def QpReadsSaid : Prop := qpReadsRow.holds Tryd.pinned (OpenSpec.ofChange qpReadsSpec)

/-- ITS FALSE NEIGHBOUR: 'it returns false'. Refute it at one input. -/
def qpReadsWrong : ChangeSpec := { name := "qpReads", fn := fun _ => fun
  | [d1, d2] => { results := [.lit (.bool false)], args := [d1, d2] }
  | _ => none }
def QpReadsWrongFalsely : Prop := qpReadsRow.holds Tryd.pinned (OpenSpec.ofChange qpReadsWrong)

/-- 'bulletinlaw17.QpBack': WHATEVER THE INPUT: true; the input reads as it did. -/
def qpBackSpec : ChangeSpec := { name := "qpBack", fn := fun _ => fun
  | [d1, d2] => { results := [.lit (.bool true)], args := [d1, d2] }
  | _ => none }
def qpBackRow : OpenClaim := { program := "ytobnckbpgckgjaadoor", sum := "0d5eae7fb7a5da7e78aa0eced7b2c4ddd575b514aaf76f97b58151dbfe98f3d0", func := "bulletin/bulletinlaw17.QpBack", spec := "qpBack", inPlace := ["internal/bytealg.IndexByteString", "internal/bytealg.IndexString", "internal/abi.NoEscape"], named := ["internal/bytealg.MaxLen", "unicode/utf8.first", "unicode/utf8.acceptRanges"], apart := false, laid := [("unicode/utf8.acceptRanges", laid_unicode_utf8_acceptRanges), ("unicode/utf8.first", laid_unicode_utf8_first)] }
def QpBackSaid : Prop := qpBackRow.holds Tryd.pinned (OpenSpec.ofChange qpBackSpec)

/-- ITS FALSE NEIGHBOUR: 'it returns false'. Refute it at one input. -/
def qpBackWrong : ChangeSpec := { name := "qpBack", fn := fun _ => fun
  | [d1, d2] => { results := [.lit (.bool false)], args := [d1, d2] }
  | _ => none }
def QpBackWrongFalsely : Prop := qpBackRow.holds Tryd.pinned (OpenSpec.ofChange qpBackWrong)

/-- 'bulletinlaw17.QpWidth': WHATEVER THE INPUT: true; the input reads as it did. -/
def qpWidthSpec : ChangeSpec := { name := "qpWidth", fn := fun _ => fun
  | [d] => { results := [.lit (.bool true)], args := [d] }
  | _ => none }
def qpWidthRow : OpenClaim := { program := "ytobnckbpgckgjaadoor", sum := "0d5eae7fb7a5da7e78aa0eced7b2c4ddd575b514aaf76f97b58151dbfe98f3d0", func := "bulletin/bulletinlaw17.QpWidth", spec := "qpWidth", inPlace := ["internal/bytealg.IndexByteString", "internal/bytealg.IndexString", "internal/abi.NoEscape"], named := ["internal/bytealg.MaxLen", "unicode/utf8.first", "unicode/utf8.acceptRanges"], apart := false, laid := [("unicode/utf8.acceptRanges", laid_unicode_utf8_acceptRanges), ("unicode/utf8.first", laid_unicode_utf8_first)] }
def QpWidthSaid : Prop := qpWidthRow.holds Tryd.pinned (OpenSpec.ofChange qpWidthSpec)

/-- ITS FALSE NEIGHBOUR: 'it returns false'. Refute it at one input. -/
def qpWidthWrong : ChangeSpec := { name := "qpWidth", fn := fun _ => fun
  | [d] => { results := [.lit (.bool false)], args := [d] }
  | _ => none }
def QpWidthWrongFalsely : Prop := qpWidthRow.holds Tryd.pinned (OpenSpec.ofChange qpWidthWrong)

/-- 'bulletinlaw17.QpLines': WHATEVER THE INPUT: true; the input reads as it did. -/
def qpLinesSpec : ChangeSpec := { name := "qpLines", fn := fun _ => fun
  | [d1, d2] => { results := [.lit (.bool true)], args := [d1, d2] }
  | _ => none }
def qpLinesRow : OpenClaim := { program := "ytobnckbpgckgjaadoor", sum := "0d5eae7fb7a5da7e78aa0eced7b2c4ddd575b514aaf76f97b58151dbfe98f3d0", func := "bulletin/bulletinlaw17.QpLines", spec := "qpLines", inPlace := ["internal/bytealg.IndexByteString", "internal/bytealg.IndexString", "internal/abi.NoEscape"], named := ["internal/bytealg.MaxLen", "unicode/utf8.first", "unicode/utf8.acceptRanges"], apart := false, laid := [("unicode/utf8.acceptRanges", laid_unicode_utf8_acceptRanges), ("unicode/utf8.first", laid_unicode_utf8_first)] }
def QpLinesSaid : Prop := qpLinesRow.holds Tryd.pinned (OpenSpec.ofChange qpLinesSpec)

/-- ITS FALSE NEIGHBOUR: 'it returns false'. Refute it at one input. -/
def qpLinesWrong : ChangeSpec := { name := "qpLines", fn := fun _ => fun
  | [d1, d2] => { results := [.lit (.bool false)], args := [d1, d2] }
  | _ => none }
def QpLinesWrongFalsely : Prop := qpLinesRow.holds Tryd.pinned (OpenSpec.ofChange qpLinesWrong)

/- THE SECOND FORM. 'bulk': how many values and letters a reading holds, each counted each time it is reached (what is shared counts as often as it is met; a slice's spare places count too). A statement '..UptoSaid' is the law's where the arguments, and the package variables that the reading takes, are together of bulk at most 1048576: NARROWER than '..Said'. Prove '..Said' where nothing that the law and all that it calls make is longer than what came in: it says more and counts as full. Else prove '..UptoSaid'. A law counts once. -/
mutual
def uptoBulk {H : Type} : DataW H → Nat
  | .lit (.string bytes) => bytes.length + 1
  | .lit _ => 1
  | .nil => 1
  | .ptr d => uptoBulk d + 1
  | .slice elems spare => uptoBulkAll elems + uptoBulkAll spare + 1
  | .agg parts => uptoBulkAll parts + 1
  | .iface _ d => uptoBulk d + 1
  | .map entries => uptoBulkEntries entries + 1
  | .held _ => 1
def uptoBulkAll {H : Type} : List (DataW H) → Nat
  | [] => 0
  | d :: r => uptoBulk d + uptoBulkAll r
def uptoBulkEntries {H : Type} : List (Lit × DataW H) → Nat
  | [] => 0
  | x :: r => uptoBulkEntry x + uptoBulkEntries r
def uptoBulkEntry {H : Type} : Lit × DataW H → Nat
  | (.string bytes, d) => bytes.length + uptoBulk d + 1
  | (_, d) => uptoBulk d + 1
 end
def uptoSmall : (H : Type) → List (DataW H) → Bool := fun _ ds => decide (uptoBulkAll ds ≤ 1048576)
def OpenSpec.upto (s : _root_.Go.ChangeSpec) : _root_.Go.OpenSpec := { _root_.Go.OpenSpec.ofChange s with cond := some uptoSmall }

/-- 'bulletinlaw17.QpWrites', WHERE WHAT IT READS IS OF BULK AT MOST 1048576: true; the input reads as it did. -/
def qpWritesUptoRow : OpenClaim := { program := "ytobnckbpgckgjaadoor", sum := "0d5eae7fb7a5da7e78aa0eced7b2c4ddd575b514aaf76f97b58151dbfe98f3d0", func := "bulletin/bulletinlaw17.QpWrites", spec := "qpWrites", inPlace := ["internal/bytealg.IndexByteString", "internal/bytealg.IndexString", "internal/abi.NoEscape"], named := ["internal/bytealg.MaxLen", "unicode/utf8.first", "unicode/utf8.acceptRanges"], apart := false, laid := [("unicode/utf8.acceptRanges", laid_unicode_utf8_acceptRanges), ("unicode/utf8.first", laid_unicode_utf8_first)], narrowed := true }
def QpWritesUptoSaid : Prop := qpWritesUptoRow.holds Tryd.pinned (OpenSpec.upto qpWritesSpec)

/-- 'bulletinlaw17.QpReads', WHERE WHAT IT READS IS OF BULK AT MOST 1048576: true; the input reads as it did. -/
def qpReadsUptoRow : OpenClaim := { program := "ytobnckbpgckgjaadoor", sum := "0d5eae7fb7a5da7e78aa0eced7b2c4ddd575b514aaf76f97b58151dbfe98f3d0", func := "bulletin/bulletinlaw17.QpReads", spec := "qpReads", inPlace := ["internal/bytealg.IndexByteString", "internal/bytealg.IndexString", "internal/abi.NoEscape"], named := ["internal/bytealg.MaxLen", "unicode/utf8.first", "unicode/utf8.acceptRanges"], apart := false, laid := [("unicode/utf8.acceptRanges", laid_unicode_utf8_acceptRanges), ("unicode/utf8.first", laid_unicode_utf8_first)], narrowed := true }
def QpReadsUptoSaid : Prop := qpReadsUptoRow.holds Tryd.pinned (OpenSpec.upto qpReadsSpec)

/-- 'bulletinlaw17.QpBack', WHERE WHAT IT READS IS OF BULK AT MOST 1048576: true; the input reads as it did. -/
def qpBackUptoRow : OpenClaim := { program := "ytobnckbpgckgjaadoor", sum := "0d5eae7fb7a5da7e78aa0eced7b2c4ddd575b514aaf76f97b58151dbfe98f3d0", func := "bulletin/bulletinlaw17.QpBack", spec := "qpBack", inPlace := ["internal/bytealg.IndexByteString", "internal/bytealg.IndexString", "internal/abi.NoEscape"], named := ["internal/bytealg.MaxLen", "unicode/utf8.first", "unicode/utf8.acceptRanges"], apart := false, laid := [("unicode/utf8.acceptRanges", laid_unicode_utf8_acceptRanges), ("unicode/utf8.first", laid_unicode_utf8_first)], narrowed := true }
def QpBackUptoSaid : Prop := qpBackUptoRow.holds Tryd.pinned (OpenSpec.upto qpBackSpec)

/-- 'bulletinlaw17.QpWidth', WHERE WHAT IT READS IS OF BULK AT MOST 1048576: true; the input reads as it did. -/
def qpWidthUptoRow : OpenClaim := { program := "ytobnckbpgckgjaadoor", sum := "0d5eae7fb7a5da7e78aa0eced7b2c4ddd575b514aaf76f97b58151dbfe98f3d0", func := "bulletin/bulletinlaw17.QpWidth", spec := "qpWidth", inPlace := ["internal/bytealg.IndexByteString", "internal/bytealg.IndexString", "internal/abi.NoEscape"], named := ["internal/bytealg.MaxLen", "unicode/utf8.first", "unicode/utf8.acceptRanges"], apart := false, laid := [("unicode/utf8.acceptRanges", laid_unicode_utf8_acceptRanges), ("unicode/utf8.first", laid_unicode_utf8_first)], narrowed := true }
def QpWidthUptoSaid : Prop := qpWidthUptoRow.holds Tryd.pinned (OpenSpec.upto qpWidthSpec)

/-- 'bulletinlaw17.QpLines', WHERE WHAT IT READS IS OF BULK AT MOST 1048576: true; the input reads as it did. -/
def qpLinesUptoRow : OpenClaim := { program := "ytobnckbpgckgjaadoor", sum := "0d5eae7fb7a5da7e78aa0eced7b2c4ddd575b514aaf76f97b58151dbfe98f3d0", func := "bulletin/bulletinlaw17.QpLines", spec := "qpLines", inPlace := ["internal/bytealg.IndexByteString", "internal/bytealg.IndexString", "internal/abi.NoEscape"], named := ["internal/bytealg.MaxLen", "unicode/utf8.first", "unicode/utf8.acceptRanges"], apart := false, laid := [("unicode/utf8.acceptRanges", laid_unicode_utf8_acceptRanges), ("unicode/utf8.first", laid_unicode_utf8_first)], narrowed := true }
def QpLinesUptoSaid : Prop := qpLinesUptoRow.holds Tryd.pinned (OpenSpec.upto qpLinesSpec)

end Rows
end Go.Proofs.YtobnckbpgckgjaaDoor
