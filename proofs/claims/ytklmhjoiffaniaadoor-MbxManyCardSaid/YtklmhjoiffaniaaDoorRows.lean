/-
  NARROWER THAN 'FOR EVERY INPUT', by the rows' own cells (each row's printed sentence says how): MbxReads: laid · MbxShows: laid · MbxMany: laid · MbxBack: laid · MbxJoins: laid.
  DERIVED. THE GIVEN ROWS OF THIS SEAT. 5 by the template 'for every input the law returns true; each argument reads behind the call as it read before'; 0 by the template 'total and deterministic' (their statements: YtklmhjoiffaniaaDoorTotals.lean).
  GIVEN WITH THE SEED: the statements are not yours to turn. If you find one false, say at which input.
  Laid BY PROGRAM, IN A SANDBOX (cutbox-rows.mjs): the forced cells as the released guide's own fill.sh prints them over the translation 4771c12acfa78555… (all of the seat's roots in one cut). By AI agents, Wed Nov 11 2026. No macro, syntax, notation, axiom, sorry.
-/
import Derived.Test.YtklmhjoiffaniaaDoorChecked
import GoSem.PinnedTables
import GoSem.Claim
import GoSem.ClaimJoined
import GoSem.ClaimMapViews
import Derived.JoinedTies
import Derived.KernelRfl
namespace Go.Proofs.YtklmhjoiffaniaaDoor
/- THE CELL 'sum', in the pinned program and in every row, IS THE sha256 OF THE DUMP (.gsa) THAT YtklmhjoiffaniaaDoorProg.lean LOADS. Nothing in Lean hashes anything: it is a label: what it is worth is what the hold of that sum in a sandbox is worth. -/
noncomputable def Tryd.pinned : Pinned := { name := "ytklmhjoiffaniaadoor", sum := "4771c12acfa78555a0528211c12a9042ce0738bc066debfaf1c73f921a93a638", checked := Tryd.checked }
namespace Rows
def none {H : Type} : Left H := { results := [], args := [] }

/- WHAT THE LISTED PACKAGE-LEVEL VARIABLES READ AS WHEN THE CALL BEGINS. Each datum BY PROGRAM (the guide's laid-datum.mjs) off the statement by which the dump's own 'gosem.cut.vars' lays the variable. In a bare row this is a premise. The card (YtklmhjoiffaniaaDoorCards.lean) ties it to the program's text. -/
def laid_unicode_utf8_acceptRanges {H : Type} : DataW H := .agg [.agg [.lit (.int .u8 128), .lit (.int .u8 191)], .agg [.lit (.int .u8 160), .lit (.int .u8 191)], .agg [.lit (.int .u8 128), .lit (.int .u8 159)], .agg [.lit (.int .u8 144), .lit (.int .u8 191)], .agg [.lit (.int .u8 128), .lit (.int .u8 143)], .agg [.lit (.int .u8 0), .lit (.int .u8 0)], .agg [.lit (.int .u8 0), .lit (.int .u8 0)], .agg [.lit (.int .u8 0), .lit (.int .u8 0)], .agg [.lit (.int .u8 0), .lit (.int .u8 0)], .agg [.lit (.int .u8 0), .lit (.int .u8 0)], .agg [.lit (.int .u8 0), .lit (.int .u8 0)], .agg [.lit (.int .u8 0), .lit (.int .u8 0)], .agg [.lit (.int .u8 0), .lit (.int .u8 0)], .agg [.lit (.int .u8 0), .lit (.int .u8 0)], .agg [.lit (.int .u8 0), .lit (.int .u8 0)], .agg [.lit (.int .u8 0), .lit (.int .u8 0)]]
/-- One of Go's own tables, pinned by name: the form's constant. -/
def laid_unicode_utf8_first : DataW Unit := Go.Pinned.utf8First

/-- 'bulletinlaw14.MbxReads': WHATEVER THE INPUT: true; the input reads as it did. -/
def mbxReadsSpec : ChangeSpec := { name := "mbxReads", fn := fun _ => fun
  | [d] => { results := [.lit (.bool true)], args := [d] }
  | _ => none }
def mbxReadsRow : OpenClaim := { program := "ytklmhjoiffaniaadoor", sum := "4771c12acfa78555a0528211c12a9042ce0738bc066debfaf1c73f921a93a638", func := "bulletin/bulletinlaw14.MbxReads", spec := "mbxReads", inPlace := ["internal/abi.NoEscape", "internal/bytealg.IndexByteString", "internal/bytealg.IndexString", "internal/bytealg.CountString", "internal/bytealg.MakeNoZero"], named := ["internal/bytealg.MaxLen", "unicode/utf8.first", "unicode/utf8.acceptRanges"], apart := false, laid := [("unicode/utf8.acceptRanges", laid_unicode_utf8_acceptRanges), ("unicode/utf8.first", laid_unicode_utf8_first)] }
def MbxReadsSaid : Prop := mbxReadsRow.holds Tryd.pinned (OpenSpec.ofChange mbxReadsSpec)

/-- ITS FALSE NEIGHBOUR: 'it returns false'. Refute it at one input. -/
def mbxReadsWrong : ChangeSpec := { name := "mbxReads", fn := fun _ => fun
  | [d] => { results := [.lit (.bool false)], args := [d] }
  | _ => none }
def MbxReadsWrongFalsely : Prop := mbxReadsRow.holds Tryd.pinned (OpenSpec.ofChange mbxReadsWrong)

/-- 'bulletinlaw14.MbxShows': WHATEVER THE INPUT: true; the input reads as it did. -/
def mbxShowsSpec : ChangeSpec := { name := "mbxShows", fn := fun _ => fun
  | [d1, d2] => { results := [.lit (.bool true)], args := [d1, d2] }
  | _ => none }
def mbxShowsRow : OpenClaim := { program := "ytklmhjoiffaniaadoor", sum := "4771c12acfa78555a0528211c12a9042ce0738bc066debfaf1c73f921a93a638", func := "bulletin/bulletinlaw14.MbxShows", spec := "mbxShows", inPlace := ["internal/abi.NoEscape", "internal/bytealg.IndexByteString", "internal/bytealg.IndexString", "internal/bytealg.CountString", "internal/bytealg.MakeNoZero"], named := ["internal/bytealg.MaxLen", "unicode/utf8.first", "unicode/utf8.acceptRanges"], apart := false, laid := [("unicode/utf8.acceptRanges", laid_unicode_utf8_acceptRanges), ("unicode/utf8.first", laid_unicode_utf8_first)] }
def MbxShowsSaid : Prop := mbxShowsRow.holds Tryd.pinned (OpenSpec.ofChange mbxShowsSpec)

/-- ITS FALSE NEIGHBOUR: 'it returns false'. Refute it at one input. -/
def mbxShowsWrong : ChangeSpec := { name := "mbxShows", fn := fun _ => fun
  | [d1, d2] => { results := [.lit (.bool false)], args := [d1, d2] }
  | _ => none }
def MbxShowsWrongFalsely : Prop := mbxShowsRow.holds Tryd.pinned (OpenSpec.ofChange mbxShowsWrong)

/-- 'bulletinlaw14.MbxMany': WHATEVER THE INPUT: true; the input reads as it did. -/
def mbxManySpec : ChangeSpec := { name := "mbxMany", fn := fun _ => fun
  | [d1, d2] => { results := [.lit (.bool true)], args := [d1, d2] }
  | _ => none }
def mbxManyRow : OpenClaim := { program := "ytklmhjoiffaniaadoor", sum := "4771c12acfa78555a0528211c12a9042ce0738bc066debfaf1c73f921a93a638", func := "bulletin/bulletinlaw14.MbxMany", spec := "mbxMany", inPlace := ["internal/abi.NoEscape", "internal/bytealg.IndexByteString", "internal/bytealg.IndexString", "internal/bytealg.CountString", "internal/bytealg.MakeNoZero"], named := ["internal/bytealg.MaxLen", "unicode/utf8.first", "unicode/utf8.acceptRanges"], apart := false, laid := [("unicode/utf8.acceptRanges", laid_unicode_utf8_acceptRanges), ("unicode/utf8.first", laid_unicode_utf8_first)] }
def MbxManySaid : Prop := mbxManyRow.holds Tryd.pinned (OpenSpec.ofChange mbxManySpec)

/-- ITS FALSE NEIGHBOUR: 'it returns false'. Refute it at one input. -/
def mbxManyWrong : ChangeSpec := { name := "mbxMany", fn := fun _ => fun
  | [d1, d2] => { results := [.lit (.bool false)], args := [d1, d2] }
  | _ => none }
def MbxManyWrongFalsely : Prop := mbxManyRow.holds Tryd.pinned (OpenSpec.ofChange mbxManyWrong)

/-- 'bulletinlaw14.MbxBack': WHATEVER THE INPUT: true; the input reads as it did. -/
def mbxBackSpec : ChangeSpec := { name := "mbxBack", fn := fun _ => fun
  | [d] => { results := [.lit (.bool true)], args := [d] }
  | _ => none }
def mbxBackRow : OpenClaim := { program := "ytklmhjoiffaniaadoor", sum := "4771c12acfa78555a0528211c12a9042ce0738bc066debfaf1c73f921a93a638", func := "bulletin/bulletinlaw14.MbxBack", spec := "mbxBack", inPlace := ["internal/abi.NoEscape", "internal/bytealg.IndexByteString", "internal/bytealg.IndexString", "internal/bytealg.CountString", "internal/bytealg.MakeNoZero"], named := ["internal/bytealg.MaxLen", "unicode/utf8.first", "unicode/utf8.acceptRanges"], apart := false, laid := [("unicode/utf8.acceptRanges", laid_unicode_utf8_acceptRanges), ("unicode/utf8.first", laid_unicode_utf8_first)] }
def MbxBackSaid : Prop := mbxBackRow.holds Tryd.pinned (OpenSpec.ofChange mbxBackSpec)

/-- ITS FALSE NEIGHBOUR: 'it returns false'. Refute it at one input. -/
def mbxBackWrong : ChangeSpec := { name := "mbxBack", fn := fun _ => fun
  | [d] => { results := [.lit (.bool false)], args := [d] }
  | _ => none }
def MbxBackWrongFalsely : Prop := mbxBackRow.holds Tryd.pinned (OpenSpec.ofChange mbxBackWrong)

/-- 'bulletinlaw14.MbxJoins': WHATEVER THE INPUT: true; the input reads as it did. -/
def mbxJoinsSpec : ChangeSpec := { name := "mbxJoins", fn := fun _ => fun
  | [d1, d2] => { results := [.lit (.bool true)], args := [d1, d2] }
  | _ => none }
def mbxJoinsRow : OpenClaim := { program := "ytklmhjoiffaniaadoor", sum := "4771c12acfa78555a0528211c12a9042ce0738bc066debfaf1c73f921a93a638", func := "bulletin/bulletinlaw14.MbxJoins", spec := "mbxJoins", inPlace := ["internal/abi.NoEscape", "internal/bytealg.IndexByteString", "internal/bytealg.IndexString", "internal/bytealg.CountString", "internal/bytealg.MakeNoZero"], named := ["internal/bytealg.MaxLen", "unicode/utf8.first", "unicode/utf8.acceptRanges"], apart := false, laid := [("unicode/utf8.acceptRanges", laid_unicode_utf8_acceptRanges), ("unicode/utf8.first", laid_unicode_utf8_first)] }
def MbxJoinsSaid : Prop := mbxJoinsRow.holds Tryd.pinned (OpenSpec.ofChange mbxJoinsSpec)

/-- ITS FALSE NEIGHBOUR: 'it returns false'. Refute it at one input. -/
def mbxJoinsWrong : ChangeSpec := { name := "mbxJoins", fn := fun _ => fun
  | [d1, d2] => { results := [.lit (.bool false)], args := [d1, d2] }
  | _ => none }
def MbxJoinsWrongFalsely : Prop := mbxJoinsRow.holds Tryd.pinned (OpenSpec.ofChange mbxJoinsWrong)

/- THE SECOND FORM. 'bulk': how many values and letters a reading holds, each counted each time it is reached (what is shared counts as often as it is met; a slice's spare places count too). A statement '..UptoSaid' is the law's where the arguments, and the package variables that the reading takes, are together of bulk at most 1048576: NARROWER than '..Said'. Prove '..Said' where nothing that the law and all that it calls make is longer than what came in: it says more and counts as full. Else prove '..UptoSaid'. A law counts once. -/
mutual
def uptoBulk {H : Type} : DataW H → Nat
  | .lit (.string bytes) => bytes.length + 1
  | .lit _ => 1
  | .nil => 1
  | .ptr d => uptoBulk d + 1
  | .slice elems spare => uptoBulkAll elems + uptoBulkAll spare + 1
  | .agg parts => uptoBulkAll parts + 1
  | .iface _ d => uptoBulk d + 1
  | .map entries => uptoBulkEntries entries + 1
  | .held _ => 1
def uptoBulkAll {H : Type} : List (DataW H) → Nat
  | [] => 0
  | d :: r => uptoBulk d + uptoBulkAll r
def uptoBulkEntries {H : Type} : List (Lit × DataW H) → Nat
  | [] => 0
  | x :: r => uptoBulkEntry x + uptoBulkEntries r
def uptoBulkEntry {H : Type} : Lit × DataW H → Nat
  | (.string bytes, d) => bytes.length + uptoBulk d + 1
  | (_, d) => uptoBulk d + 1
 end
def uptoSmall : (H : Type) → List (DataW H) → Bool := fun _ ds => decide (uptoBulkAll ds ≤ 1048576)
def OpenSpec.upto (s : _root_.Go.ChangeSpec) : _root_.Go.OpenSpec := { _root_.Go.OpenSpec.ofChange s with cond := some uptoSmall }

/-- 'bulletinlaw14.MbxReads', WHERE WHAT IT READS IS OF BULK AT MOST 1048576: true; the input reads as it did. -/
def mbxReadsUptoRow : OpenClaim := { program := "ytklmhjoiffaniaadoor", sum := "4771c12acfa78555a0528211c12a9042ce0738bc066debfaf1c73f921a93a638", func := "bulletin/bulletinlaw14.MbxReads", spec := "mbxReads", inPlace := ["internal/abi.NoEscape", "internal/bytealg.IndexByteString", "internal/bytealg.IndexString", "internal/bytealg.CountString", "internal/bytealg.MakeNoZero"], named := ["internal/bytealg.MaxLen", "unicode/utf8.first", "unicode/utf8.acceptRanges"], apart := false, laid := [("unicode/utf8.acceptRanges", laid_unicode_utf8_acceptRanges), ("unicode/utf8.first", laid_unicode_utf8_first)], narrowed := true }
def MbxReadsUptoSaid : Prop := mbxReadsUptoRow.holds Tryd.pinned (OpenSpec.upto mbxReadsSpec)

/-- 'bulletinlaw14.MbxShows', WHERE WHAT IT READS IS OF BULK AT MOST 1048576: true; the input reads as it did. -/
def mbxShowsUptoRow : OpenClaim := { program := "ytklmhjoiffaniaadoor", sum := "4771c12acfa78555a0528211c12a9042ce0738bc066debfaf1c73f921a93a638", func := "bulletin/bulletinlaw14.MbxShows", spec := "mbxShows", inPlace := ["internal/abi.NoEscape", "internal/bytealg.IndexByteString", "internal/bytealg.IndexString", "internal/bytealg.CountString", "internal/bytealg.MakeNoZero"], named := ["internal/bytealg.MaxLen", "unicode/utf8.first", "unicode/utf8.acceptRanges"], apart := false, laid := [("unicode/utf8.acceptRanges", laid_unicode_utf8_acceptRanges), ("unicode/utf8.first", laid_unicode_utf8_first)], narrowed := true }
def MbxShowsUptoSaid : Prop := mbxShowsUptoRow.holds Tryd.pinned (OpenSpec.upto mbxShowsSpec)

/-- 'bulletinlaw14.MbxMany', WHERE WHAT IT READS IS OF BULK AT MOST 1048576: true; the input reads as it did. -/
def mbxManyUptoRow : OpenClaim := { program := "ytklmhjoiffaniaadoor", sum := "4771c12acfa78555a0528211c12a9042ce0738bc066debfaf1c73f921a93a638", func := "bulletin/bulletinlaw14.MbxMany", spec := "mbxMany", inPlace := ["internal/abi.NoEscape", "internal/bytealg.IndexByteString", "internal/bytealg.IndexString", "internal/bytealg.CountString", "internal/bytealg.MakeNoZero"], named := ["internal/bytealg.MaxLen", "unicode/utf8.first", "unicode/utf8.acceptRanges"], apart := false, laid := [("unicode/utf8.acceptRanges", laid_unicode_utf8_acceptRanges), ("unicode/utf8.first", laid_unicode_utf8_first)], narrowed := true }
def MbxManyUptoSaid : Prop := mbxManyUptoRow.holds Tryd.pinned (OpenSpec.upto mbxManySpec)

/-- 'bulletinlaw14.MbxBack', WHERE WHAT IT READS IS OF BULK AT MOST 1048576: true; the input reads as it did. -/
def mbxBackUptoRow : OpenClaim := { program := "ytklmhjoiffaniaadoor", sum := "4771c12acfa78555a0528211c12a9042ce0738bc066debfaf1c73f921a93a638", func := "bulletin/bulletinlaw14.MbxBack", spec := "mbxBack", inPlace := ["internal/abi.NoEscape", "internal/bytealg.IndexByteString", "internal/bytealg.IndexString", "internal/bytealg.CountString", "internal/bytealg.MakeNoZero"], named := ["internal/bytealg.MaxLen", "unicode/utf8.first", "unicode/utf8.acceptRanges"], apart := false, laid := [("unicode/utf8.acceptRanges", laid_unicode_utf8_acceptRanges), ("unicode/utf8.first", laid_unicode_utf8_first)], narrowed := true }
def MbxBackUptoSaid : Prop := mbxBackUptoRow.holds Tryd.pinned (OpenSpec.upto mbxBackSpec)

/-- 'bulletinlaw14.MbxJoins', WHERE WHAT IT READS IS OF BULK AT MOST 1048576: true; the input reads as it did. -/
def mbxJoinsUptoRow : OpenClaim := { program := "ytklmhjoiffaniaadoor", sum := "4771c12acfa78555a0528211c12a9042ce0738bc066debfaf1c73f921a93a638", func := "bulletin/bulletinlaw14.MbxJoins", spec := "mbxJoins", inPlace := ["internal/abi.NoEscape", "internal/bytealg.IndexByteString", "internal/bytealg.IndexString", "internal/bytealg.CountString", "internal/bytealg.MakeNoZero"], named := ["internal/bytealg.MaxLen", "unicode/utf8.first", "unicode/utf8.acceptRanges"], apart := false, laid := [("unicode/utf8.acceptRanges", laid_unicode_utf8_acceptRanges), ("unicode/utf8.first", laid_unicode_utf8_first)], narrowed := true }
def MbxJoinsUptoSaid : Prop := mbxJoinsUptoRow.holds Tryd.pinned (OpenSpec.upto mbxJoinsSpec)

end Rows
end Go.Proofs.YtklmhjoiffaniaaDoor
