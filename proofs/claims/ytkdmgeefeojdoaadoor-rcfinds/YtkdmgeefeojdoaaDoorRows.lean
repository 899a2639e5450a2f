/-
  NARROWER THAN 'FOR EVERY INPUT', by the rows' own cells (each row's printed sentence says how): RcCodes: laid · RcFinds: laid · RcBack: laid · RcNobody: laid.
  DERIVED. THE GIVEN ROWS OF THIS SEAT. 4 by the template 'for every input the law returns true; each argument reads behind the call as it read before'; 0 by the template 'total and deterministic' (their statements: YtkdmgeefeojdoaaDoorTotals.lean).
  GIVEN WITH THE SEED: the statements are not yours to turn. If you find one false, say at which input.
  Laid BY PROGRAM, IN A SANDBOX (cutbox-rows.mjs): the forced cells as the released guide's own fill.sh prints them over the translation 6e98d3a2fbaf506a… (all of the seat's roots in one cut). By AI agents, Wed Nov 11 2026. No macro, syntax, notation, axiom, sorry.
-/
import Derived.Test.YtkdmgeefeojdoaaDoorChecked
import GoSem.PinnedTables
import GoSem.Claim
import GoSem.ClaimJoined
import GoSem.ClaimMapViews
import Derived.JoinedTies
import Derived.KernelRfl
namespace Go.Proofs.YtkdmgeefeojdoaaDoor
/- THE CELL 'sum', in the pinned program and in every row, IS THE sha256 OF THE DUMP (.gsa) THAT YtkdmgeefeojdoaaDoorProg.lean LOADS. Nothing in Lean hashes anything: it is a label: what it is worth is what the hold of that sum in a sandbox is worth. -/
noncomputable def Tryd.pinned : Pinned := { name := "ytkdmgeefeojdoaadoor", sum := "6e98d3a2fbaf506af980cc97b9a09b6eb69a78f2228dc090f3260ebb992341b5", checked := Tryd.checked }
namespace Rows
def none {H : Type} : Left H := { results := [], args := [] }

/- WHAT THE LISTED PACKAGE-LEVEL VARIABLES READ AS WHEN THE CALL BEGINS. Each datum BY PROGRAM (the guide's laid-datum.mjs) off the statement by which the dump's own 'gosem.cut.vars' lays the variable. In a bare row this is a premise. The card (YtkdmgeefeojdoaaDoorCards.lean) ties it to the program's text. -/
def laid_unicode_utf8_acceptRanges {H : Type} : DataW H := .agg [.agg [.lit (.int .u8 128), .lit (.int .u8 191)], .agg [.lit (.int .u8 160), .lit (.int .u8 191)], .agg [.lit (.int .u8 128), .lit (.int .u8 159)], .agg [.lit (.int .u8 144), .lit (.int .u8 191)], .agg [.lit (.int .u8 128), .lit (.int .u8 143)], .agg [.lit (.int .u8 0), .lit (.int .u8 0)], .agg [.lit (.int .u8 0), .lit (.int .u8 0)], .agg [.lit (.int .u8 0), .lit (.int .u8 0)], .agg [.lit (.int .u8 0), .lit (.int .u8 0)], .agg [.lit (.int .u8 0), .lit (.int .u8 0)], .agg [.lit (.int .u8 0), .lit (.int .u8 0)], .agg [.lit (.int .u8 0), .lit (.int .u8 0)], .agg [.lit (.int .u8 0), .lit (.int .u8 0)], .agg [.lit (.int .u8 0), .lit (.int .u8 0)], .agg [.lit (.int .u8 0), .lit (.int .u8 0)], .agg [.lit (.int .u8 0), .lit (.int .u8 0)]]
/-- One of Go's own tables, pinned by name: the form's constant. -/
def laid_unicode_utf8_first : DataW Unit := Go.Pinned.utf8First

/-- 'splicerlaw04.RcCodes': WHATEVER THE INPUT: true; the input reads as it did. -/
def rcCodesSpec : ChangeSpec := { name := "rcCodes", fn := fun _ => fun
  | [d1, d2] => { results := [.lit (.bool true)], args := [d1, d2] }
  | _ => none }
def rcCodesRow : OpenClaim := { program := "ytkdmgeefeojdoaadoor", sum := "6e98d3a2fbaf506af980cc97b9a09b6eb69a78f2228dc090f3260ebb992341b5", func := "splicer/splicerlaw04.RcCodes", spec := "rcCodes", inPlace := ["internal/abi.NoEscape", "internal/bytealg.MakeNoZero", "internal/bytealg.IndexByteString", "internal/bytealg.IndexString"], named := ["unicode/utf8.first", "unicode/utf8.acceptRanges", "internal/bytealg.MaxLen"], apart := false, laid := [("unicode/utf8.acceptRanges", laid_unicode_utf8_acceptRanges), ("unicode/utf8.first", laid_unicode_utf8_first)] }
def RcCodesSaid : Prop := rcCodesRow.holds Tryd.pinned (OpenSpec.ofChange rcCodesSpec)

/-- ITS FALSE NEIGHBOUR: 'it returns false'. Refute it at one input. -/
def rcCodesWrong : ChangeSpec := { name := "rcCodes", fn := fun _ => fun
  | [d1, d2] => { results := [.lit (.bool false)], args := [d1, d2] }
  | _ => none }
def RcCodesWrongFalsely : Prop := rcCodesRow.holds Tryd.pinned (OpenSpec.ofChange rcCodesWrong)

/-- 'splicerlaw04.RcFinds': WHATEVER THE INPUT: true; the input reads as it did. -/
def rcFindsSpec : ChangeSpec := { name := "rcFinds", fn := fun _ => fun
  | [d1, d2, d3] => { results := [.lit (.bool true)], args := [d1, d2, d3] }
  | _ => none }
def rcFindsRow : OpenClaim := { program := "ytkdmgeefeojdoaadoor", sum := "6e98d3a2fbaf506af980cc97b9a09b6eb69a78f2228dc090f3260ebb992341b5", func := "splicer/splicerlaw04.RcFinds", spec := "rcFinds", inPlace := ["internal/abi.NoEscape", "internal/bytealg.MakeNoZero", "internal/bytealg.IndexByteString", "internal/bytealg.IndexString"], named := ["unicode/utf8.first", "unicode/utf8.acceptRanges", "internal/bytealg.MaxLen"], apart := false, laid := [("unicode/utf8.acceptRanges", laid_unicode_utf8_acceptRanges), ("unicode/utf8.first", laid_unicode_utf8_first)] }
def RcFindsSaid : Prop := rcFindsRow.holds Tryd.pinned (OpenSpec.ofChange rcFindsSpec)

/-- ITS FALSE NEIGHBOUR: 'it returns false'. Refute it at one input. -/
def rcFindsWrong : ChangeSpec := { name := "rcFinds", fn := fun _ => fun
  | [d1, d2, d3] => { results := [.lit (.bool false)], args := [d1, d2, d3] }
  | _ => none }
def RcFindsWrongFalsely : Prop := rcFindsRow.holds Tryd.pinned (OpenSpec.ofChange rcFindsWrong)

/-- 'splicerlaw04.RcBack': WHATEVER THE INPUT: true; the input reads as it did. -/
def rcBackSpec : ChangeSpec := { name := "rcBack", fn := fun _ => fun
  | [d] => { results := [.lit (.bool true)], args := [d] }
  | _ => none }
def rcBackRow : OpenClaim := { program := "ytkdmgeefeojdoaadoor", sum := "6e98d3a2fbaf506af980cc97b9a09b6eb69a78f2228dc090f3260ebb992341b5", func := "splicer/splicerlaw04.RcBack", spec := "rcBack", inPlace := ["internal/abi.NoEscape", "internal/bytealg.MakeNoZero", "internal/bytealg.IndexByteString", "internal/bytealg.IndexString"], named := ["unicode/utf8.first", "unicode/utf8.acceptRanges", "internal/bytealg.MaxLen"], apart := false, laid := [("unicode/utf8.acceptRanges", laid_unicode_utf8_acceptRanges), ("unicode/utf8.first", laid_unicode_utf8_first)] }
def RcBackSaid : Prop := rcBackRow.holds Tryd.pinned (OpenSpec.ofChange rcBackSpec)

/-- ITS FALSE NEIGHBOUR: 'it returns false'. Refute it at one input. -/
def rcBackWrong : ChangeSpec := { name := "rcBack", fn := fun _ => fun
  | [d] => { results := [.lit (.bool false)], args := [d] }
  | _ => none }
def RcBackWrongFalsely : Prop := rcBackRow.holds Tryd.pinned (OpenSpec.ofChange rcBackWrong)

/-- 'splicerlaw04.RcNobody': WHATEVER THE INPUT: true; the input reads as it did. -/
def rcNobodySpec : ChangeSpec := { name := "rcNobody", fn := fun _ => fun
  | [d1, d2, d3] => { results := [.lit (.bool true)], args := [d1, d2, d3] }
  | _ => none }
def rcNobodyRow : OpenClaim := { program := "ytkdmgeefeojdoaadoor", sum := "6e98d3a2fbaf506af980cc97b9a09b6eb69a78f2228dc090f3260ebb992341b5", func := "splicer/splicerlaw04.RcNobody", spec := "rcNobody", inPlace := ["internal/abi.NoEscape", "internal/bytealg.MakeNoZero", "internal/bytealg.IndexByteString", "internal/bytealg.IndexString"], named := ["unicode/utf8.first", "unicode/utf8.acceptRanges", "internal/bytealg.MaxLen"], apart := false, laid := [("unicode/utf8.acceptRanges", laid_unicode_utf8_acceptRanges), ("unicode/utf8.first", laid_unicode_utf8_first)] }
def RcNobodySaid : Prop := rcNobodyRow.holds Tryd.pinned (OpenSpec.ofChange rcNobodySpec)

/-- ITS FALSE NEIGHBOUR: 'it returns false'. Refute it at one input. -/
def rcNobodyWrong : ChangeSpec := { name := "rcNobody", fn := fun _ => fun
  | [d1, d2, d3] => { results := [.lit (.bool false)], args := [d1, d2, d3] }
  | _ => none }
def RcNobodyWrongFalsely : Prop := rcNobodyRow.holds Tryd.pinned (OpenSpec.ofChange rcNobodyWrong)

/- THE SECOND FORM. 'bulk': how many values and letters a reading holds, each counted each time it is reached (what is shared counts as often as it is met; a slice's spare places count too). A statement '..UptoSaid' is the law's where the arguments, and the package variables that the reading takes, are together of bulk at most 1048576: NARROWER than '..Said'. Prove '..Said' where nothing that the law and all that it calls make is longer than what came in: it says more and counts as full. Else prove '..UptoSaid'. A law counts once. -/
mutual
def uptoBulk {H : Type} : DataW H → Nat
  | .lit (.string bytes) => bytes.length + 1
  | .lit _ => 1
  | .nil => 1
  | .ptr d => uptoBulk d + 1
  | .slice elems spare => uptoBulkAll elems + uptoBulkAll spare + 1
  | .agg parts => uptoBulkAll parts + 1
  | .iface _ d => uptoBulk d + 1
  | .map entries => uptoBulkEntries entries + 1
  | .held _ => 1
def uptoBulkAll {H : Type} : List (DataW H) → Nat
  | [] => 0
  | d :: r => uptoBulk d + uptoBulkAll r
def uptoBulkEntries {H : Type} : List (Lit × DataW H) → Nat
  | [] => 0
  | x :: r => uptoBulkEntry x + uptoBulkEntries r
def uptoBulkEntry {H : Type} : Lit × DataW H → Nat
  | (.string bytes, d) => bytes.length + uptoBulk d + 1
  | (_, d) => uptoBulk d + 1
 end
def uptoSmall : (H : Type) → List (DataW H) → Bool := fun _ ds => decide (uptoBulkAll ds ≤ 1048576)
def OpenSpec.upto (s : _root_.Go.ChangeSpec) : _root_.Go.OpenSpec := { _root_.Go.OpenSpec.ofChange s with cond := some uptoSmall }

/-- 'splicerlaw04.RcCodes', WHERE WHAT IT READS IS OF BULK AT MOST 1048576: true; the input reads as it did. -/
def rcCodesUptoRow : OpenClaim := { program := "ytkdmgeefeojdoaadoor", sum := "6e98d3a2fbaf506af980cc97b9a09b6eb69a78f2228dc090f3260ebb992341b5", func := "splicer/splicerlaw04.RcCodes", spec := "rcCodes", inPlace := ["internal/abi.NoEscape", "internal/bytealg.MakeNoZero", "internal/bytealg.IndexByteString", "internal/bytealg.IndexString"], named := ["unicode/utf8.first", "unicode/utf8.acceptRanges", "internal/bytealg.MaxLen"], apart := false, laid := [("unicode/utf8.acceptRanges", laid_unicode_utf8_acceptRanges), ("unicode/utf8.first", laid_unicode_utf8_first)], narrowed := true }
def RcCodesUptoSaid : Prop := rcCodesUptoRow.holds Tryd.pinned (OpenSpec.upto rcCodesSpec)

/-- 'splicerlaw04.RcFinds', WHERE WHAT IT READS IS OF BULK AT MOST 1048576: true; the input reads as it did. -/
def rcFindsUptoRow : OpenClaim := { program := "ytkdmgeefeojdoaadoor", sum := "6e98d3a2fbaf506af980cc97b9a09b6eb69a78f2228dc090f3260ebb992341b5", func := "splicer/splicerlaw04.RcFinds", spec := "rcFinds", inPlace := ["internal/abi.NoEscape", "internal/bytealg.MakeNoZero", "internal/bytealg.IndexByteString", "internal/bytealg.IndexString"], named := ["unicode/utf8.first", "unicode/utf8.acceptRanges", "internal/bytealg.MaxLen"], apart := false, laid := [("unicode/utf8.acceptRanges", laid_unicode_utf8_acceptRanges), ("unicode/utf8.first", laid_unicode_utf8_first)], narrowed := true }
def RcFindsUptoSaid : Prop := rcFindsUptoRow.holds Tryd.pinned (OpenSpec.upto rcFindsSpec)

/-- 'splicerlaw04.RcBack', WHERE WHAT IT READS IS OF BULK AT MOST 1048576: true; the input reads as it did. -/
def rcBackUptoRow : OpenClaim := { program := "ytkdmgeefeojdoaadoor", sum := "6e98d3a2fbaf506af980cc97b9a09b6eb69a78f2228dc090f3260ebb992341b5", func := "splicer/splicerlaw04.RcBack", spec := "rcBack", inPlace := ["internal/abi.NoEscape", "internal/bytealg.MakeNoZero", "internal/bytealg.IndexByteString", "internal/bytealg.IndexString"], named := ["unicode/utf8.first", "unicode/utf8.acceptRanges", "internal/bytealg.MaxLen"], apart := false, laid := [("unicode/utf8.acceptRanges", laid_unicode_utf8_acceptRanges), ("unicode/utf8.first", laid_unicode_utf8_first)], narrowed := true }
def RcBackUptoSaid : Prop := rcBackUptoRow.holds Tryd.pinned (OpenSpec.upto rcBackSpec)

/-- 'splicerlaw04.RcNobody', WHERE WHAT IT READS IS OF BULK AT MOST 1048576: true; the input reads as it did. -/
def rcNobodyUptoRow : OpenClaim := { program := "ytkdmgeefeojdoaadoor", sum := "6e98d3a2fbaf506af980cc97b9a09b6eb69a78f2228dc090f3260ebb992341b5", func := "splicer/splicerlaw04.RcNobody", spec := "rcNobody", inPlace := ["internal/abi.NoEscape", "internal/bytealg.MakeNoZero", "internal/bytealg.IndexByteString", "internal/bytealg.IndexString"], named := ["unicode/utf8.first", "unicode/utf8.acceptRanges", "internal/bytealg.MaxLen"], apart := false, laid := [("unicode/utf8.acceptRanges", laid_unicode_utf8_acceptRanges), ("unicode/utf8.first", laid_unicode_utf8_first)], narrowed := true }
def RcNobodyUptoSaid : Prop := rcNobodyUptoRow.holds Tryd.pinned (OpenSpec.upto rcNobodySpec)

end Rows
end Go.Proofs.YtkdmgeefeojdoaaDoor
