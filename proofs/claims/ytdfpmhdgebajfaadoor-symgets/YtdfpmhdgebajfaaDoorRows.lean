/-
  NARROWER THAN 'FOR EVERY INPUT', by the rows' own cells (each row's printed sentence says how): SymPuts: laid · SymGets: laid · SymBack: laid.
  DERIVED. THE GIVEN ROWS OF THIS SEAT. 3 by the template 'for every input the law returns true; each argument reads behind the call as it read before'; 0 by the template 'total and deterministic' (their statements: YtdfpmhdgebajfaaDoorTotals.lean).
  GIVEN WITH THE SEED: the statements are not yours to turn. If you find one false, say at which input.
  Laid BY PROGRAM, IN A SANDBOX (cutbox-rows.mjs): the forced cells as the released guide's own fill.sh prints them over the translation 1b6785e9c47a50fd… (all of the seat's roots in one cut). By AI agents, Wed Nov 11 2026. No macro, syntax, notation, axiom, sorry.
-/
import Derived.Test.YtdfpmhdgebajfaaDoorChecked
import GoSem.PinnedTables
import GoSem.Claim
import GoSem.ClaimJoined
import GoSem.ClaimMapViews
import Derived.JoinedTies
import Derived.KernelRfl
namespace Go.Proofs.YtdfpmhdgebajfaaDoor
/- THE CELL 'sum', in the pinned program and in every row, IS THE sha256 OF THE DUMP (.gsa) THAT YtdfpmhdgebajfaaDoorProg.lean LOADS. Nothing in Lean hashes anything: it is a label: what it is worth is what the hold of that sum in a sandbox is worth. -/
noncomputable def Tryd.pinned : Pinned := { name := "ytdfpmhdgebajfaadoor", sum := "1b6785e9c47a50fd4da7b03621a395c24f94c165af2e46dde8c2763b96491dda", checked := Tryd.checked }
namespace Rows
def none {H : Type} : Left H := { results := [], args := [] }

/- WHAT THE LISTED PACKAGE-LEVEL VARIABLES READ AS WHEN THE CALL BEGINS. Each datum BY PROGRAM (the guide's laid-datum.mjs) off the statement by which the dump's own 'gosem.cut.vars' lays the variable. In a bare row this is a premise. The card (YtdfpmhdgebajfaaDoorCards.lean) ties it to the program's text. -/
def laid_unicode_utf8_acceptRanges {H : Type} : DataW H := .agg [.agg [.lit (.int .u8 128), .lit (.int .u8 191)], .agg [.lit (.int .u8 160), .lit (.int .u8 191)], .agg [.lit (.int .u8 128), .lit (.int .u8 159)], .agg [.lit (.int .u8 144), .lit (.int .u8 191)], .agg [.lit (.int .u8 128), .lit (.int .u8 143)], .agg [.lit (.int .u8 0), .lit (.int .u8 0)], .agg [.lit (.int .u8 0), .lit (.int .u8 0)], .agg [.lit (.int .u8 0), .lit (.int .u8 0)], .agg [.lit (.int .u8 0), .lit (.int .u8 0)], .agg [.lit (.int .u8 0), .lit (.int .u8 0)], .agg [.lit (.int .u8 0), .lit (.int .u8 0)], .agg [.lit (.int .u8 0), .lit (.int .u8 0)], .agg [.lit (.int .u8 0), .lit (.int .u8 0)], .agg [.lit (.int .u8 0), .lit (.int .u8 0)], .agg [.lit (.int .u8 0), .lit (.int .u8 0)], .agg [.lit (.int .u8 0), .lit (.int .u8 0)]]
def laid_splicer_sym_small {H : Type} : DataW H := .agg [.lit (.int .i64 0), .lit (.int .i64 (-1)), .lit (.int .i64 1), .lit (.int .i64 (-2)), .lit (.int .i64 2), .lit (.int .i64 (-3)), .lit (.int .i64 3)]
/-- One of Go's own tables, pinned by name: the form's constant. -/
def laid_unicode_utf8_first : DataW Unit := Go.Pinned.utf8First

/-- 'splicerlaw05.SymPuts': WHATEVER THE INPUT: true; the input reads as it did. -/
def symPutsSpec : ChangeSpec := { name := "symPuts", fn := fun _ => fun
  | [d] => { results := [.lit (.bool true)], args := [d] }
  | _ => none }
def symPutsRow : OpenClaim := { program := "ytdfpmhdgebajfaadoor", sum := "1b6785e9c47a50fd4da7b03621a395c24f94c165af2e46dde8c2763b96491dda", func := "splicer/splicerlaw05.SymPuts", spec := "symPuts", inPlace := ["internal/abi.NoEscape", "internal/bytealg.MakeNoZero", "internal/bytealg.IndexByteString", "internal/bytealg.IndexString"], unfollowed := true, recurses := true, named := ["splicer/sym.small", "unicode/utf8.first", "unicode/utf8.acceptRanges", "internal/bytealg.MaxLen"], apart := false, laid := [("unicode/utf8.acceptRanges", laid_unicode_utf8_acceptRanges), ("splicer/sym.small", laid_splicer_sym_small), ("unicode/utf8.first", laid_unicode_utf8_first)] }
def SymPutsSaid : Prop := symPutsRow.holds Tryd.pinned (OpenSpec.ofChange symPutsSpec)

/-- ITS FALSE NEIGHBOUR: 'it returns false'. Refute it at one input. -/
def symPutsWrong : ChangeSpec := { name := "symPuts", fn := fun _ => fun
  | [d] => { results := [.lit (.bool false)], args := [d] }
  | _ => none }
def SymPutsWrongFalsely : Prop := symPutsRow.holds Tryd.pinned (OpenSpec.ofChange symPutsWrong)

/-- 'splicerlaw05.SymGets': WHATEVER THE INPUT: true; the input reads as it did. -/
def symGetsSpec : ChangeSpec := { name := "symGets", fn := fun _ => fun
  | [d1, d2] => { results := [.lit (.bool true)], args := [d1, d2] }
  | _ => none }
def symGetsRow : OpenClaim := { program := "ytdfpmhdgebajfaadoor", sum := "1b6785e9c47a50fd4da7b03621a395c24f94c165af2e46dde8c2763b96491dda", func := "splicer/splicerlaw05.SymGets", spec := "symGets", inPlace := ["internal/abi.NoEscape", "internal/bytealg.MakeNoZero", "internal/bytealg.IndexByteString", "internal/bytealg.IndexString"], unfollowed := true, recurses := true, named := ["splicer/sym.small", "unicode/utf8.first", "unicode/utf8.acceptRanges", "internal/bytealg.MaxLen"], apart := false, laid := [("unicode/utf8.acceptRanges", laid_unicode_utf8_acceptRanges), ("splicer/sym.small", laid_splicer_sym_small), ("unicode/utf8.first", laid_unicode_utf8_first)] }
def SymGetsSaid : Prop := symGetsRow.holds Tryd.pinned (OpenSpec.ofChange symGetsSpec)

/-- ITS FALSE NEIGHBOUR: 'it returns false'. Refute it at one input. -/
def symGetsWrong : ChangeSpec := { name := "symGets", fn := fun _ => fun
  | [d1, d2] => { results := [.lit (.bool false)], args := [d1, d2] }
  | _ => none }
def SymGetsWrongFalsely : Prop := symGetsRow.holds Tryd.pinned (OpenSpec.ofChange symGetsWrong)

/-- 'splicerlaw05.SymBack': WHATEVER THE INPUT: true; the input reads as it did. -/
def symBackSpec : ChangeSpec := { name := "symBack", fn := fun _ => fun
  | [d] => { results := [.lit (.bool true)], args := [d] }
  | _ => none }
def symBackRow : OpenClaim := { program := "ytdfpmhdgebajfaadoor", sum := "1b6785e9c47a50fd4da7b03621a395c24f94c165af2e46dde8c2763b96491dda", func := "splicer/splicerlaw05.SymBack", spec := "symBack", inPlace := ["internal/abi.NoEscape", "internal/bytealg.MakeNoZero", "internal/bytealg.IndexByteString", "internal/bytealg.IndexString"], unfollowed := true, recurses := true, named := ["splicer/sym.small", "unicode/utf8.first", "unicode/utf8.acceptRanges", "internal/bytealg.MaxLen"], apart := false, laid := [("unicode/utf8.acceptRanges", laid_unicode_utf8_acceptRanges), ("splicer/sym.small", laid_splicer_sym_small), ("unicode/utf8.first", laid_unicode_utf8_first)] }
def SymBackSaid : Prop := symBackRow.holds Tryd.pinned (OpenSpec.ofChange symBackSpec)

/-- ITS FALSE NEIGHBOUR: 'it returns false'. Refute it at one input. -/
def symBackWrong : ChangeSpec := { name := "symBack", fn := fun _ => fun
  | [d] => { results := [.lit (.bool false)], args := [d] }
  | _ => none }
def SymBackWrongFalsely : Prop := symBackRow.holds Tryd.pinned (OpenSpec.ofChange symBackWrong)

/- THE SECOND FORM. 'bulk': how many values and letters a reading holds, each counted each time it is reached (what is shared counts as often as it is met; a slice's spare places count too). A statement '..UptoSaid' is the law's where the arguments, and the package variables that the reading takes, are together of bulk at most 1048576: NARROWER than '..Said'. Prove '..Said' where nothing that the law and all that it calls make is longer than what came in: it says more and counts as full. Else prove '..UptoSaid'. A law counts once. -/
mutual
def uptoBulk {H : Type} : DataW H → Nat
  | .lit (.string bytes) => bytes.length + 1
  | .lit _ => 1
  | .nil => 1
  | .ptr d => uptoBulk d + 1
  | .slice elems spare => uptoBulkAll elems + uptoBulkAll spare + 1
  | .agg parts => uptoBulkAll parts + 1
  | .iface _ d => uptoBulk d + 1
  | .map entries => uptoBulkEntries entries + 1
  | .held _ => 1
def uptoBulkAll {H : Type} : List (DataW H) → Nat
  | [] => 0
  | d :: r => uptoBulk d + uptoBulkAll r
def uptoBulkEntries {H : Type} : List (Lit × DataW H) → Nat
  | [] => 0
  | x :: r => uptoBulkEntry x + uptoBulkEntries r
def uptoBulkEntry {H : Type} : Lit × DataW H → Nat
  | (.string bytes, d) => bytes.length + uptoBulk d + 1
  | (_, d) => uptoBulk d + 1
 end
def uptoSmall : (H : Type) → List (DataW H) → Bool := fun _ ds => decide (uptoBulkAll ds ≤ 1048576)
def OpenSpec.upto (s : _root_.Go.ChangeSpec) : _root_.Go.OpenSpec := { _root_.Go.OpenSpec.ofChange s with cond := some uptoSmall }

/-- 'splicerlaw05.SymPuts', WHERE WHAT IT READS IS OF BULK AT MOST 1048576: true; the input reads as it did. -/
def symPutsUptoRow : OpenClaim := { program := "ytdfpmhdgebajfaadoor", sum := "1b6785e9c47a50fd4da7b03621a395c24f94c165af2e46dde8c2763b96491dda", func := "splicer/splicerlaw05.SymPuts", spec := "symPuts", inPlace := ["internal/abi.NoEscape", "internal/bytealg.MakeNoZero", "internal/bytealg.IndexByteString", "internal/bytealg.IndexString"], unfollowed := true, recurses := true, named := ["splicer/sym.small", "unicode/utf8.first", "unicode/utf8.acceptRanges", "internal/bytealg.MaxLen"], apart := false, laid := [("unicode/utf8.acceptRanges", laid_unicode_utf8_acceptRanges), ("splicer/sym.small", laid_splicer_sym_small), ("unicode/utf8.first", laid_unicode_utf8_first)], narrowed := true }
def SymPutsUptoSaid : Prop := symPutsUptoRow.holds Tryd.pinned (OpenSpec.upto symPutsSpec)

/-- 'splicerlaw05.SymGets', WHERE WHAT IT READS IS OF BULK AT MOST 1048576: true; the input reads as it did. -/
def symGetsUptoRow : OpenClaim := { program := "ytdfpmhdgebajfaadoor", sum := "1b6785e9c47a50fd4da7b03621a395c24f94c165af2e46dde8c2763b96491dda", func := "splicer/splicerlaw05.SymGets", spec := "symGets", inPlace := ["internal/abi.NoEscape", "internal/bytealg.MakeNoZero", "internal/bytealg.IndexByteString", "internal/bytealg.IndexString"], unfollowed := true, recurses := true, named := ["splicer/sym.small", "unicode/utf8.first", "unicode/utf8.acceptRanges", "internal/bytealg.MaxLen"], apart := false, laid := [("unicode/utf8.acceptRanges", laid_unicode_utf8_acceptRanges), ("splicer/sym.small", laid_splicer_sym_small), ("unicode/utf8.first", laid_unicode_utf8_first)], narrowed := true }
def SymGetsUptoSaid : Prop := symGetsUptoRow.holds Tryd.pinned (OpenSpec.upto symGetsSpec)

/-- 'splicerlaw05.SymBack', WHERE WHAT IT READS IS OF BULK AT MOST 1048576: true; the input reads as it did. -/
def symBackUptoRow : OpenClaim := { program := "ytdfpmhdgebajfaadoor", sum := "1b6785e9c47a50fd4da7b03621a395c24f94c165af2e46dde8c2763b96491dda", func := "splicer/splicerlaw05.SymBack", spec := "symBack", inPlace := ["internal/abi.NoEscape", "internal/bytealg.MakeNoZero", "internal/bytealg.IndexByteString", "internal/bytealg.IndexString"], unfollowed := true, recurses := true, named := ["splicer/sym.small", "unicode/utf8.first", "unicode/utf8.acceptRanges", "internal/bytealg.MaxLen"], apart := false, laid := [("unicode/utf8.acceptRanges", laid_unicode_utf8_acceptRanges), ("splicer/sym.small", laid_splicer_sym_small), ("unicode/utf8.first", laid_unicode_utf8_first)], narrowed := true }
def SymBackUptoSaid : Prop := symBackUptoRow.holds Tryd.pinned (OpenSpec.upto symBackSpec)

end Rows
end Go.Proofs.YtdfpmhdgebajfaaDoor
