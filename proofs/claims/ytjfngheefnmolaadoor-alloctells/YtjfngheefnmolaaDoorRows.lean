/-
  NARROWER THAN 'FOR EVERY INPUT', by the rows' own cells (each row's printed sentence says how): AllocTells: laid · AllocGrows: laid.
  DERIVED. THE GIVEN ROWS OF THIS SEAT. 2 by the template 'for every input the law returns true; each argument reads behind the call as it read before'; 0 by the template 'total and deterministic' (their statements: YtjfngheefnmolaaDoorTotals.lean).
  GIVEN WITH THE SEED: the statements are not yours to turn. If you find one false, say at which input.
  Laid BY PROGRAM, IN A SANDBOX (cutbox-rows.mjs): the forced cells as the released guide's own fill.sh prints them over the translation 862421a705314da2… (all of the seat's roots in one cut). By AI agents, Wed Nov 11 2026. No macro, syntax, notation, axiom, sorry.
-/
import Derived.Test.YtjfngheefnmolaaDoorChecked
import GoSem.Claim
import GoSem.ClaimJoined
import GoSem.ClaimMapViews
import Derived.JoinedTies
import Derived.KernelRfl
namespace Go.Proofs.YtjfngheefnmolaaDoor
/- THE CELL 'sum', in the pinned program and in every row, IS THE sha256 OF THE DUMP (.gsa) THAT YtjfngheefnmolaaDoorProg.lean LOADS. Nothing in Lean hashes anything: it is a label: what it is worth is what the hold of that sum in a sandbox is worth. -/
noncomputable def Tryd.pinned : Pinned := { name := "ytjfngheefnmolaadoor", sum := "862421a705314da2f34dcb4ca039c7a270ca905dfc49871df78519959e6fae58", checked := Tryd.checked }
namespace Rows
def none {H : Type} : Left H := { results := [], args := [] }

/- WHAT THE LISTED PACKAGE-LEVEL VARIABLES READ AS WHEN THE CALL BEGINS. Each datum BY PROGRAM (the guide's laid-datum.mjs) off the statement by which the dump's own 'gosem.cut.vars' lays the variable. In a bare row this is a premise. The card (YtjfngheefnmolaaDoorCards.lean) ties it to the program's text. -/
def laid_splicer_layout_widths {H : Type} : DataW H := .agg [.lit (.int .i64 2), .lit (.int .i64 2), .lit (.int .i64 2), .lit (.int .i64 2), .lit (.int .i64 4), .lit (.int .i64 4), .lit (.int .i64 4), .lit (.int .i64 4), .lit (.int .i64 8), .lit (.int .i64 8), .lit (.int .i64 8), .lit (.int .i64 8), .lit (.int .i64 8)]

/-- 'splicerlaw15.AllocTells': WHATEVER THE INPUT: true; the input reads as it did. -/
def allocTellsSpec : ChangeSpec := { name := "allocTells", fn := fun _ => fun
  | [d1, d2, d3, d4] => { results := [.lit (.bool true)], args := [d1, d2, d3, d4] }
  | _ => none }
def allocTellsRow : OpenClaim := { program := "ytjfngheefnmolaadoor", sum := "862421a705314da2f34dcb4ca039c7a270ca905dfc49871df78519959e6fae58", func := "splicer/splicerlaw15.AllocTells", spec := "allocTells", unfollowed := true, recurses := true, named := ["splicer/layout.widths"], apart := false, laid := [("splicer/layout.widths", laid_splicer_layout_widths)] }
def AllocTellsSaid : Prop := allocTellsRow.holds Tryd.pinned (OpenSpec.ofChange allocTellsSpec)

/-- ITS FALSE NEIGHBOUR: 'it returns false'. Refute it at one input. -/
def allocTellsWrong : ChangeSpec := { name := "allocTells", fn := fun _ => fun
  | [d1, d2, d3, d4] => { results := [.lit (.bool false)], args := [d1, d2, d3, d4] }
  | _ => none }
def AllocTellsWrongFalsely : Prop := allocTellsRow.holds Tryd.pinned (OpenSpec.ofChange allocTellsWrong)

/-- 'splicerlaw15.AllocGrows': WHATEVER THE INPUT: true; the input reads as it did. -/
def allocGrowsSpec : ChangeSpec := { name := "allocGrows", fn := fun _ => fun
  | [d1, d2, d3] => { results := [.lit (.bool true)], args := [d1, d2, d3] }
  | _ => none }
def allocGrowsRow : OpenClaim := { program := "ytjfngheefnmolaadoor", sum := "862421a705314da2f34dcb4ca039c7a270ca905dfc49871df78519959e6fae58", func := "splicer/splicerlaw15.AllocGrows", spec := "allocGrows", unfollowed := true, recurses := true, named := ["splicer/layout.widths"], apart := false, laid := [("splicer/layout.widths", laid_splicer_layout_widths)] }
def AllocGrowsSaid : Prop := allocGrowsRow.holds Tryd.pinned (OpenSpec.ofChange allocGrowsSpec)

/-- ITS FALSE NEIGHBOUR: 'it returns false'. Refute it at one input. -/
def allocGrowsWrong : ChangeSpec := { name := "allocGrows", fn := fun _ => fun
  | [d1, d2, d3] => { results := [.lit (.bool false)], args := [d1, d2, d3] }
  | _ => none }
def AllocGrowsWrongFalsely : Prop := allocGrowsRow.holds Tryd.pinned (OpenSpec.ofChange allocGrowsWrong)

/- THE SECOND FORM. 'bulk': how many values and letters a reading holds, each counted each time it is reached (what is shared counts as often as it is met; a slice's spare places count too). A statement '..UptoSaid' is the law's where the arguments, and the package variables that the reading takes, are together of bulk at most 1048576: NARROWER than '..Said'. Prove '..Said' where nothing that the law and all that it calls make is longer than what came in: it says more and counts as full. Else prove '..UptoSaid'. A law counts once. -/
mutual
def uptoBulk {H : Type} : DataW H → Nat
  | .lit (.string bytes) => bytes.length + 1
  | .lit _ => 1
  | .nil => 1
  | .ptr d => uptoBulk d + 1
  | .slice elems spare => uptoBulkAll elems + uptoBulkAll spare + 1
  | .agg parts => uptoBulkAll parts + 1
  | .iface _ d => uptoBulk d + 1
  | .map entries => uptoBulkEntries entries + 1
  | .held _ => 1
def uptoBulkAll {H : Type} : List (DataW H) → Nat
  | [] => 0
  | d :: r => uptoBulk d + uptoBulkAll r
def uptoBulkEntries {H : Type} : List (Lit × DataW H) → Nat
  | [] => 0
  | x :: r => uptoBulkEntry x + uptoBulkEntries r
def uptoBulkEntry {H : Type} : Lit × DataW H → Nat
  | (.string bytes, d) => bytes.length + uptoBulk d + 1
  | (_, d) => uptoBulk d + 1
 end
def uptoSmall : (H : Type) → List (DataW H) → Bool := fun _ ds => decide (uptoBulkAll ds ≤ 1048576)
def OpenSpec.upto (s : _root_.Go.ChangeSpec) : _root_.Go.OpenSpec := { _root_.Go.OpenSpec.ofChange s with cond := some uptoSmall }

/-- 'splicerlaw15.AllocTells', WHERE WHAT IT READS IS OF BULK AT MOST 1048576: true; the input reads as it did. -/
def allocTellsUptoRow : OpenClaim := { program := "ytjfngheefnmolaadoor", sum := "862421a705314da2f34dcb4ca039c7a270ca905dfc49871df78519959e6fae58", func := "splicer/splicerlaw15.AllocTells", spec := "allocTells", unfollowed := true, recurses := true, named := ["splicer/layout.widths"], apart := false, laid := [("splicer/layout.widths", laid_splicer_layout_widths)], narrowed := true }
def AllocTellsUptoSaid : Prop := allocTellsUptoRow.holds Tryd.pinned (OpenSpec.upto allocTellsSpec)

/-- 'splicerlaw15.AllocGrows', WHERE WHAT IT READS IS OF BULK AT MOST 1048576: true; the input reads as it did. -/
def allocGrowsUptoRow : OpenClaim := { program := "ytjfngheefnmolaadoor", sum := "862421a705314da2f34dcb4ca039c7a270ca905dfc49871df78519959e6fae58", func := "splicer/splicerlaw15.AllocGrows", spec := "allocGrows", unfollowed := true, recurses := true, named := ["splicer/layout.widths"], apart := false, laid := [("splicer/layout.widths", laid_splicer_layout_widths)], narrowed := true }
def AllocGrowsUptoSaid : Prop := allocGrowsUptoRow.holds Tryd.pinned (OpenSpec.upto allocGrowsSpec)

end Rows
end Go.Proofs.YtjfngheefnmolaaDoor
