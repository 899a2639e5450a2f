/-
  NARROWER THAN 'FOR EVERY INPUT', by the rows' own cells (each row's printed sentence says how): WindowFolds: laid · WindowLeaves: laid · WindowMeets: laid.
  DERIVED. THE GIVEN ROWS OF THIS SEAT. 3 by the template 'for every input the law returns true; each argument reads behind the call as it read before'; 0 by the template 'total and deterministic' (their statements: YtjeglfhdgabdoaaDoorTotals.lean).
  GIVEN WITH THE SEED: the statements are not yours to turn. If you find one false, say at which input.
  Laid BY PROGRAM, IN A SANDBOX (cutbox-rows.mjs): the forced cells as the released guide's own fill.sh prints them over the translation d3c7d9245eb073f1… (all of the seat's roots in one cut). By AI agents, Wed Nov 11 2026. No macro, syntax, notation, axiom, sorry.
-/
import Derived.Test.YtjeglfhdgabdoaaDoorChecked
import GoSem.Claim
import GoSem.ClaimJoined
import GoSem.ClaimMapViews
import Derived.JoinedTies
import Derived.KernelRfl
namespace Go.Proofs.YtjeglfhdgabdoaaDoor
/- THE CELL 'sum', in the pinned program and in every row, IS THE sha256 OF THE DUMP (.gsa) THAT YtjeglfhdgabdoaaDoorProg.lean LOADS. Nothing in Lean hashes anything: it is a label: what it is worth is what the hold of that sum in a sandbox is worth. -/
noncomputable def Tryd.pinned : Pinned := { name := "ytjeglfhdgabdoaadoor", sum := "d3c7d9245eb073f13e2e707a9c8a71de20401dd7dea51c80e97923a85fd7ea04", checked := Tryd.checked }
namespace Rows
def none {H : Type} : Left H := { results := [], args := [] }

/- WHAT THE LISTED PACKAGE-LEVEL VARIABLES READ AS WHEN THE CALL BEGINS. Each datum BY PROGRAM (the guide's laid-datum.mjs) off the statement by which the dump's own 'gosem.cut.vars' lays the variable. In a bare row this is a premise. The card (YtjeglfhdgabdoaaDoorCards.lean) ties it to the program's text. -/
def laid_splicer_window_slope {H : Type} : DataW H := .agg [.lit (.int .i64 494), .lit (.int .i64 4325), .lit (.int .i64 11207), .lit (.int .i64 19363), .lit (.int .i64 26435), .lit (.int .i64 30792), .lit (.int .i64 32481), .lit (.int .i64 32764)]

/-- 'splicerlaw11.WindowFolds': WHATEVER THE INPUT: true; the input reads as it did. -/
def windowFoldsSpec : ChangeSpec := { name := "windowFolds", fn := fun _ => fun
  | [d] => { results := [.lit (.bool true)], args := [d] }
  | _ => none }
def windowFoldsRow : OpenClaim := { program := "ytjeglfhdgabdoaadoor", sum := "d3c7d9245eb073f13e2e707a9c8a71de20401dd7dea51c80e97923a85fd7ea04", func := "splicer/splicerlaw11.WindowFolds", spec := "windowFolds", named := ["splicer/window.slope"], apart := false, laid := [("splicer/window.slope", laid_splicer_window_slope)] }
def WindowFoldsSaid : Prop := windowFoldsRow.holds Tryd.pinned (OpenSpec.ofChange windowFoldsSpec)

/-- ITS FALSE NEIGHBOUR: 'it returns false'. Refute it at one input. -/
def windowFoldsWrong : ChangeSpec := { name := "windowFolds", fn := fun _ => fun
  | [d] => { results := [.lit (.bool false)], args := [d] }
  | _ => none }
def WindowFoldsWrongFalsely : Prop := windowFoldsRow.holds Tryd.pinned (OpenSpec.ofChange windowFoldsWrong)

/-- 'splicerlaw11.WindowLeaves': WHATEVER THE INPUT: true; the input reads as it did. -/
def windowLeavesSpec : ChangeSpec := { name := "windowLeaves", fn := fun _ => fun
  | [d1, d2, d3] => { results := [.lit (.bool true)], args := [d1, d2, d3] }
  | _ => none }
def windowLeavesRow : OpenClaim := { program := "ytjeglfhdgabdoaadoor", sum := "d3c7d9245eb073f13e2e707a9c8a71de20401dd7dea51c80e97923a85fd7ea04", func := "splicer/splicerlaw11.WindowLeaves", spec := "windowLeaves", named := ["splicer/window.slope"], apart := false, laid := [("splicer/window.slope", laid_splicer_window_slope)] }
def WindowLeavesSaid : Prop := windowLeavesRow.holds Tryd.pinned (OpenSpec.ofChange windowLeavesSpec)

/-- ITS FALSE NEIGHBOUR: 'it returns false'. Refute it at one input. -/
def windowLeavesWrong : ChangeSpec := { name := "windowLeaves", fn := fun _ => fun
  | [d1, d2, d3] => { results := [.lit (.bool false)], args := [d1, d2, d3] }
  | _ => none }
def WindowLeavesWrongFalsely : Prop := windowLeavesRow.holds Tryd.pinned (OpenSpec.ofChange windowLeavesWrong)

/-- 'splicerlaw11.WindowMeets': WHATEVER THE INPUT: true; the input reads as it did. -/
def windowMeetsSpec : ChangeSpec := { name := "windowMeets", fn := fun _ => fun
  | [d] => { results := [.lit (.bool true)], args := [d] }
  | _ => none }
def windowMeetsRow : OpenClaim := { program := "ytjeglfhdgabdoaadoor", sum := "d3c7d9245eb073f13e2e707a9c8a71de20401dd7dea51c80e97923a85fd7ea04", func := "splicer/splicerlaw11.WindowMeets", spec := "windowMeets", named := ["splicer/window.slope"], apart := false, laid := [("splicer/window.slope", laid_splicer_window_slope)] }
def WindowMeetsSaid : Prop := windowMeetsRow.holds Tryd.pinned (OpenSpec.ofChange windowMeetsSpec)

/-- ITS FALSE NEIGHBOUR: 'it returns false'. Refute it at one input. -/
def windowMeetsWrong : ChangeSpec := { name := "windowMeets", fn := fun _ => fun
  | [d] => { results := [.lit (.bool false)], args := [d] }
  | _ => none }
def WindowMeetsWrongFalsely : Prop := windowMeetsRow.holds Tryd.pinned (OpenSpec.ofChange windowMeetsWrong)

/- THE SECOND FORM. 'bulk': how many values and letters a reading holds, each counted each time it is reached (what is shared counts as often as it is met; a slice's spare places count too). A statement '..UptoSaid' is the law's where the arguments, and the package variables that the reading takes, are together of bulk at most 1048576: NARROWER than '..Said'. Prove '..Said' where nothing that the law and all that it calls make is longer than what came in: it says more and counts as full. Else prove '..UptoSaid'. A law counts once. -/
mutual
def uptoBulk {H : Type} : DataW H → Nat
  | .lit (.string bytes) => bytes.length + 1
  | .lit _ => 1
  | .nil => 1
  | .ptr d => uptoBulk d + 1
  | .slice elems spare => uptoBulkAll elems + uptoBulkAll spare + 1
  | .agg parts => uptoBulkAll parts + 1
  | .iface _ d => uptoBulk d + 1
  | .map entries => uptoBulkEntries entries + 1
  | .held _ => 1
def uptoBulkAll {H : Type} : List (DataW H) → Nat
  | [] => 0
  | d :: r => uptoBulk d + uptoBulkAll r
def uptoBulkEntries {H : Type} : List (Lit × DataW H) → Nat
  | [] => 0
  | x :: r => uptoBulkEntry x + uptoBulkEntries r
def uptoBulkEntry {H : Type} : Lit × DataW H → Nat
  | (.string bytes, d) => bytes.length + uptoBulk d + 1
  | (_, d) => uptoBulk d + 1
 end
def uptoSmall : (H : Type) → List (DataW H) → Bool := fun _ ds => decide (uptoBulkAll ds ≤ 1048576)
def OpenSpec.upto (s : _root_.Go.ChangeSpec) : _root_.Go.OpenSpec := { _root_.Go.OpenSpec.ofChange s with cond := some uptoSmall }

/-- 'splicerlaw11.WindowFolds', WHERE WHAT IT READS IS OF BULK AT MOST 1048576: true; the input reads as it did. -/
def windowFoldsUptoRow : OpenClaim := { program := "ytjeglfhdgabdoaadoor", sum := "d3c7d9245eb073f13e2e707a9c8a71de20401dd7dea51c80e97923a85fd7ea04", func := "splicer/splicerlaw11.WindowFolds", spec := "windowFolds", named := ["splicer/window.slope"], apart := false, laid := [("splicer/window.slope", laid_splicer_window_slope)], narrowed := true }
def WindowFoldsUptoSaid : Prop := windowFoldsUptoRow.holds Tryd.pinned (OpenSpec.upto windowFoldsSpec)

/-- 'splicerlaw11.WindowLeaves', WHERE WHAT IT READS IS OF BULK AT MOST 1048576: true; the input reads as it did. -/
def windowLeavesUptoRow : OpenClaim := { program := "ytjeglfhdgabdoaadoor", sum := "d3c7d9245eb073f13e2e707a9c8a71de20401dd7dea51c80e97923a85fd7ea04", func := "splicer/splicerlaw11.WindowLeaves", spec := "windowLeaves", named := ["splicer/window.slope"], apart := false, laid := [("splicer/window.slope", laid_splicer_window_slope)], narrowed := true }
def WindowLeavesUptoSaid : Prop := windowLeavesUptoRow.holds Tryd.pinned (OpenSpec.upto windowLeavesSpec)

/-- 'splicerlaw11.WindowMeets', WHERE WHAT IT READS IS OF BULK AT MOST 1048576: true; the input reads as it did. -/
def windowMeetsUptoRow : OpenClaim := { program := "ytjeglfhdgabdoaadoor", sum := "d3c7d9245eb073f13e2e707a9c8a71de20401dd7dea51c80e97923a85fd7ea04", func := "splicer/splicerlaw11.WindowMeets", spec := "windowMeets", named := ["splicer/window.slope"], apart := false, laid := [("splicer/window.slope", laid_splicer_window_slope)], narrowed := true }
def WindowMeetsUptoSaid : Prop := windowMeetsUptoRow.holds Tryd.pinned (OpenSpec.upto windowMeetsSpec)

end Rows
end Go.Proofs.YtjeglfhdgabdoaaDoor
