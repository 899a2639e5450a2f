/-
  NARROWER THAN 'FOR EVERY INPUT', by the rows' own cells (each row's printed sentence says how): LevelTells: laid · LevelSteps: laid · LevelStays: laid.
  DERIVED. THE GIVEN ROWS OF THIS SEAT. 3 by the template 'for every input the law returns true; each argument reads behind the call as it read before'; 0 by the template 'total and deterministic' (their statements: YtchchemcaaggmaaDoorTotals.lean).
  GIVEN WITH THE SEED: the statements are not yours to turn. If you find one false, say at which input.
  Laid BY PROGRAM, IN A SANDBOX (cutbox-rows.mjs): the forced cells as the released guide's own fill.sh prints them over the translation b9440cdf72f9af9d… (all of the seat's roots in one cut). By AI agents, Wed Nov 11 2026. No macro, syntax, notation, axiom, sorry.
-/
import Derived.Test.YtchchemcaaggmaaDoorChecked
import GoSem.Claim
import GoSem.ClaimJoined
import GoSem.ClaimMapViews
import Derived.JoinedTies
import Derived.KernelRfl
namespace Go.Proofs.YtchchemcaaggmaaDoor
/- THE CELL 'sum', in the pinned program and in every row, IS THE sha256 OF THE DUMP (.gsa) THAT YtchchemcaaggmaaDoorProg.lean LOADS. Nothing in Lean hashes anything: it is a label: what it is worth is what the hold of that sum in a sandbox is worth. -/
noncomputable def Tryd.pinned : Pinned := { name := "ytchchemcaaggmaadoor", sum := "b9440cdf72f9af9d3932446fb975ac109ce116752c2259a4d1684ebe249d51f9", checked := Tryd.checked }
namespace Rows
def none {H : Type} : Left H := { results := [], args := [] }

/- WHAT THE LISTED PACKAGE-LEVEL VARIABLES READ AS WHEN THE CALL BEGINS. Each datum BY PROGRAM (the guide's laid-datum.mjs) off the statement by which the dump's own 'gosem.cut.vars' lays the variable. In a bare row this is a premise. The card (YtchchemcaaggmaaDoorCards.lean) ties it to the program's text. -/
def laid_splicer_level_steps {H : Type} : DataW H := .agg [.lit (.int .i64 16777216), .lit (.int .i64 19951585), .lit (.int .i64 23726566), .lit (.int .i64 28215802)]

/-- 'splicerlaw08.LevelTells': WHATEVER THE INPUT: true; the input reads as it did. -/
def levelTellsSpec : ChangeSpec := { name := "levelTells", fn := fun _ => fun
  | [d1, d2] => { results := [.lit (.bool true)], args := [d1, d2] }
  | _ => none }
def levelTellsRow : OpenClaim := { program := "ytchchemcaaggmaadoor", sum := "b9440cdf72f9af9d3932446fb975ac109ce116752c2259a4d1684ebe249d51f9", func := "splicer/splicerlaw08.LevelTells", spec := "levelTells", named := ["splicer/level.steps"], apart := false, laid := [("splicer/level.steps", laid_splicer_level_steps)] }
def LevelTellsSaid : Prop := levelTellsRow.holds Tryd.pinned (OpenSpec.ofChange levelTellsSpec)

/-- ITS FALSE NEIGHBOUR: 'it returns false'. Refute it at one input. -/
def levelTellsWrong : ChangeSpec := { name := "levelTells", fn := fun _ => fun
  | [d1, d2] => { results := [.lit (.bool false)], args := [d1, d2] }
  | _ => none }
def LevelTellsWrongFalsely : Prop := levelTellsRow.holds Tryd.pinned (OpenSpec.ofChange levelTellsWrong)

/-- 'splicerlaw08.LevelSteps': WHATEVER THE INPUT: true; the input reads as it did. -/
def levelStepsSpec : ChangeSpec := { name := "levelSteps", fn := fun _ => fun
  | [d1, d2] => { results := [.lit (.bool true)], args := [d1, d2] }
  | _ => none }
def levelStepsRow : OpenClaim := { program := "ytchchemcaaggmaadoor", sum := "b9440cdf72f9af9d3932446fb975ac109ce116752c2259a4d1684ebe249d51f9", func := "splicer/splicerlaw08.LevelSteps", spec := "levelSteps", named := ["splicer/level.steps"], apart := false, laid := [("splicer/level.steps", laid_splicer_level_steps)] }
def LevelStepsSaid : Prop := levelStepsRow.holds Tryd.pinned (OpenSpec.ofChange levelStepsSpec)

/-- ITS FALSE NEIGHBOUR: 'it returns false'. Refute it at one input. -/
def levelStepsWrong : ChangeSpec := { name := "levelSteps", fn := fun _ => fun
  | [d1, d2] => { results := [.lit (.bool false)], args := [d1, d2] }
  | _ => none }
def LevelStepsWrongFalsely : Prop := levelStepsRow.holds Tryd.pinned (OpenSpec.ofChange levelStepsWrong)

/-- 'splicerlaw08.LevelStays': WHATEVER THE INPUT: true; the input reads as it did. -/
def levelStaysSpec : ChangeSpec := { name := "levelStays", fn := fun _ => fun
  | [d1, d2] => { results := [.lit (.bool true)], args := [d1, d2] }
  | _ => none }
def levelStaysRow : OpenClaim := { program := "ytchchemcaaggmaadoor", sum := "b9440cdf72f9af9d3932446fb975ac109ce116752c2259a4d1684ebe249d51f9", func := "splicer/splicerlaw08.LevelStays", spec := "levelStays", named := ["splicer/level.steps"], apart := false, laid := [("splicer/level.steps", laid_splicer_level_steps)] }
def LevelStaysSaid : Prop := levelStaysRow.holds Tryd.pinned (OpenSpec.ofChange levelStaysSpec)

/-- ITS FALSE NEIGHBOUR: 'it returns false'. Refute it at one input. -/
def levelStaysWrong : ChangeSpec := { name := "levelStays", fn := fun _ => fun
  | [d1, d2] => { results := [.lit (.bool false)], args := [d1, d2] }
  | _ => none }
def LevelStaysWrongFalsely : Prop := levelStaysRow.holds Tryd.pinned (OpenSpec.ofChange levelStaysWrong)

/- THE SECOND FORM. 'bulk': how many values and letters a reading holds, each counted each time it is reached (what is shared counts as often as it is met; a slice's spare places count too). A statement '..UptoSaid' is the law's where the arguments, and the package variables that the reading takes, are together of bulk at most 1048576: NARROWER than '..Said'. Prove '..Said' where nothing that the law and all that it calls make is longer than what came in: it says more and counts as full. Else prove '..UptoSaid'. A law counts once. -/
mutual
def uptoBulk {H : Type} : DataW H → Nat
  | .lit (.string bytes) => bytes.length + 1
  | .lit _ => 1
  | .nil => 1
  | .ptr d => uptoBulk d + 1
  | .slice elems spare => uptoBulkAll elems + uptoBulkAll spare + 1
  | .agg parts => uptoBulkAll parts + 1
  | .iface _ d => uptoBulk d + 1
  | .map entries => uptoBulkEntries entries + 1
  | .held _ => 1
def uptoBulkAll {H : Type} : List (DataW H) → Nat
  | [] => 0
  | d :: r => uptoBulk d + uptoBulkAll r
def uptoBulkEntries {H : Type} : List (Lit × DataW H) → Nat
  | [] => 0
  | x :: r => uptoBulkEntry x + uptoBulkEntries r
def uptoBulkEntry {H : Type} : Lit × DataW H → Nat
  | (.string bytes, d) => bytes.length + uptoBulk d + 1
  | (_, d) => uptoBulk d + 1
 end
def uptoSmall : (H : Type) → List (DataW H) → Bool := fun _ ds => decide (uptoBulkAll ds ≤ 1048576)
def OpenSpec.upto (s : _root_.Go.ChangeSpec) : _root_.Go.OpenSpec := { _root_.Go.OpenSpec.ofChange s with cond := some uptoSmall }

/-- 'splicerlaw08.LevelTells', WHERE WHAT IT READS IS OF BULK AT MOST 1048576: true; the input reads as it did. -/
def levelTellsUptoRow : OpenClaim := { program := "ytchchemcaaggmaadoor", sum := "b9440cdf72f9af9d3932446fb975ac109ce116752c2259a4d1684ebe249d51f9", func := "splicer/splicerlaw08.LevelTells", spec := "levelTells", named := ["splicer/level.steps"], apart := false, laid := [("splicer/level.steps", laid_splicer_level_steps)], narrowed := true }
def LevelTellsUptoSaid : Prop := levelTellsUptoRow.holds Tryd.pinned (OpenSpec.upto levelTellsSpec)

/-- 'splicerlaw08.LevelSteps', WHERE WHAT IT READS IS OF BULK AT MOST 1048576: true; the input reads as it did. -/
def levelStepsUptoRow : OpenClaim := { program := "ytchchemcaaggmaadoor", sum := "b9440cdf72f9af9d3932446fb975ac109ce116752c2259a4d1684ebe249d51f9", func := "splicer/splicerlaw08.LevelSteps", spec := "levelSteps", named := ["splicer/level.steps"], apart := false, laid := [("splicer/level.steps", laid_splicer_level_steps)], narrowed := true }
def LevelStepsUptoSaid : Prop := levelStepsUptoRow.holds Tryd.pinned (OpenSpec.upto levelStepsSpec)

/-- 'splicerlaw08.LevelStays', WHERE WHAT IT READS IS OF BULK AT MOST 1048576: true; the input reads as it did. -/
def levelStaysUptoRow : OpenClaim := { program := "ytchchemcaaggmaadoor", sum := "b9440cdf72f9af9d3932446fb975ac109ce116752c2259a4d1684ebe249d51f9", func := "splicer/splicerlaw08.LevelStays", spec := "levelStays", named := ["splicer/level.steps"], apart := false, laid := [("splicer/level.steps", laid_splicer_level_steps)], narrowed := true }
def LevelStaysUptoSaid : Prop := levelStaysUptoRow.holds Tryd.pinned (OpenSpec.upto levelStaysSpec)

end Rows
end Go.Proofs.YtchchemcaaggmaaDoor
