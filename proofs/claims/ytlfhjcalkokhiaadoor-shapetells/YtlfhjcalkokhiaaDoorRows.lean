/-
  NARROWER THAN 'FOR EVERY INPUT', by the rows' own cells (each row's printed sentence says how): ShapeTells: laid · ShapeLoud: laid.
  DERIVED. THE GIVEN ROWS OF THIS SEAT. 2 by the template 'for every input the law returns true; each argument reads behind the call as it read before'; 0 by the template 'total and deterministic' (their statements: YtlfhjcalkokhiaaDoorTotals.lean).
  GIVEN WITH THE SEED: the statements are not yours to turn. If you find one false, say at which input.
  Laid BY PROGRAM, IN A SANDBOX (cutbox-rows.mjs): the forced cells as the released guide's own fill.sh prints them over the translation 9e31d0a91891c7a3… (all of the seat's roots in one cut). By AI agents, Wed Nov 11 2026. No macro, syntax, notation, axiom, sorry.
-/
import Derived.Test.YtlfhjcalkokhiaaDoorChecked
import GoSem.Claim
import GoSem.ClaimJoined
import GoSem.ClaimMapViews
import Derived.JoinedTies
import Derived.KernelRfl
namespace Go.Proofs.YtlfhjcalkokhiaaDoor
/- THE CELL 'sum', in the pinned program and in every row, IS THE sha256 OF THE DUMP (.gsa) THAT YtlfhjcalkokhiaaDoorProg.lean LOADS. Nothing in Lean hashes anything: it is a label: what it is worth is what the hold of that sum in a sandbox is worth. -/
noncomputable def Tryd.pinned : Pinned := { name := "ytlfhjcalkokhiaadoor", sum := "9e31d0a91891c7a30ee46fde75277b626b496596eb135bf89d4582b387d44b44", checked := Tryd.checked }
namespace Rows
def none {H : Type} : Left H := { results := [], args := [] }

/- WHAT THE LISTED PACKAGE-LEVEL VARIABLES READ AS WHEN THE CALL BEGINS. Each datum BY PROGRAM (the guide's laid-datum.mjs) off the statement by which the dump's own 'gosem.cut.vars' lays the variable. In a bare row this is a premise. The card (YtlfhjcalkokhiaaDoorCards.lean) ties it to the program's text. -/
def laid_splicer_level_steps {H : Type} : DataW H := .agg [.lit (.int .i64 16777216), .lit (.int .i64 19951585), .lit (.int .i64 23726566), .lit (.int .i64 28215802)]

/-- 'splicerlaw17.ShapeTells': WHATEVER THE INPUT: true; the input reads as it did. -/
def shapeTellsSpec : ChangeSpec := { name := "shapeTells", fn := fun _ => fun
  | [d1, d2, d3, d4] => { results := [.lit (.bool true)], args := [d1, d2, d3, d4] }
  | _ => none }
def shapeTellsRow : OpenClaim := { program := "ytlfhjcalkokhiaadoor", sum := "9e31d0a91891c7a30ee46fde75277b626b496596eb135bf89d4582b387d44b44", func := "splicer/splicerlaw17.ShapeTells", spec := "shapeTells", unfollowed := true, recurses := true, named := ["splicer/level.steps"], apart := false, laid := [("splicer/level.steps", laid_splicer_level_steps)] }
def ShapeTellsSaid : Prop := shapeTellsRow.holds Tryd.pinned (OpenSpec.ofChange shapeTellsSpec)

/-- ITS FALSE NEIGHBOUR: 'it returns false'. Refute it at one input. -/
def shapeTellsWrong : ChangeSpec := { name := "shapeTells", fn := fun _ => fun
  | [d1, d2, d3, d4] => { results := [.lit (.bool false)], args := [d1, d2, d3, d4] }
  | _ => none }
def ShapeTellsWrongFalsely : Prop := shapeTellsRow.holds Tryd.pinned (OpenSpec.ofChange shapeTellsWrong)

/-- 'splicerlaw17.ShapeLoud': WHATEVER THE INPUT: true; the input reads as it did. -/
def shapeLoudSpec : ChangeSpec := { name := "shapeLoud", fn := fun _ => fun
  | [d1, d2, d3] => { results := [.lit (.bool true)], args := [d1, d2, d3] }
  | _ => none }
def shapeLoudRow : OpenClaim := { program := "ytlfhjcalkokhiaadoor", sum := "9e31d0a91891c7a30ee46fde75277b626b496596eb135bf89d4582b387d44b44", func := "splicer/splicerlaw17.ShapeLoud", spec := "shapeLoud", unfollowed := true, recurses := true, named := ["splicer/level.steps"], apart := false, laid := [("splicer/level.steps", laid_splicer_level_steps)] }
def ShapeLoudSaid : Prop := shapeLoudRow.holds Tryd.pinned (OpenSpec.ofChange shapeLoudSpec)

/-- ITS FALSE NEIGHBOUR: 'it returns false'. Refute it at one input. -/
def shapeLoudWrong : ChangeSpec := { name := "shapeLoud", fn := fun _ => fun
  | [d1, d2, d3] => { results := [.lit (.bool false)], args := [d1, d2, d3] }
  | _ => none }
def ShapeLoudWrongFalsely : Prop := shapeLoudRow.holds Tryd.pinned (OpenSpec.ofChange shapeLoudWrong)

/- THE SECOND FORM. 'bulk': how many values and letters a reading holds, each counted each time it is reached (what is shared counts as often as it is met; a slice's spare places count too). A statement '..UptoSaid' is the law's where the arguments, and the package variables that the reading takes, are together of bulk at most 1048576: NARROWER than '..Said'. Prove '..Said' where nothing that the law and all that it calls make is longer than what came in: it says more and counts as full. Else prove '..UptoSaid'. A law counts once. -/
mutual
def uptoBulk {H : Type} : DataW H → Nat
  | .lit (.string bytes) => bytes.length + 1
  | .lit _ => 1
  | .nil => 1
  | .ptr d => uptoBulk d + 1
  | .slice elems spare => uptoBulkAll elems + uptoBulkAll spare + 1
  | .agg parts => uptoBulkAll parts + 1
  | .iface _ d => uptoBulk d + 1
  | .map entries => uptoBulkEntries entries + 1
  | .held _ => 1
def uptoBulkAll {H : Type} : List (DataW H) → Nat
  | [] => 0
  | d :: r => uptoBulk d + uptoBulkAll r
def uptoBulkEntries {H : Type} : List (Lit × DataW H) → Nat
  | [] => 0
  | x :: r => uptoBulkEntry x + uptoBulkEntries r
def uptoBulkEntry {H : Type} : Lit × DataW H → Nat
  | (.string bytes, d) => bytes.length + uptoBulk d + 1
  | (_, d) => uptoBulk d + 1
 end
def uptoSmall : (H : Type) → List (DataW H) → Bool := fun _ ds => decide (uptoBulkAll ds ≤ 1048576)
def OpenSpec.upto (s : _root_.Go.ChangeSpec) : _root_.Go.OpenSpec := { _root_.Go.OpenSpec.ofChange s with cond := some uptoSmall }

/-- 'splicerlaw17.ShapeTells', WHERE WHAT IT READS IS OF BULK AT MOST 1048576: true; the input reads as it did. -/
def shapeTellsUptoRow : OpenClaim := { program := "ytlfhjcalkokhiaadoor", sum := "9e31d0a91891c7a30ee46fde75277b626b496596eb135bf89d4582b387d44b44", func := "splicer/splicerlaw17.ShapeTells", spec := "shapeTells", unfollowed := true, recurses := true, named := ["splicer/level.steps"], apart := false, laid := [("splicer/level.steps", laid_splicer_level_steps)], narrowed := true }
def ShapeTellsUptoSaid : Prop := shapeTellsUptoRow.holds Tryd.pinned (OpenSpec.upto shapeTellsSpec)

/-- 'splicerlaw17.ShapeLoud', WHERE WHAT IT READS IS OF BULK AT MOST 1048576: true; the input reads as it did. -/
def shapeLoudUptoRow : OpenClaim := { program := "ytlfhjcalkokhiaadoor", sum := "9e31d0a91891c7a30ee46fde75277b626b496596eb135bf89d4582b387d44b44", func := "splicer/splicerlaw17.ShapeLoud", spec := "shapeLoud", unfollowed := true, recurses := true, named := ["splicer/level.steps"], apart := false, laid := [("splicer/level.steps", laid_splicer_level_steps)], narrowed := true }
def ShapeLoudUptoSaid : Prop := shapeLoudUptoRow.holds Tryd.pinned (OpenSpec.upto shapeLoudSpec)

end Rows
end Go.Proofs.YtlfhjcalkokhiaaDoor
