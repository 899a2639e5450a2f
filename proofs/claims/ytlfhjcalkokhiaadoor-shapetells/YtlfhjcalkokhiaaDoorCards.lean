/-
  DERIVED. GIVEN WITH THE SEED: THE CARDS: each row of YtlfhjcalkokhiaaDoorRows.lean that lists a variable, with what it lists TIED to the program's text (the seventh form; the later family's looks); each row that meets fmt, with fmt's text TOLD by the authors' own Lean function (tested against real Go, not proved from fmt's source: count such statements apart). THE CARD IS WHAT COUNTS. Prove the row's statement (the work); the ties are given (YtlfhjcalkokhiaaDoorTie.lean); close each card by the builder's one call (the guide's Derived/Test/ToyasCard.lean, 'card_holds'). Laid BY PROGRAM, IN A SANDBOX (cutbox-door.mjs). By AI agents, Wed Nov 11 2026. No macro, syntax, notation, axiom, sorry.
-/
import Derived.Test.YtlfhjcalkokhiaaDoorRows
import GoSem.ClaimSeven
namespace Go.Proofs.YtlfhjcalkokhiaaDoor
namespace Rows

/-- THE TIED CARD OF 'splicerlaw17.ShapeTells'. -/
def shapeTellsCard : Claim7 := { stood := { row := shapeTellsRow, standIns := [], harness := (true, "0bf9d9aaeaaf4c0da39a532fcb466dc68b186d98a0d6905ebc781d4a13e991e0"), looks := false }, kinds := [], alts := [], laidByText := true, laidKinds := [.data], laidTests := true, laidLooks := .later }
def ShapeTellsCardSaid : Prop := Claim7.holds Tryd.pinned (.plain (OpenSpec.ofChange shapeTellsSpec)) shapeTellsCard

/-- THE TIED CARD OF 'splicerlaw17.ShapeLoud'. -/
def shapeLoudCard : Claim7 := { stood := { row := shapeLoudRow, standIns := [], harness := (true, "0bf9d9aaeaaf4c0da39a532fcb466dc68b186d98a0d6905ebc781d4a13e991e0"), looks := false }, kinds := [], alts := [], laidByText := true, laidKinds := [.data], laidTests := true, laidLooks := .later }
def ShapeLoudCardSaid : Prop := Claim7.holds Tryd.pinned (.plain (OpenSpec.ofChange shapeLoudSpec)) shapeLoudCard

/-- THE SECOND FORM's CARD OF 'splicerlaw17.ShapeTells'. -/
def shapeTellsUptoCard : Claim7 := { stood := { row := shapeTellsUptoRow, standIns := [], harness := (true, "0bf9d9aaeaaf4c0da39a532fcb466dc68b186d98a0d6905ebc781d4a13e991e0"), looks := false }, kinds := [], alts := [], laidByText := true, laidKinds := [.data], laidTests := true, laidLooks := .later }
def ShapeTellsUptoCardSaid : Prop := Claim7.holds Tryd.pinned (.plain (OpenSpec.upto shapeTellsSpec)) shapeTellsUptoCard

/-- THE SECOND FORM's CARD OF 'splicerlaw17.ShapeLoud'. -/
def shapeLoudUptoCard : Claim7 := { stood := { row := shapeLoudUptoRow, standIns := [], harness := (true, "0bf9d9aaeaaf4c0da39a532fcb466dc68b186d98a0d6905ebc781d4a13e991e0"), looks := false }, kinds := [], alts := [], laidByText := true, laidKinds := [.data], laidTests := true, laidLooks := .later }
def ShapeLoudUptoCardSaid : Prop := Claim7.holds Tryd.pinned (.plain (OpenSpec.upto shapeLoudSpec)) shapeLoudUptoCard
end Rows
end Go.Proofs.YtlfhjcalkokhiaaDoor
