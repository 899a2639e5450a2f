/-
  DERIVED. GIVEN WITH THE SEED: THE CARDS: each row of YtdfpmhdgebajfaaDoorRows.lean that lists a variable, with what it lists TIED to the program's text (the seventh form; the later family's looks); each row that meets fmt, with fmt's text TOLD by the authors' own Lean function (tested against real Go, not proved from fmt's source: count such statements apart). THE CARD IS WHAT COUNTS. Prove the row's statement (the work); the ties are given (YtdfpmhdgebajfaaDoorTie.lean); close each card by the builder's one call (the guide's Derived/Test/ToyasCard.lean, 'card_holds'). Laid BY PROGRAM, IN A SANDBOX (cutbox-door.mjs). By AI agents, Wed Nov 11 2026. No macro, syntax, notation, axiom, sorry.
-/
import Derived.Test.YtdfpmhdgebajfaaDoorRows
import GoSem.ClaimSeven
namespace Go.Proofs.YtdfpmhdgebajfaaDoor
namespace Rows

/-- THE TIED CARD OF 'splicerlaw05.SymPuts'. -/
def symPutsCard : Claim7 := { stood := { row := symPutsRow, standIns := [], harness := (true, "762ae6f7900a2816fa094463698eeedecc0236f2c2664f934e1b82a4d5d9fddf"), looks := false }, kinds := [], alts := [], laidByText := true, laidKinds := [.data, .data, .pinned], laidTests := true, laidLooks := .later }
def SymPutsCardSaid : Prop := Claim7.holds Tryd.pinned (.plain (OpenSpec.ofChange symPutsSpec)) symPutsCard

/-- THE TIED CARD OF 'splicerlaw05.SymGets'. -/
def symGetsCard : Claim7 := { stood := { row := symGetsRow, standIns := [], harness := (true, "762ae6f7900a2816fa094463698eeedecc0236f2c2664f934e1b82a4d5d9fddf"), looks := false }, kinds := [], alts := [], laidByText := true, laidKinds := [.data, .data, .pinned], laidTests := true, laidLooks := .later }
def SymGetsCardSaid : Prop := Claim7.holds Tryd.pinned (.plain (OpenSpec.ofChange symGetsSpec)) symGetsCard

/-- THE TIED CARD OF 'splicerlaw05.SymBack'. -/
def symBackCard : Claim7 := { stood := { row := symBackRow, standIns := [], harness := (true, "762ae6f7900a2816fa094463698eeedecc0236f2c2664f934e1b82a4d5d9fddf"), looks := false }, kinds := [], alts := [], laidByText := true, laidKinds := [.data, .data, .pinned], laidTests := true, laidLooks := .later }
def SymBackCardSaid : Prop := Claim7.holds Tryd.pinned (.plain (OpenSpec.ofChange symBackSpec)) symBackCard

/-- THE SECOND FORM's CARD OF 'splicerlaw05.SymPuts'. -/
def symPutsUptoCard : Claim7 := { stood := { row := symPutsUptoRow, standIns := [], harness := (true, "762ae6f7900a2816fa094463698eeedecc0236f2c2664f934e1b82a4d5d9fddf"), looks := false }, kinds := [], alts := [], laidByText := true, laidKinds := [.data, .data, .pinned], laidTests := true, laidLooks := .later }
def SymPutsUptoCardSaid : Prop := Claim7.holds Tryd.pinned (.plain (OpenSpec.upto symPutsSpec)) symPutsUptoCard

/-- THE SECOND FORM's CARD OF 'splicerlaw05.SymGets'. -/
def symGetsUptoCard : Claim7 := { stood := { row := symGetsUptoRow, standIns := [], harness := (true, "762ae6f7900a2816fa094463698eeedecc0236f2c2664f934e1b82a4d5d9fddf"), looks := false }, kinds := [], alts := [], laidByText := true, laidKinds := [.data, .data, .pinned], laidTests := true, laidLooks := .later }
def SymGetsUptoCardSaid : Prop := Claim7.holds Tryd.pinned (.plain (OpenSpec.upto symGetsSpec)) symGetsUptoCard

/-- THE SECOND FORM's CARD OF 'splicerlaw05.SymBack'. -/
def symBackUptoCard : Claim7 := { stood := { row := symBackUptoRow, standIns := [], harness := (true, "762ae6f7900a2816fa094463698eeedecc0236f2c2664f934e1b82a4d5d9fddf"), looks := false }, kinds := [], alts := [], laidByText := true, laidKinds := [.data, .data, .pinned], laidTests := true, laidLooks := .later }
def SymBackUptoCardSaid : Prop := Claim7.holds Tryd.pinned (.plain (OpenSpec.upto symBackSpec)) symBackUptoCard
end Rows
end Go.Proofs.YtdfpmhdgebajfaaDoor
