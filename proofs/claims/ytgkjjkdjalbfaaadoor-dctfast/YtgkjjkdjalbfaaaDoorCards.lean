/-
  DERIVED. GIVEN WITH THE SEED: THE CARDS: each row of YtgkjjkdjalbfaaaDoorRows.lean that lists a variable, with what it lists TIED to the program's text (the seventh form; the later family's looks); each row that meets fmt, with fmt's text TOLD by the authors' own Lean function (tested against real Go, not proved from fmt's source: count such statements apart). THE CARD IS WHAT COUNTS. Prove the row's statement (the work); the ties are given (YtgkjjkdjalbfaaaDoorTie.lean); close each card by the builder's one call (the guide's Derived/Test/ToyasCard.lean, 'card_holds'). Laid BY PROGRAM, IN A SANDBOX (cutbox-door.mjs). By AI agents, Wed Nov 11 2026. No macro, syntax, notation, axiom, sorry.
-/
import Derived.Test.YtgkjjkdjalbfaaaDoorRows
import GoSem.ClaimSeven
namespace Go.Proofs.YtgkjjkdjalbfaaaDoor
namespace Rows

/-- THE TIED CARD OF 'splicerlaw10.DctTells'. -/
def dctTellsCard : Claim7 := { stood := { row := dctTellsRow, standIns := [], harness := (true, "5a802862ed53cf44c0b8809fa5dbe26a0847f95826d485b225c5c1d30e571047"), looks := false }, kinds := [], alts := [], laidByText := true, laidKinds := [.data, .data], laidTests := true, laidLooks := .later }
def DctTellsCardSaid : Prop := Claim7.holds Tryd.pinned (.plain (OpenSpec.ofChange dctTellsSpec)) dctTellsCard

/-- THE TIED CARD OF 'splicerlaw10.DctFast'. -/
def dctFastCard : Claim7 := { stood := { row := dctFastRow, standIns := [], harness := (true, "5a802862ed53cf44c0b8809fa5dbe26a0847f95826d485b225c5c1d30e571047"), looks := false }, kinds := [], alts := [], laidByText := true, laidKinds := [.data, .data], laidTests := true, laidLooks := .later }
def DctFastCardSaid : Prop := Claim7.holds Tryd.pinned (.plain (OpenSpec.ofChange dctFastSpec)) dctFastCard

/-- THE SECOND FORM's CARD OF 'splicerlaw10.DctTells'. -/
def dctTellsUptoCard : Claim7 := { stood := { row := dctTellsUptoRow, standIns := [], harness := (true, "5a802862ed53cf44c0b8809fa5dbe26a0847f95826d485b225c5c1d30e571047"), looks := false }, kinds := [], alts := [], laidByText := true, laidKinds := [.data, .data], laidTests := true, laidLooks := .later }
def DctTellsUptoCardSaid : Prop := Claim7.holds Tryd.pinned (.plain (OpenSpec.upto dctTellsSpec)) dctTellsUptoCard

/-- THE SECOND FORM's CARD OF 'splicerlaw10.DctFast'. -/
def dctFastUptoCard : Claim7 := { stood := { row := dctFastUptoRow, standIns := [], harness := (true, "5a802862ed53cf44c0b8809fa5dbe26a0847f95826d485b225c5c1d30e571047"), looks := false }, kinds := [], alts := [], laidByText := true, laidKinds := [.data, .data], laidTests := true, laidLooks := .later }
def DctFastUptoCardSaid : Prop := Claim7.holds Tryd.pinned (.plain (OpenSpec.upto dctFastSpec)) dctFastUptoCard
end Rows
end Go.Proofs.YtgkjjkdjalbfaaaDoor
