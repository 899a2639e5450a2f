/-
  DERIVED. GIVEN WITH THE SEED: THE CARDS: each row of YtchchemcaaggmaaDoorRows.lean that lists a variable, with what it lists TIED to the program's text (the seventh form; the later family's looks); each row that meets fmt, with fmt's text TOLD by the authors' own Lean function (tested against real Go, not proved from fmt's source: count such statements apart). THE CARD IS WHAT COUNTS. Prove the row's statement (the work); the ties are given (YtchchemcaaggmaaDoorTie.lean); close each card by the builder's one call (the guide's Derived/Test/ToyasCard.lean, 'card_holds'). Laid BY PROGRAM, IN A SANDBOX (cutbox-door.mjs). By AI agents, Wed Nov 11 2026. No macro, syntax, notation, axiom, sorry.
-/
import Derived.Test.YtchchemcaaggmaaDoorRows
import GoSem.ClaimSeven
namespace Go.Proofs.YtchchemcaaggmaaDoor
namespace Rows

/-- THE TIED CARD OF 'splicerlaw08.LevelTells'. -/
def levelTellsCard : Claim7 := { stood := { row := levelTellsRow, standIns := [], harness := (true, "b22ff8694346be5d5b417a2693206adc0c160e601a1ea3a49de945fa5850ebbb"), looks := false }, kinds := [], alts := [], laidByText := true, laidKinds := [.data], laidTests := true, laidLooks := .later }
def LevelTellsCardSaid : Prop := Claim7.holds Tryd.pinned (.plain (OpenSpec.ofChange levelTellsSpec)) levelTellsCard

/-- THE TIED CARD OF 'splicerlaw08.LevelSteps'. -/
def levelStepsCard : Claim7 := { stood := { row := levelStepsRow, standIns := [], harness := (true, "b22ff8694346be5d5b417a2693206adc0c160e601a1ea3a49de945fa5850ebbb"), looks := false }, kinds := [], alts := [], laidByText := true, laidKinds := [.data], laidTests := true, laidLooks := .later }
def LevelStepsCardSaid : Prop := Claim7.holds Tryd.pinned (.plain (OpenSpec.ofChange levelStepsSpec)) levelStepsCard

/-- THE TIED CARD OF 'splicerlaw08.LevelStays'. -/
def levelStaysCard : Claim7 := { stood := { row := levelStaysRow, standIns := [], harness := (true, "b22ff8694346be5d5b417a2693206adc0c160e601a1ea3a49de945fa5850ebbb"), looks := false }, kinds := [], alts := [], laidByText := true, laidKinds := [.data], laidTests := true, laidLooks := .later }
def LevelStaysCardSaid : Prop := Claim7.holds Tryd.pinned (.plain (OpenSpec.ofChange levelStaysSpec)) levelStaysCard

/-- THE SECOND FORM's CARD OF 'splicerlaw08.LevelTells'. -/
def levelTellsUptoCard : Claim7 := { stood := { row := levelTellsUptoRow, standIns := [], harness := (true, "b22ff8694346be5d5b417a2693206adc0c160e601a1ea3a49de945fa5850ebbb"), looks := false }, kinds := [], alts := [], laidByText := true, laidKinds := [.data], laidTests := true, laidLooks := .later }
def LevelTellsUptoCardSaid : Prop := Claim7.holds Tryd.pinned (.plain (OpenSpec.upto levelTellsSpec)) levelTellsUptoCard

/-- THE SECOND FORM's CARD OF 'splicerlaw08.LevelSteps'. -/
def levelStepsUptoCard : Claim7 := { stood := { row := levelStepsUptoRow, standIns := [], harness := (true, "b22ff8694346be5d5b417a2693206adc0c160e601a1ea3a49de945fa5850ebbb"), looks := false }, kinds := [], alts := [], laidByText := true, laidKinds := [.data], laidTests := true, laidLooks := .later }
def LevelStepsUptoCardSaid : Prop := Claim7.holds Tryd.pinned (.plain (OpenSpec.upto levelStepsSpec)) levelStepsUptoCard

/-- THE SECOND FORM's CARD OF 'splicerlaw08.LevelStays'. -/
def levelStaysUptoCard : Claim7 := { stood := { row := levelStaysUptoRow, standIns := [], harness := (true, "b22ff8694346be5d5b417a2693206adc0c160e601a1ea3a49de945fa5850ebbb"), looks := false }, kinds := [], alts := [], laidByText := true, laidKinds := [.data], laidTests := true, laidLooks := .later }
def LevelStaysUptoCardSaid : Prop := Claim7.holds Tryd.pinned (.plain (OpenSpec.upto levelStaysSpec)) levelStaysUptoCard
end Rows
end Go.Proofs.YtchchemcaaggmaaDoor
