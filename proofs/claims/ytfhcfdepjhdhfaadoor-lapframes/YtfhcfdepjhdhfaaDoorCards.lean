/-
  DERIVED. GIVEN WITH THE SEED: THE CARDS: each row of YtfhcfdepjhdhfaaDoorRows.lean that lists a variable, with what it lists TIED to the program's text (the seventh form; the later family's looks); each row that meets fmt, with fmt's text TOLD by the authors' own Lean function (tested against real Go, not proved from fmt's source: count such statements apart). THE CARD IS WHAT COUNTS. Prove the row's statement (the work); the ties are given (YtfhcfdepjhdhfaaDoorTie.lean); close each card by the builder's one call (the guide's Derived/Test/ToyasCard.lean, 'card_holds'). Laid BY PROGRAM, IN A SANDBOX (cutbox-door.mjs). By AI agents, Wed Nov 11 2026. No macro, syntax, notation, axiom, sorry.
-/
import Derived.Test.YtfhcfdepjhdhfaaDoorRows
import GoSem.ClaimSeven
namespace Go.Proofs.YtfhcfdepjhdhfaaDoor
namespace Rows

/-- THE TIED CARD OF 'splicerlaw12.LapFrames'. -/
def lapFramesCard : Claim7 := { stood := { row := lapFramesRow, standIns := [], harness := (true, "12c22a06013339a00f16363d7ed0098be15b3053340fd64550b089da1d833b7c"), looks := false }, kinds := [], alts := [], laidByText := true, laidKinds := [.data], laidTests := true, laidLooks := .later }
def LapFramesCardSaid : Prop := Claim7.holds Tryd.pinned (.plain (OpenSpec.ofChange lapFramesSpec)) lapFramesCard

/-- THE TIED CARD OF 'splicerlaw12.LapNear'. -/
def lapNearCard : Claim7 := { stood := { row := lapNearRow, standIns := [], harness := (true, "12c22a06013339a00f16363d7ed0098be15b3053340fd64550b089da1d833b7c"), looks := false }, kinds := [], alts := [], laidByText := true, laidKinds := [.data], laidTests := true, laidLooks := .later }
def LapNearCardSaid : Prop := Claim7.holds Tryd.pinned (.plain (OpenSpec.ofChange lapNearSpec)) lapNearCard

/-- THE TIED CARD OF 'splicerlaw12.LapBack'. -/
def lapBackCard : Claim7 := { stood := { row := lapBackRow, standIns := [], harness := (true, "12c22a06013339a00f16363d7ed0098be15b3053340fd64550b089da1d833b7c"), looks := false }, kinds := [], alts := [], laidByText := true, laidKinds := [.data, .data, .data], laidTests := true, laidLooks := .later }
def LapBackCardSaid : Prop := Claim7.holds Tryd.pinned (.plain (OpenSpec.ofChange lapBackSpec)) lapBackCard

/-- THE TIED CARD OF 'splicerlaw12.LapTakes'. -/
def lapTakesCard : Claim7 := { stood := { row := lapTakesRow, standIns := [], harness := (true, "12c22a06013339a00f16363d7ed0098be15b3053340fd64550b089da1d833b7c"), looks := false }, kinds := [], alts := [], laidByText := true, laidKinds := [.data, .data, .data], laidTests := true, laidLooks := .later }
def LapTakesCardSaid : Prop := Claim7.holds Tryd.pinned (.plain (OpenSpec.ofChange lapTakesSpec)) lapTakesCard

/-- THE SECOND FORM's CARD OF 'splicerlaw12.LapFrames'. -/
def lapFramesUptoCard : Claim7 := { stood := { row := lapFramesUptoRow, standIns := [], harness := (true, "12c22a06013339a00f16363d7ed0098be15b3053340fd64550b089da1d833b7c"), looks := false }, kinds := [], alts := [], laidByText := true, laidKinds := [.data], laidTests := true, laidLooks := .later }
def LapFramesUptoCardSaid : Prop := Claim7.holds Tryd.pinned (.plain (OpenSpec.upto lapFramesSpec)) lapFramesUptoCard

/-- THE SECOND FORM's CARD OF 'splicerlaw12.LapNear'. -/
def lapNearUptoCard : Claim7 := { stood := { row := lapNearUptoRow, standIns := [], harness := (true, "12c22a06013339a00f16363d7ed0098be15b3053340fd64550b089da1d833b7c"), looks := false }, kinds := [], alts := [], laidByText := true, laidKinds := [.data], laidTests := true, laidLooks := .later }
def LapNearUptoCardSaid : Prop := Claim7.holds Tryd.pinned (.plain (OpenSpec.upto lapNearSpec)) lapNearUptoCard

/-- THE SECOND FORM's CARD OF 'splicerlaw12.LapBack'. -/
def lapBackUptoCard : Claim7 := { stood := { row := lapBackUptoRow, standIns := [], harness := (true, "12c22a06013339a00f16363d7ed0098be15b3053340fd64550b089da1d833b7c"), looks := false }, kinds := [], alts := [], laidByText := true, laidKinds := [.data, .data, .data], laidTests := true, laidLooks := .later }
def LapBackUptoCardSaid : Prop := Claim7.holds Tryd.pinned (.plain (OpenSpec.upto lapBackSpec)) lapBackUptoCard

/-- THE SECOND FORM's CARD OF 'splicerlaw12.LapTakes'. -/
def lapTakesUptoCard : Claim7 := { stood := { row := lapTakesUptoRow, standIns := [], harness := (true, "12c22a06013339a00f16363d7ed0098be15b3053340fd64550b089da1d833b7c"), looks := false }, kinds := [], alts := [], laidByText := true, laidKinds := [.data, .data, .data], laidTests := true, laidLooks := .later }
def LapTakesUptoCardSaid : Prop := Claim7.holds Tryd.pinned (.plain (OpenSpec.upto lapTakesSpec)) lapTakesUptoCard
end Rows
end Go.Proofs.YtfhcfdepjhdhfaaDoor
