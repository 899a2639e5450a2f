/-
  DERIVED. GIVEN WITH THE SEED: THE CARDS: each row of YthkojbmfhaaiiaaDoorRows.lean that lists a variable, with what it lists TIED to the program's text (the seventh form; the later family's looks); each row that meets fmt, with fmt's text TOLD by the authors' own Lean function (tested against real Go, not proved from fmt's source: count such statements apart). THE CARD IS WHAT COUNTS. Prove the row's statement (the work); the ties are given (YthkojbmfhaaiiaaDoorTie.lean); close each card by the builder's one call (the guide's Derived/Test/ToyasCard.lean, 'card_holds'). Laid BY PROGRAM, IN A SANDBOX (cutbox-door.mjs). By AI agents, Wed Nov 11 2026. No macro, syntax, notation, axiom, sorry.
-/
import Derived.Test.YthkojbmfhaaiiaaDoorRows
import GoSem.ClaimSeven
namespace Go.Proofs.YthkojbmfhaaiiaaDoor
namespace Rows

/-- THE TIED CARD OF 'splicerlaw09.FftTells'. -/
def fftTellsCard : Claim7 := { stood := { row := fftTellsRow, standIns := [], harness := (true, "c11c4d49a5d27a30e60c55f3c0c22f1e97faaaddee10281cd1360541405376ab"), looks := false }, kinds := [], alts := [], laidByText := true, laidKinds := [.data, .data], laidTests := true, laidLooks := .later }
def FftTellsCardSaid : Prop := Claim7.holds Tryd.pinned (.plain (OpenSpec.ofChange fftTellsSpec)) fftTellsCard

/-- THE TIED CARD OF 'splicerlaw09.FftNear'. -/
def fftNearCard : Claim7 := { stood := { row := fftNearRow, standIns := [], harness := (true, "c11c4d49a5d27a30e60c55f3c0c22f1e97faaaddee10281cd1360541405376ab"), looks := false }, kinds := [], alts := [], laidByText := true, laidKinds := [.data, .data], laidTests := true, laidLooks := .later }
def FftNearCardSaid : Prop := Claim7.holds Tryd.pinned (.plain (OpenSpec.ofChange fftNearSpec)) fftNearCard

/-- THE SECOND FORM's CARD OF 'splicerlaw09.FftTells'. -/
def fftTellsUptoCard : Claim7 := { stood := { row := fftTellsUptoRow, standIns := [], harness := (true, "c11c4d49a5d27a30e60c55f3c0c22f1e97faaaddee10281cd1360541405376ab"), looks := false }, kinds := [], alts := [], laidByText := true, laidKinds := [.data, .data], laidTests := true, laidLooks := .later }
def FftTellsUptoCardSaid : Prop := Claim7.holds Tryd.pinned (.plain (OpenSpec.upto fftTellsSpec)) fftTellsUptoCard

/-- THE SECOND FORM's CARD OF 'splicerlaw09.FftNear'. -/
def fftNearUptoCard : Claim7 := { stood := { row := fftNearUptoRow, standIns := [], harness := (true, "c11c4d49a5d27a30e60c55f3c0c22f1e97faaaddee10281cd1360541405376ab"), looks := false }, kinds := [], alts := [], laidByText := true, laidKinds := [.data, .data], laidTests := true, laidLooks := .later }
def FftNearUptoCardSaid : Prop := Claim7.holds Tryd.pinned (.plain (OpenSpec.upto fftNearSpec)) fftNearUptoCard
end Rows
end Go.Proofs.YthkojbmfhaaiiaaDoor
