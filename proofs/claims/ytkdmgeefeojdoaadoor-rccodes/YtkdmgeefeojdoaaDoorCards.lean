/-
  DERIVED. GIVEN WITH THE SEED: THE CARDS: each row of YtkdmgeefeojdoaaDoorRows.lean that lists a variable, with what it lists TIED to the program's text (the seventh form; the later family's looks); each row that meets fmt, with fmt's text TOLD by the authors' own Lean function (tested against real Go, not proved from fmt's source: count such statements apart). THE CARD IS WHAT COUNTS. Prove the row's statement (the work); the ties are given (YtkdmgeefeojdoaaDoorTie.lean); close each card by the builder's one call (the guide's Derived/Test/ToyasCard.lean, 'card_holds'). Laid BY PROGRAM, IN A SANDBOX (cutbox-door.mjs). By AI agents, Wed Nov 11 2026. No macro, syntax, notation, axiom, sorry.
-/
import Derived.Test.YtkdmgeefeojdoaaDoorRows
import GoSem.ClaimSeven
namespace Go.Proofs.YtkdmgeefeojdoaaDoor
namespace Rows

/-- THE TIED CARD OF 'splicerlaw04.RcCodes'. -/
def rcCodesCard : Claim7 := { stood := { row := rcCodesRow, standIns := [], harness := (true, "688b9bf18627a513ce2bb0d70b93824ea309b2f17521c87fbd1bf3b58ba3cb13"), looks := false }, kinds := [], alts := [], laidByText := true, laidKinds := [.data, .pinned], laidTests := true, laidLooks := .later }
def RcCodesCardSaid : Prop := Claim7.holds Tryd.pinned (.plain (OpenSpec.ofChange rcCodesSpec)) rcCodesCard

/-- THE TIED CARD OF 'splicerlaw04.RcFinds'. -/
def rcFindsCard : Claim7 := { stood := { row := rcFindsRow, standIns := [], harness := (true, "688b9bf18627a513ce2bb0d70b93824ea309b2f17521c87fbd1bf3b58ba3cb13"), looks := false }, kinds := [], alts := [], laidByText := true, laidKinds := [.data, .pinned], laidTests := true, laidLooks := .later }
def RcFindsCardSaid : Prop := Claim7.holds Tryd.pinned (.plain (OpenSpec.ofChange rcFindsSpec)) rcFindsCard

/-- THE TIED CARD OF 'splicerlaw04.RcBack'. -/
def rcBackCard : Claim7 := { stood := { row := rcBackRow, standIns := [], harness := (true, "688b9bf18627a513ce2bb0d70b93824ea309b2f17521c87fbd1bf3b58ba3cb13"), looks := false }, kinds := [], alts := [], laidByText := true, laidKinds := [.data, .pinned], laidTests := true, laidLooks := .later }
def RcBackCardSaid : Prop := Claim7.holds Tryd.pinned (.plain (OpenSpec.ofChange rcBackSpec)) rcBackCard

/-- THE TIED CARD OF 'splicerlaw04.RcNobody'. -/
def rcNobodyCard : Claim7 := { stood := { row := rcNobodyRow, standIns := [], harness := (true, "688b9bf18627a513ce2bb0d70b93824ea309b2f17521c87fbd1bf3b58ba3cb13"), looks := false }, kinds := [], alts := [], laidByText := true, laidKinds := [.data, .pinned], laidTests := true, laidLooks := .later }
def RcNobodyCardSaid : Prop := Claim7.holds Tryd.pinned (.plain (OpenSpec.ofChange rcNobodySpec)) rcNobodyCard

/-- THE SECOND FORM's CARD OF 'splicerlaw04.RcCodes'. -/
def rcCodesUptoCard : Claim7 := { stood := { row := rcCodesUptoRow, standIns := [], harness := (true, "688b9bf18627a513ce2bb0d70b93824ea309b2f17521c87fbd1bf3b58ba3cb13"), looks := false }, kinds := [], alts := [], laidByText := true, laidKinds := [.data, .pinned], laidTests := true, laidLooks := .later }
def RcCodesUptoCardSaid : Prop := Claim7.holds Tryd.pinned (.plain (OpenSpec.upto rcCodesSpec)) rcCodesUptoCard

/-- THE SECOND FORM's CARD OF 'splicerlaw04.RcFinds'. -/
def rcFindsUptoCard : Claim7 := { stood := { row := rcFindsUptoRow, standIns := [], harness := (true, "688b9bf18627a513ce2bb0d70b93824ea309b2f17521c87fbd1bf3b58ba3cb13"), looks := false }, kinds := [], alts := [], laidByText := true, laidKinds := [.data, .pinned], laidTests := true, laidLooks := .later }
def RcFindsUptoCardSaid : Prop := Claim7.holds Tryd.pinned (.plain (OpenSpec.upto rcFindsSpec)) rcFindsUptoCard

/-- THE SECOND FORM's CARD OF 'splicerlaw04.RcBack'. -/
def rcBackUptoCard : Claim7 := { stood := { row := rcBackUptoRow, standIns := [], harness := (true, "688b9bf18627a513ce2bb0d70b93824ea309b2f17521c87fbd1bf3b58ba3cb13"), looks := false }, kinds := [], alts := [], laidByText := true, laidKinds := [.data, .pinned], laidTests := true, laidLooks := .later }
def RcBackUptoCardSaid : Prop := Claim7.holds Tryd.pinned (.plain (OpenSpec.upto rcBackSpec)) rcBackUptoCard

/-- THE SECOND FORM's CARD OF 'splicerlaw04.RcNobody'. -/
def rcNobodyUptoCard : Claim7 := { stood := { row := rcNobodyUptoRow, standIns := [], harness := (true, "688b9bf18627a513ce2bb0d70b93824ea309b2f17521c87fbd1bf3b58ba3cb13"), looks := false }, kinds := [], alts := [], laidByText := true, laidKinds := [.data, .pinned], laidTests := true, laidLooks := .later }
def RcNobodyUptoCardSaid : Prop := Claim7.holds Tryd.pinned (.plain (OpenSpec.upto rcNobodySpec)) rcNobodyUptoCard
end Rows
end Go.Proofs.YtkdmgeefeojdoaaDoor
