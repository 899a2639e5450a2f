/-
  DERIVED. GIVEN WITH THE SEED: THE CARDS: each row of YtjeglfhdgabdoaaDoorRows.lean that lists a variable, with what it lists TIED to the program's text (the seventh form; the later family's looks); each row that meets fmt, with fmt's text TOLD by the authors' own Lean function (tested against real Go, not proved from fmt's source: count such statements apart). THE CARD IS WHAT COUNTS. Prove the row's statement (the work); the ties are given (YtjeglfhdgabdoaaDoorTie.lean); close each card by the builder's one call (the guide's Derived/Test/ToyasCard.lean, 'card_holds'). Laid BY PROGRAM, IN A SANDBOX (cutbox-door.mjs). By AI agents, Wed Nov 11 2026. No macro, syntax, notation, axiom, sorry.
-/
import Derived.Test.YtjeglfhdgabdoaaDoorRows
import GoSem.ClaimSeven
namespace Go.Proofs.YtjeglfhdgabdoaaDoor
namespace Rows

/-- THE TIED CARD OF 'splicerlaw11.WindowFolds'. -/
def windowFoldsCard : Claim7 := { stood := { row := windowFoldsRow, standIns := [], harness := (true, "022af639f9ef5229a6c61978b1f10f57b659db982307ed3e139a504d2f7df807"), looks := false }, kinds := [], alts := [], laidByText := true, laidKinds := [.data], laidTests := true, laidLooks := .later }
def WindowFoldsCardSaid : Prop := Claim7.holds Tryd.pinned (.plain (OpenSpec.ofChange windowFoldsSpec)) windowFoldsCard

/-- THE TIED CARD OF 'splicerlaw11.WindowLeaves'. -/
def windowLeavesCard : Claim7 := { stood := { row := windowLeavesRow, standIns := [], harness := (true, "022af639f9ef5229a6c61978b1f10f57b659db982307ed3e139a504d2f7df807"), looks := false }, kinds := [], alts := [], laidByText := true, laidKinds := [.data], laidTests := true, laidLooks := .later }
def WindowLeavesCardSaid : Prop := Claim7.holds Tryd.pinned (.plain (OpenSpec.ofChange windowLeavesSpec)) windowLeavesCard

/-- THE TIED CARD OF 'splicerlaw11.WindowMeets'. -/
def windowMeetsCard : Claim7 := { stood := { row := windowMeetsRow, standIns := [], harness := (true, "022af639f9ef5229a6c61978b1f10f57b659db982307ed3e139a504d2f7df807"), looks := false }, kinds := [], alts := [], laidByText := true, laidKinds := [.data], laidTests := true, laidLooks := .later }
def WindowMeetsCardSaid : Prop := Claim7.holds Tryd.pinned (.plain (OpenSpec.ofChange windowMeetsSpec)) windowMeetsCard

/-- THE SECOND FORM's CARD OF 'splicerlaw11.WindowFolds'. -/
def windowFoldsUptoCard : Claim7 := { stood := { row := windowFoldsUptoRow, standIns := [], harness := (true, "022af639f9ef5229a6c61978b1f10f57b659db982307ed3e139a504d2f7df807"), looks := false }, kinds := [], alts := [], laidByText := true, laidKinds := [.data], laidTests := true, laidLooks := .later }
def WindowFoldsUptoCardSaid : Prop := Claim7.holds Tryd.pinned (.plain (OpenSpec.upto windowFoldsSpec)) windowFoldsUptoCard

/-- THE SECOND FORM's CARD OF 'splicerlaw11.WindowLeaves'. -/
def windowLeavesUptoCard : Claim7 := { stood := { row := windowLeavesUptoRow, standIns := [], harness := (true, "022af639f9ef5229a6c61978b1f10f57b659db982307ed3e139a504d2f7df807"), looks := false }, kinds := [], alts := [], laidByText := true, laidKinds := [.data], laidTests := true, laidLooks := .later }
def WindowLeavesUptoCardSaid : Prop := Claim7.holds Tryd.pinned (.plain (OpenSpec.upto windowLeavesSpec)) windowLeavesUptoCard

/-- THE SECOND FORM's CARD OF 'splicerlaw11.WindowMeets'. -/
def windowMeetsUptoCard : Claim7 := { stood := { row := windowMeetsUptoRow, standIns := [], harness := (true, "022af639f9ef5229a6c61978b1f10f57b659db982307ed3e139a504d2f7df807"), looks := false }, kinds := [], alts := [], laidByText := true, laidKinds := [.data], laidTests := true, laidLooks := .later }
def WindowMeetsUptoCardSaid : Prop := Claim7.holds Tryd.pinned (.plain (OpenSpec.upto windowMeetsSpec)) windowMeetsUptoCard
end Rows
end Go.Proofs.YtjeglfhdgabdoaaDoor
