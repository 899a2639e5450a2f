/-
  DERIVED. GIVEN WITH THE SEED: THE CARDS: each row of YtjfngheefnmolaaDoorRows.lean that lists a variable, with what it lists TIED to the program's text (the seventh form; the later family's looks); each row that meets fmt, with fmt's text TOLD by the authors' own Lean function (tested against real Go, not proved from fmt's source: count such statements apart). THE CARD IS WHAT COUNTS. Prove the row's statement (the work); the ties are given (YtjfngheefnmolaaDoorTie.lean); close each card by the builder's one call (the guide's Derived/Test/ToyasCard.lean, 'card_holds'). Laid BY PROGRAM, IN A SANDBOX (cutbox-door.mjs). By AI agents, Wed Nov 11 2026. No macro, syntax, notation, axiom, sorry.
-/
import Derived.Test.YtjfngheefnmolaaDoorRows
import GoSem.ClaimSeven
namespace Go.Proofs.YtjfngheefnmolaaDoor
namespace Rows

/-- THE TIED CARD OF 'splicerlaw15.AllocTells'. -/
def allocTellsCard : Claim7 := { stood := { row := allocTellsRow, standIns := [], harness := (true, "df3a8211be7214c6b8f18b430c2099a6e07fe95874796fde527fa877ab6d2054"), looks := false }, kinds := [], alts := [], laidByText := true, laidKinds := [.data], laidTests := true, laidLooks := .later }
def AllocTellsCardSaid : Prop := Claim7.holds Tryd.pinned (.plain (OpenSpec.ofChange allocTellsSpec)) allocTellsCard

/-- THE TIED CARD OF 'splicerlaw15.AllocGrows'. -/
def allocGrowsCard : Claim7 := { stood := { row := allocGrowsRow, standIns := [], harness := (true, "df3a8211be7214c6b8f18b430c2099a6e07fe95874796fde527fa877ab6d2054"), looks := false }, kinds := [], alts := [], laidByText := true, laidKinds := [.data], laidTests := true, laidLooks := .later }
def AllocGrowsCardSaid : Prop := Claim7.holds Tryd.pinned (.plain (OpenSpec.ofChange allocGrowsSpec)) allocGrowsCard

/-- THE SECOND FORM's CARD OF 'splicerlaw15.AllocTells'. -/
def allocTellsUptoCard : Claim7 := { stood := { row := allocTellsUptoRow, standIns := [], harness := (true, "df3a8211be7214c6b8f18b430c2099a6e07fe95874796fde527fa877ab6d2054"), looks := false }, kinds := [], alts := [], laidByText := true, laidKinds := [.data], laidTests := true, laidLooks := .later }
def AllocTellsUptoCardSaid : Prop := Claim7.holds Tryd.pinned (.plain (OpenSpec.upto allocTellsSpec)) allocTellsUptoCard

/-- THE SECOND FORM's CARD OF 'splicerlaw15.AllocGrows'. -/
def allocGrowsUptoCard : Claim7 := { stood := { row := allocGrowsUptoRow, standIns := [], harness := (true, "df3a8211be7214c6b8f18b430c2099a6e07fe95874796fde527fa877ab6d2054"), looks := false }, kinds := [], alts := [], laidByText := true, laidKinds := [.data], laidTests := true, laidLooks := .later }
def AllocGrowsUptoCardSaid : Prop := Claim7.holds Tryd.pinned (.plain (OpenSpec.upto allocGrowsSpec)) allocGrowsUptoCard
end Rows
end Go.Proofs.YtjfngheefnmolaaDoor
