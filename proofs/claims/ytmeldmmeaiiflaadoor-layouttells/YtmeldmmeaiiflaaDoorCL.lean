/-
  Cells of a block that is made, and behind it.
-/
import Derived.Test.YtmeldmmeaiiflaaDoorIC
namespace Go.Proofs.YtmeldmmeaiiflaaDoor
open Go.RowKit
set_option linter.unusedVariables false

theorem cell_al_old {w : World} {b : Nat} (o : Obj) (h : b < w.heap.size) : (w.alloc o).cell? ⟨b, 0, none⟩ = w.cell? ⟨b, 0, none⟩ := World.cell?_of_block (a := ⟨b, 0, none⟩) (al_old o h)
theorem cell_al_new {w : World} {b : Nat} (x : Value) (t : TypeId) (h : b = w.heap.size) : (w.alloc (.cells #[x] t)).cell? ⟨b, 0, none⟩ = some x := by
  subst h; exact IsAt.cell (cs := #[x]) (al_new w _) 0
theorem frozen_al_old {w : World} {b : Nat} (o : Obj) (h : b < w.heap.size) : (w.alloc o).frozen? ⟨b, 0, none⟩ = w.frozen? ⟨b, 0, none⟩ := World.frozen?_of_block (a := ⟨b, 0, none⟩) (al_old o h)
theorem frozen_al_new {w : World} {b : Nat} (x : Value) (t : TypeId) (h : b = w.heap.size) : (w.alloc (.cells #[x] t)).frozen? ⟨b, 0, none⟩ = false := by
  subst h; exact IsAt.frozen (cs := #[x]) (al_new w _) 0
end Go.Proofs.YtmeldmmeaiiflaaDoor
