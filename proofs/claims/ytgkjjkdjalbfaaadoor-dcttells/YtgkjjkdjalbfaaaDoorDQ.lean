/-
  The document's quarter, as a slice of its own.
-/
import Derived.Test.YtgkjjkdjalbfaaaDoorB
namespace Go.Proofs.YtgkjjkdjalbfaaaDoor
open Go.ChangeShapes Go.WideShapes Go.ChangeAt Go.RowKit
set_option linter.unusedVariables false

theorem quarter_at (w : World) :
    Calls Tryd.prog 32 #[] w fun e w' => e = .returned (.slice (some ⟨w.heap.size, 0, none⟩) 129 129) ∧ (∀ i, i < 129 → w'.cell? ⟨w.heap.size, i, none⟩ = some (.int .i64 (qd i))) ∧ Below w.heap.size w w' := by
  refine (quarter_any w).mono ?_
  rintro e w' ⟨rfl, rfl⟩
  refine ⟨rfl, fun i hi => ?_, (Below.refl _ w).alloc (Nat.le_refl _) _⟩
  rw [cell_of_row _ _ i qA 3 (0, 0) (heap_alloc_new w _)]
  exact qA_get hi
end Go.Proofs.YtgkjjkdjalbfaaaDoor
