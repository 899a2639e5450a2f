/-
  Lists of ints behind one another.
-/
import Derived.Test.YtmeldmmeaiiflaaDoorIC
namespace Go.Proofs.YtmeldmmeaiiflaaDoor
open Go.ChangeShapes Go.WideShapes Go.ChangeAt Go.RowKit
set_option linter.unusedVariables false

theorem intL_more (n m : Nat) (F G : Nat → Int) (h : ∀ i, i < m → F (n + i) = G i) : intL n F ++ intL m G = intL (n + m) F := by
  unfold intL
  rw [List.range_add, List.map_append, List.map_map]
  congr 1
  refine List.map_congr_left fun i hi => ?_
  rw [Function.comp, h i (List.mem_range.1 hi)]
theorem intL_len (n : Nat) (F : Nat → Int) : (intL n F).length = n := by simp [intL]
theorem intL_cells {w : World} {b off n : Nat} {F : Nat → Int} (h : ∀ i, i < n → w.cell? ⟨b, off + i, none⟩ = some (.int .i64 (F i))) (j : Nat) (u : Value) (hu : (intL n F)[j]? = some u) : w.cell? (Addr.add ⟨b, off, none⟩ j) = some u := by
  have hj : j < n := by
    have := (List.getElem?_eq_some_iff.1 hu).1
    rwa [intL_len] at this
  rw [intL_get hj] at hu
  rw [← hu, addr_add]
  exact h j hj
theorem intL_one (n : Nat) (F : Nat → Int) : ∀ u ∈ intL n F, u.oneCell' = true := fun u hu => by
  obtain ⟨i, _, rfl⟩ := List.mem_map.1 hu
  rfl
end Go.Proofs.YtmeldmmeaiiflaaDoor
