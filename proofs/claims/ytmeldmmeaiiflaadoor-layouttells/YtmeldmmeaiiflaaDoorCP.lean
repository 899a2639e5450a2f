/-
  copy into a row of ints from a place on.
-/
import Derived.Test.YtmeldmmeaiiflaaDoorBX
namespace Go.Proofs.YtmeldmmeaiiflaaDoor
open Go.ChangeShapes Go.WideShapes Go.ChangeAt Go.RowKit
set_option linter.unusedVariables false

/-- k numbers of X laid over Z from the place y on. -/
def overF (Z X : Nat → Int) (y k : Nat) (i : Nat) : Int := if y ≤ i ∧ i < y + k then X (i - y) else Z i
theorem over_row {n k y : Nat} (Z X : Nat → Int) (hy : y + k ≤ n) : ((rowA n Z).toList.take y ++ ((rowA k X).toList ++ (rowA n Z).toList.drop (y + (rowA k X).toList.length))).toArray = rowA n (overF Z X y k) := by
  have hl : (rowA k X).toList.length = k := by simp [rowA]
  have hn : (rowA n Z).toList.length = n := by simp [rowA]
  refine Array.ext (by simp [rowA]; omega) (fun i h1 h2 => ?_)
  have hi : i < n := by simpa [rowA] using h2
  have e2 := rowA_get (X := overF Z X y k) hi
  have e1 : ((rowA n Z).toList.take y ++ ((rowA k X).toList ++ (rowA n Z).toList.drop (y + (rowA k X).toList.length))).toArray[i]? = some (.int .i64 (overF Z X y k i)) := by
    rw [List.getElem?_toArray, hl]
    unfold overF
    by_cases c1 : i < y
    · rw [if_neg (by omega), List.getElem?_append_left (by rw [List.length_take, hn]; omega), List.getElem?_take_of_lt c1, Array.getElem?_toList]
      exact rowA_get hi
    · rw [List.getElem?_append_right (by rw [List.length_take, hn]; omega), List.length_take, hn, Nat.min_eq_left (by omega)]
      by_cases c2 : i < y + k
      · rw [if_pos (by omega), List.getElem?_append_left (by rw [hl]; omega), Array.getElem?_toList]
        exact rowA_get (by omega)
      · rw [if_neg (by omega), List.getElem?_append_right (by rw [hl]; omega), hl, List.getElem?_drop, Array.getElem?_toList, show y + k + (i - y - k) = i by omega]
        exact rowA_get hi
  rw [Array.getElem?_eq_getElem h1] at e1
  rw [Array.getElem?_eq_getElem h2] at e2
  exact Option.some.inj (e1.trans e2.symm)
theorem copy_at {n k y dl dc ca r b off : Nat} {X Z : Nat → Int} {w : World} (hr : RowAt r n Z w) (hy : y + k ≤ n) (hd : k ≤ dl) (hc : ∀ i, i < k → w.cell? ⟨b, off + i, none⟩ = some (.int .i64 (X i))) (ty : TypeId) :
    (Builtin.copy_ #[22, 22] ty #[.slice (some ⟨r, y, none⟩) dl dc, .slice (some ⟨b, off, none⟩) k ca]).run Tryd.prog w = .ok (goInt k) (w.setRow r (rowA n (overF Z X y k))) := by
  have hl : (rowA k X).toList.length = k := by simp [rowA]
  have := run_copy_row (P := Tryd.prog) w 22 22 ty 3 r y dl dc ⟨b, off, none⟩ k ca (rowA n Z) 3 (rowA k X).toList Tryd.underlying22 (by kernel_rfl) hr (by rw [hl]; exact (Nat.min_eq_left hd).symm)
    (fun j v hv => by
      have hj : j < k := by
        have := (List.getElem?_eq_some_iff.1 hv).1
        rw [hl] at this; exact this
      have e := rowA_get (X := X) hj
      rw [Array.getElem?_toList] at hv
      rw [e] at hv
      rw [← hv]
      rw [addr_add]; exact hc j hj) (by rw [hl]; simp [rowA]; exact hy) (fun v hv => by
      obtain ⟨j, hj⟩ := List.getElem?_of_mem hv
      have hj' : j < k := by
        have := (List.getElem?_eq_some_iff.1 hj).1
        rw [hl] at this; exact this
      rw [Array.getElem?_toList, rowA_get hj'] at hj
      rw [← Option.some.inj hj]; rfl)
  rw [List.append_assoc, over_row Z X hy, hl] at this
  exact this
theorem ButX.setRow {r : Nat} {w W : World} (h : ButX r w W) (cs : Array Value) : ButX r w (W.setRow r cs) :=
  ⟨below_setRow h.bel (Nat.le_refl _) cs, fun j h1 h2 => (setRow_other W r j cs (by omega)).trans (h.more j h1 h2)⟩
theorem row_setRow {r n : Nat} {Z : Nat → Int} {w : World} (h : RowAt r n Z w) (X : Nat → Int) : RowAt r n X (w.setRow r (rowA n X)) := setRow_heap w r _ _ _ _ h
end Go.Proofs.YtmeldmmeaiiflaaDoor
