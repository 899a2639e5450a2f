/-
  The chapter's example.
-/
import Derived.Test.YtjfngheefnmolaaDoorALC
import Derived.Test.YtjfngheefnmolaaDoorLYZ
namespace Go.Proofs.YtjfngheefnmolaaDoor
open Go.ChangeShapes Go.WideShapes Go.ChangeAt Go.RowKit
set_option linter.unusedVariables false

theorem alawake_any (w : World) : Calls Tryd.prog 5 #[] w fun e w' => e = .returned (.bool true) ∧ w' = w := by
  have K : ∀ q c x y, bandF q c x = y → Hid (Calls Tryd.prog 6 #[.int .i64 q, .int .i64 c, .int .i64 x] w fun e w' => e = .returned (.int .i64 y) ∧ w' = w) := fun q c x y h => by
    subst h; exact band_any q c x w
  have K1 := K 5 8 4 10 (by decide)
  have K2 := K 5 0 4 0 (by decide)
  have K3 := K 10 23 8 24 (by decide)
  have K4 := K 11 8 4 0 (by decide)
  have K5 := hid (all_no 0 none 0 0 (fun _ => 0) (by decide) (by decide) w (.inl rfl))
  clear K
  go_enter Tryd.func5, Tryd.ntmps5
  go_wp2_with (fail)
  refine Calls.mono K1.out ?_
  rintro e w1 ⟨rfl, rfl⟩
  go_wp2_with (fail)
  refine Calls.mono K2.out ?_
  rintro e w1 ⟨rfl, rfl⟩
  go_wp2_with (fail)
  refine Calls.mono K3.out ?_
  rintro e w1 ⟨rfl, rfl⟩
  go_wp2_with (fail)
  refine Calls.mono K5.out ?_
  rintro e w1 ⟨rfl, rfl⟩
  go_wp2_with (fail)
  refine Calls.mono K4.out ?_
  rintro e w1 ⟨rfl, rfl⟩
  go_wp2
  go_ret
  exact ⟨rfl, rfl⟩
theorem alawake_to (w : World) : Hid (∀ W, Below w.heap.size w W → Calls Tryd.prog 5 #[] W fun e w' => e = .returned (.bool true) ∧ Below w.heap.size w w') := fun W hb =>
  (alawake_any W).mono fun e w' h => ⟨h.1, by rw [h.2]; exact hb⟩
end Go.Proofs.YtjfngheefnmolaaDoor
