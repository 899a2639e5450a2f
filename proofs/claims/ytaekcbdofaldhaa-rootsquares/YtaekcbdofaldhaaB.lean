/-
  The chapter's examples, as the statements ask for them.
-/
import Derived.Test.YtaekcbdofaldhaaRows
import Derived.Test.YtaekcbdofaldhaaA
import Derived.WalkKit
import Derived.ProofKit
import Derived.OpenShut
import Derived.Deep.QuietTactic
import Derived.BigQuiet
namespace Go.Proofs.Ytaekcbdofaldhaa
open Go.ChangeShapes Go.WideShapes Go.ChangeAt Go.RowKit
set_option linter.unusedVariables false

theorem root24 : rootF 24 = 4 := rootF_eq (by omega) (by omega) (by omega) (by omega)
theorem root21 : rootF 21 = 4 := rootF_eq (by omega) (by omega) (by omega) (by omega)
theorem near21 : nearF 21 = 5 := by rw [nearF_in (by omega) (by omega), root21]; rfl
theorem log9 : logF 9 = 3 := by rw [logF]; decide
theorem rootNeg : rootF (-1) = 0 := rootF_out (by omega)

theorem awake_any (w : World) :
    Calls Try.prog 11 #[] w fun e w' => e = .returned (.bool true) ∧ w' = w := by
  have h1 : Hid (∀ w : World, Calls Try.prog 5 #[.int .i64 24] w fun e w' => e = .returned (.int .i64 4) ∧ w' = w) := fun w => by have h := sqrt_any 24 w; rwa [root24] at h
  have h2 : Hid (∀ w : World, Calls Try.prog 7 #[.int .i64 9] w fun e w' => e = .returned (.int .i64 3) ∧ w' = w) := fun w => by have h := log_any 9 (by omega) w; rwa [log9] at h
  have h3 : Hid (∀ w : World, Calls Try.prog 9 #[.int .i64 21] w fun e w' => e = .returned (.int .i64 5) ∧ w' = w) := fun w => by have h := near_any 21 w; rwa [near21] at h
  have h4 : Hid (∀ w : World, Calls Try.prog 5 #[.int .i64 (-1)] w fun e w' => e = .returned (.int .i64 0) ∧ w' = w) := fun w => by have h := sqrt_any (-1) w; rwa [rootNeg] at h
  go_enter Try.func11, Try.ntmps11
  go_wp2_with (first
    | (go_at_call 5; with_reducible refine (h1.out _).mono ?_; rintro e w6 ⟨rfl, rfl⟩)
    | (go_at_call 5; with_reducible refine (h4.out _).mono ?_; rintro e w6 ⟨rfl, rfl⟩)
    | (go_at_call 7; with_reducible refine (h2.out _).mono ?_; rintro e w6 ⟨rfl, rfl⟩)
    | (go_at_call 9; with_reducible refine (h3.out _).mono ?_; rintro e w6 ⟨rfl, rfl⟩))
  go_ret
  exact ⟨rfl, rfl⟩
end Go.Proofs.Ytaekcbdofaldhaa
