/-
  The document's Mod.
-/
import Derived.Test.YtgbehapekfoaiaaN
import Derived.WalkKit
import Derived.ProofKit
import Derived.OpenShut
import Derived.Deep.QuietTactic
import Derived.BigQuiet
import Derived.Below
namespace Go.Proofs.Ytgbehapekfoaiaa
open Go.ChangeShapes Go.WideShapes Go.ChangeAt Go.RowKit
set_option linter.unusedVariables false

theorem modR_no (a b : Int) (hb : b < 1) (w : World) :
    Calls Try.prog 26 #[.int .i64 a, .int .i64 b] w fun e w' => e = .returned (.tuple #[.int .i64 0, .int .i64 0]) ∧ w' = w := by
  go_enter Try.func26, Try.ntmps26
  go_wp2
  go_ret2
  exact ⟨rfl, rfl⟩
theorem modR_pos (a b : Int) (hb : 1 ≤ b) (h0 : 0 ≤ a) (ha : a ≤ 9223372036854775807) (hb' : b ≤ 9223372036854775807) (w : World) :
    Calls Try.prog 26 #[.int .i64 a, .int .i64 b] w fun e w' => e = .returned (.tuple #[.int .i64 (a / b), .int .i64 (a % b)]) ∧ Below w.heap.size w w' := by
  have hm : 0 ≤ a % b := Int.emod_nonneg _ (by omega)
  go_enter Try.func26, Try.ntmps26
  go_wp2
  go_quiet (fail)
  go_wp2
  go_ret2
  exact ⟨rfl, below_drewN (Below.refl _ _) _⟩
theorem modR_neg (a b : Int) (hb : 1 ≤ b) (h0 : a < 0) (ha : -9223372036854775808 ≤ a) (hb' : b ≤ 9223372036854775807) (w : World) :
    Calls Try.prog 26 #[.int .i64 a, .int .i64 b] w fun e w' => e = .returned (.tuple #[.int .i64 (a / b), .int .i64 (a % b)]) ∧ Below w.heap.size w w' := by
  obtain ⟨f1, f2, f3, f4, f5⟩ := tdm a b hb h0
  have F1 : Hid (a.tdiv b * b + a.tmod b = a) := f1
  clear f1
  by_cases h : a.tmod b < 0
  · by_cases hb2 : b = 1
    · exfalso; subst hb2; omega
    have hq : -9223372036854775808 ≤ a.tdiv b - 1 := by
      have := F1.out
      by_cases hc : a.tdiv b = -9223372036854775808
      · rw [hc] at this; omega
      · omega
    go_enter Try.func26, Try.ntmps26
    go_wp2
    go_quiet (fail)
    go_wp2
    go_ret2
    exact ⟨ret_two (dm_step hb F1.out h f2), below_drewN (Below.refl _ _) _⟩
  · go_enter Try.func26, Try.ntmps26
    go_wp2
    go_quiet (fail)
    go_wp2
    go_ret2
    exact ⟨ret_two (dm_of hb F1.out (by omega) (by omega)), below_drewN (Below.refl _ _) _⟩
theorem modr_any (a b : Int) (ha : -9223372036854775808 ≤ a ∧ a ≤ 9223372036854775807) (hb' : b ≤ 9223372036854775807) (w : World) :
    Calls Try.prog 26 #[.int .i64 a, .int .i64 b] w fun e w' => e = .returned (.tuple #[.int .i64 (modQ a b), .int .i64 (modR a b)]) ∧ Below w.heap.size w w' := by
  by_cases hb : b < 1
  · refine (modR_no a b hb w).mono ?_
    rintro e w' ⟨rfl, rfl⟩
    exact ⟨by simp [modQ, modR, hb], Below.refl _ _⟩
  · have e1 : modQ a b = a / b := by rw [modQ, if_neg hb]
    have e2 : modR a b = a % b := by rw [modR, if_neg hb]
    rw [e1, e2]
    by_cases h0 : 0 ≤ a
    · exact modR_pos a b (by omega) h0 ha.2 hb' w
    · exact modR_neg a b (by omega) (by omega) ha.1 hb' w

end Go.Proofs.Ytgbehapekfoaiaa
