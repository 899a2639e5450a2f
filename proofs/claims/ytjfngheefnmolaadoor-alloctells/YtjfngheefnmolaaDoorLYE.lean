/-
  The document's Width.
-/
import Derived.Test.YtjfngheefnmolaaDoorLYA
import Derived.Test.YtjfngheefnmolaaDoorIC
namespace Go.Proofs.YtjfngheefnmolaaDoor
open Go.ChangeShapes Go.WideShapes Go.ChangeAt Go.RowKit
set_option linter.unusedVariables false

theorem rwidth_any (b : Int) (w : World) : Calls Tryd.prog 18 #[.int .i64 b] w fun e w' => e = .returned (.int .i64 (widF b)) ∧ w' = w := by
  unfold widF
  by_cases h1 : b < 0
  · rw [if_pos (.inl h1)]
    go_enter Tryd.func18, Tryd.ntmps18
    go_wp2
    go_ret
    exact ⟨rfl, rfl⟩
  · by_cases h2 : 12 < b
    · rw [if_pos (.inr h2)]
      go_enter Tryd.func18, Tryd.ntmps18
      go_wp2
      go_ret
      exact ⟨rfl, rfl⟩
    · rw [if_neg (by omega)]
      by_cases h3 : b < 4
      · rw [if_pos h3]
        go_enter Tryd.func18, Tryd.ntmps18
        go_wp2
        go_ret
        exact ⟨rfl, rfl⟩
      · rw [if_neg h3]
        by_cases h4 : b < 8
        · rw [if_pos h4]
          go_enter Tryd.func18, Tryd.ntmps18
          go_wp2
          go_ret
          exact ⟨rfl, rfl⟩
        · rw [if_neg h4]
          go_enter Tryd.func18, Tryd.ntmps18
          go_wp2
          go_ret
          exact ⟨rfl, rfl⟩
end Go.Proofs.YtjfngheefnmolaaDoor
