/-
  What two blocks leave, each number of them off by 12 at most, is off by 24 at most from the samples that they share. Plain numbers.
-/
import Derived.Test.YtfhcfdepjhdhfaaDoorZL
namespace Go.Proofs.YtfhcfdepjhdhfaaDoor
set_option linter.unusedVariables false

theorem fold_end {n : Nat} (hn : 8 ≤ n) (X : Nat → Int) {j : Nat} (hj : j < 4) : wFoldF n X (n - 4 + j) = sh15 (wF (7 - j) * X (n + j) - wF j * X (n + 7 - j)) := by
  rw [wFoldF, if_neg (by omega), if_pos (by omega), tailI, show n - 1 - (n - 4 + j) = 3 - j by omega, show 4 + (3 - j) = 7 - j by omega, show n + 3 - (3 - j) = n + j by omega, show 3 - (3 - j) = j by omega, show n + 4 + (3 - j) = n + 7 - j by omega]
theorem fold_begin (n : Nat) (X : Nat → Int) {j : Nat} (hj : j < 4) : wFoldF n X (3 - j) = sh15 (wF (7 - j) * X (7 - j) + wF j * X j) := by
  rw [wFoldF, if_pos (by omega), headI, show 4 + (3 - j) = 7 - j by omega, show 3 - (3 - j) = j by omega]
/-- The pairs of the slope. -/
theorem pair_off {j : Nat} (hj : j < 4) {a b U V : Int} (ha : -32768 ≤ a ∧ a ≤ 32767) (hb : -32768 ≤ b ∧ b ≤ 32767) (hU : -12 ≤ U - sh15 (wF (7 - j) * a - wF j * b) ∧ U - sh15 (wF (7 - j) * a - wF j * b) ≤ 12)
    (hV : -12 ≤ V - sh15 (wF (7 - j) * b + wF j * a) ∧ V - sh15 (wF (7 - j) * b + wF j * a) ≤ 12) :
    (-24 ≤ wMeetF (wF (7 - j) * U) (wF j * V) - a ∧ wMeetF (wF (7 - j) * U) (wF j * V) - a ≤ 24) ∧ (-24 ≤ wMeetF (-wF j * U) (wF (7 - j) * V) - b ∧ wMeetF (-wF j * U) (wF (7 - j) * V) - b ≤ 24) := by
  match j, hj with
  | 0, _ =>
    have e1 : wF (7 - 0) = 32764 := rfl
    have e2 : wF 0 = 494 := rfl
    rw [e1, e2] at hU hV ⊢
    unfold sh15 at hU hV
    unfold wMeetF sh15
    rw [if_pos (by omega), if_pos (by omega)]
    omega
  | 1, _ =>
    have e1 : wF (7 - 1) = 32481 := rfl
    have e2 : wF 1 = 4325 := rfl
    rw [e1, e2] at hU hV ⊢
    unfold sh15 at hU hV
    unfold wMeetF sh15
    rw [if_pos (by omega), if_pos (by omega)]
    omega
  | 2, _ =>
    have e1 : wF (7 - 2) = 30792 := rfl
    have e2 : wF 2 = 11207 := rfl
    rw [e1, e2] at hU hV ⊢
    unfold sh15 at hU hV
    unfold wMeetF sh15
    rw [if_pos (by omega), if_pos (by omega)]
    omega
  | 3, _ =>
    have e1 : wF (7 - 3) = 26435 := rfl
    have e2 : wF 3 = 19363 := rfl
    rw [e1, e2] at hU hV ⊢
    unfold sh15 at hU hV
    unfold wMeetF sh15
    rw [if_pos (by omega), if_pos (by omega)]
    omega
/-- What both leave is near what they share: the last 8 of the n + 8 samples X are the first 8 of the samples Y. -/
theorem meets_off {n n' : Nat} (hn : 8 ≤ n) (hn' : 8 ≤ n') {X Y : Nat → Int} (hs : ∀ j, j < 8 → X (n + j) = Y j) (hY : ∀ j, j < 8 → -32768 ≤ Y j ∧ Y j ≤ 32767) {u v : Nat → Int}
    (hu : ∀ k, k < n → -12 ≤ u k - wFoldF n X k ∧ u k - wFoldF n X k ≤ 12) (hv : ∀ k, k < n' → -12 ≤ v k - wFoldF n' Y k ∧ v k - wFoldF n' Y k ≤ 12) {j : Nat} (hj : j < 8) :
    -24 ≤ wMeetF (wRightF n u j) (wLeftF v j) - Y j ∧ wMeetF (wRightF n u j) (wLeftF v j) - Y j ≤ 24 := by
  by_cases h : j < 4
  · have h1 := hu (n - 4 + j) (by omega)
    have h2 := hv (3 - j) (by omega)
    rw [fold_end hn X h, hs j hj, show n + 7 - j = n + (7 - j) by omega, hs (7 - j) (by omega)] at h1
    rw [fold_begin n' Y h] at h2
    have := (pair_off h (hY j hj) (hY (7 - j) (by omega)) h1 h2).1
    rw [wRightF, if_pos h, wLeftF, if_pos h]
    exact this
  · have hi : 7 - j < 4 := by omega
    have h1 := hu (n - 4 + (7 - j)) (by omega)
    have h2 := hv (3 - (7 - j)) (by omega)
    rw [fold_end hn X hi, hs (7 - j) (by omega), show n + 7 - (7 - j) = n + j by omega, hs j hj] at h1
    rw [fold_begin n' Y hi] at h2
    have := (pair_off hi (hY (7 - j) (by omega)) (show -32768 ≤ Y j ∧ Y j ≤ 32767 from hY j hj) (by rw [show 7 - (7 - j) = j by omega] at *; exact h1) (by rw [show 7 - (7 - j) = j by omega] at *; exact h2)).2
    rw [wRightF, if_neg h, wLeftF, if_neg h]
    rw [show 7 - (7 - j) = j by omega, show n - 4 + (7 - j) = n + 3 - j by omega, show 3 - (7 - j) = j - 4 by omega] at this
    exact this
end Go.Proofs.YtfhcfdepjhdhfaaDoor
