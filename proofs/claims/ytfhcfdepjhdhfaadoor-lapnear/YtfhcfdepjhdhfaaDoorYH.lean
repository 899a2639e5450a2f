/-
  P12.3 and P12.4 at each sample: what a frame tells is near the exact sums, and near what was taken. Plain numbers, but for satF.
-/
import Derived.Test.YtfhcfdepjhdhfaaDoorYC
import Derived.Test.YtfhcfdepjhdhfaaDoorYF
import Derived.Test.YtfhcfdepjhdhfaaDoorYE
import Derived.Test.YtfhcfdepjhdhfaaDoorYN
import Derived.Test.YtfhcfdepjhdhfaaDoorYO
namespace Go.Proofs.YtfhcfdepjhdhfaaDoor
set_option linter.unusedVariables false

theorem sat_near {s t d : Int} (hd : 0 ≤ d) (h1 : -d ≤ s - t) (h2 : s - t ≤ d) : -d ≤ satF s - satF t ∧ satF s - satF t ≤ d := by unfold satF; omega
theorem sat_self {s t d : Int} (hd : 0 ≤ d) (ht : -32768 ≤ t ∧ t ≤ 32767) (h1 : -d ≤ s - t) (h2 : s - t ≤ d) : -d ≤ satF s - t ∧ satF s - t ≤ d := by unfold satF; omega
theorem back_bd {n : Nat} (hN : IsN n) {X : Nat → Int} (hX : ∀ i, i < n → -33554432 ≤ X i ∧ X i ≤ 33554432) (k : Nat) : -67108864 ≤ backF n X k ∧ backF n X k ≤ 67108864 := by
  have h := xsum_bd hX k
  unfold backF shrB
  rcases hN with rfl | rfl
  · rw [if_neg (by decide)]; omega
  · rw [if_pos rfl]; omega
/-- What two spectra (of n' and of n numbers) say at the samples that their blocks share. -/
theorem near_shared {n n' : Nat} (hN : IsN n) (hN' : IsN n') {X' X : Nat → Int} (hX' : ∀ i, i < n' → -33554432 ≤ X' i ∧ X' i ≤ 33554432) (hX : ∀ i, i < n → -33554432 ≤ X i ∧ X i ≤ 33554432) {i : Nat} (hi : i < 8) :
    -2 ≤ satF (wMeetF (wRightF n' (backF n' X') i) (wLeftF (backF n X) i)) - satF (exF n' n X' X i / 1048576) ∧ satF (wMeetF (wRightF n' (backF n' X') i) (wLeftF (backF n X) i)) - satF (exF n' n X' X i / 1048576) ≤ 2 := by
  have w1 := wF_bd i
  have w2 := wF_bd (7 - i)
  by_cases h4 : i < 4
  · have b1 := back_bd hN' hX' (n' - 4 + i)
    have b2 := back_bd hN hX (3 - i)
    have m1 := mul_bd' w2.1 w2.2 b1.1 b1.2
    have m2 := mul_bd' w1.1 w1.2 b2.1 b2.2
    have h := near_two hN' hN (p := wF (7 - i)) (q := wF i) (A := xsum n' X' (n' - 4 + i)) (B := xsum n X (3 - i)) (by omega) (by omega) (by unfold backF at m1; omega) (by unfold backF at m2; omega)
    rw [wRightF, if_pos h4, wLeftF, if_pos h4, exF, if_pos h4]
    exact sat_near (by omega) h.1 h.2
  · have b1 := back_bd hN' hX' (n' + 3 - i)
    have b2 := back_bd hN hX (i - 4)
    have m1 := mul_bd' w2.1 w2.2 b1.1 b1.2
    have m2 := mul_bd' w1.1 w1.2 b2.1 b2.2
    have h := near_two hN' hN (p := -wF (7 - i)) (q := wF i) (A := xsum n' X' (n' + 3 - i)) (B := xsum n X (i - 4)) (by omega) (by omega) (by unfold backF at m1; rw [Int.neg_mul]; omega) (by unfold backF at m2; omega)
    rw [wRightF, if_neg h4, wLeftF, if_neg h4, exF, if_neg h4, if_pos hi]
    exact sat_near (by omega) h.1 h.2
/-- At a block's own samples. -/
theorem near_own {n n' : Nat} (hN : IsN n) {X' X : Nat → Int} {i : Nat} (hi : 8 ≤ i) : -2 ≤ satF (backF n X (i - 4)) - satF (exF n' n X' X i / 1048576) ∧ satF (backF n X (i - 4)) - satF (exF n' n X' X i / 1048576) ≤ 2 := by
  have h := near_one hN (xsum n X (i - 4))
  rw [exF, if_neg (by omega), if_neg (by omega)]
  exact sat_near (by omega) h.1 h.2
/-- Of what was taken: a block's own samples. -/
theorem back_own {n m a : Nat} (hb : Blk n m a) {S : Nat → Int} (hS : ∀ i, i < n + 8 → -32768 ≤ S i ∧ S i ≤ 32767) {k : Nat} (h4 : 4 ≤ k) (hk : k + 4 < n) :
    -24 ≤ satF (backF n (fastF n m (wFoldF n S)) k) - S (4 + k) ∧ satF (backF n (fastF n m (wFoldF n S)) k) - S (4 + k) ≤ 24 := by
  have h := back_fast hb (U := wFoldF n S) (fold_fit (by have := hb.hN; unfold IsN at this; omega) hS) (x := k) (by omega)
  have e : wFoldF n S k = S (4 + k) := by rw [wFoldF, if_neg (by omega), if_neg (by omega)]
  rw [e] at h
  exact sat_self (by omega) (hS _ (by omega)) (by omega) (by omega)
/-- Those that two blocks share: the last 8 of the samples S' are the first 8 of the samples S. -/
theorem back_shared {n m a n' m' a' : Nat} (hb : Blk n m a) (hb' : Blk n' m' a') {S' S : Nat → Int} (hs : ∀ j, j < 8 → S' (n' + j) = S j) (hS' : ∀ i, i < n' + 8 → -32768 ≤ S' i ∧ S' i ≤ 32767) (hS : ∀ i, i < n + 8 → -32768 ≤ S i ∧ S i ≤ 32767) {j : Nat} (hj : j < 8) :
    -24 ≤ satF (wMeetF (wRightF n' (backF n' (fastF n' m' (wFoldF n' S'))) j) (wLeftF (backF n (fastF n m (wFoldF n S))) j)) - S j ∧ satF (wMeetF (wRightF n' (backF n' (fastF n' m' (wFoldF n' S'))) j) (wLeftF (backF n (fastF n m (wFoldF n S))) j)) - S j ≤ 24 := by
  have c1 : n = 8 ∨ n = 64 := by have := hb.hN; unfold IsN at this; omega
  have c2 : n' = 8 ∨ n' = 64 := by have := hb'.hN; unfold IsN at this; omega
  have h := meets_off (n := n') (n' := n) (by omega) (by omega) hs (fun j hj => hS j (by omega)) (u := backF n' (fastF n' m' (wFoldF n' S'))) (v := backF n (fastF n m (wFoldF n S)))
    (fun k hk => back_fast hb' (fold_fit c2 hS') hk) (fun k hk => back_fast hb (fold_fit c1 hS) hk) hj
  exact sat_self (by omega) (hS j (by omega)) h.1 h.2
end Go.Proofs.YtfhcfdepjhdhfaaDoor
