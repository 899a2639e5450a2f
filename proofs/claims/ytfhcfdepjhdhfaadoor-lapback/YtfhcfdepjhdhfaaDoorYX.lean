/-
  What was taken comes back, but for 24: a frame's samples, of the spectrum that was taken of them.
-/
import Derived.Test.YtfhcfdepjhdhfaaDoorYH
import Derived.Test.YtfhcfdepjhdhfaaDoorYW
namespace Go.Proofs.YtfhcfdepjhdhfaaDoor
set_option linter.unusedVariables false

theorem fast_bd {n m a : Nat} (hb : Blk n m a) {U : Nat → Int} (hU : ∀ i, i < n → -65536 ≤ U i ∧ U i ≤ 65536) {x : Nat} (hx : x < n) : -33554432 ≤ fastF n m U x ∧ fastF n m U x ≤ 33554432 := by
  have h := fast_near hb (U := U) (fun i hi => by have := hU i hi; omega) hx
  have f := four_bd hb.hN (B := 65536) hU x
  omega
def mS (short : Bool) : Nat := if short then 2 else 5
def aS (short : Bool) : Nat := if short then 8 else 1
theorem blkS (short : Bool) : Blk (nS short) (mS short) (aS short) := by cases short; exact blk64; exact blk8
/-- The samples that a block is taken of. -/
def smpB (short : Bool) (S : Nat → Int) (b i : Nat) : Int := S (nS short * b + i)
theorem smpB_fit (short : Bool) {S : Nat → Int} (hS : Fit15 S 72) {b : Nat} (hb : b < kS short) : ∀ i, i < nS short + 8 → -32768 ≤ smpB short S b i ∧ smpB short S b i ≤ 32767 := fun i hi => by
  refine hS _ ?_
  cases short
  · have h1 : b < 1 := hb
    have h2 : i < 64 + 8 := hi
    show 64 * b + i < 72
    omega
  · have h1 : b < 8 := hb
    have h2 : i < 8 + 8 := hi
    show 8 * b + i < 72
    omega
/-- A block that was taken and is back. -/
def yB (short : Bool) (S : Nat → Int) (b : Nat) : Nat → Int := backF (nS short) (fastF (nS short) (mS short) (wFoldF (nS short) (smpB short S b)))
theorem back_congr {n : Nat} {U V : Nat → Int} (h : ∀ i, i < n → U i = V i) (k : Nat) : backF n U k = backF n V k := by rw [backF, backF, xsum_congr h]
theorem xS_take (short : Bool) (S : Nat → Int) {b : Nat} (hb : b < kS short) {i : Nat} (hi : i < nS short) : xS short (takeF short S) b i = fastF (nS short) (mS short) (wFoldF (nS short) (smpB short S b)) i := by
  cases short
  · have h1 : b < 1 := hb
    obtain rfl : b = 0 := by omega
    have e : smpB false S 0 = S := by funext i; show S (64 * 0 + i) = S i; rw [Nat.mul_zero, Nat.zero_add]
    rw [e]
    rfl
  · have h1 : b < 8 := hb
    have h2 : i < 8 := hi
    show layF (fun b => fastF 8 2 (wFoldF 8 (shortX S b))) (8 * i + b) = fastF 8 2 (wFoldF 8 (shortX S b)) i
    rw [layF, show (8 * i + b) % 8 = b by omega, show (8 * i + b) / 8 = i by omega]
theorem yS_take (short : Bool) (S : Nat → Int) {b : Nat} (hb : b < kS short) (k : Nat) : yS short (takeF short S) b k = yB short S b k := back_congr (fun i hi => xS_take short S hb hi) k
theorem take_in (short : Bool) {S : Nat → Int} (hS : Fit15 S 72) : allIn (-33554432) 33554432 (takeF short S) 64 = true := by
  refine (allIn_iff _ _ _ _).2 fun q hq => ?_
  have hfit := fun (b : Nat) (hb : b < kS short) => fold_fit (n := nS short) (by cases short; exact .inr rfl; exact .inl rfl) (X := smpB short S b) (smpB_fit short hS hb)
  cases short
  · have h := fast_bd (blkS false) (hfit 0 (by decide)) (x := q) hq
    have e : smpB false S 0 = S := by funext i; show S (64 * 0 + i) = S i; rw [Nat.mul_zero, Nat.zero_add]
    rw [e] at h
    exact h
  · exact fast_bd (blkS true) (hfit (q % 8) (show q % 8 < 8 by omega)) (x := q / 8) (show q / 8 < 8 by omega)
/-- The tail ahead of a frame of the samples S is what the frame ahead of it has left. -/
def TailOf (T S : Nat → Int) : Prop := ∃ (s : Bool) (S' : Nat → Int), Fit15 S' 72 ∧ (∀ j, j < 8 → S' (64 + j) = S j) ∧ ∀ j, j < 8 → T j = wRightF (nS s) (yB s S' (kS s - 1)) j
theorem left_congr {u v : Nat → Int} (h : ∀ k, u k = v k) (j : Nat) : wLeftF u j = wLeftF v j := by rw [wLeftF, wLeftF, h]
theorem right_congr (n : Nat) {u v : Nat → Int} (h : ∀ k, u k = v k) (j : Nat) : wRightF n u j = wRightF n v j := by
  unfold wRightF
  split <;> rw [h]
theorem smp_back (short : Bool) {T S : Nat → Int} (hS : Fit15 S 72) {q : Nat} (hq : q < 64) (hT : q < 8 → TailOf T S) :
    -24 ≤ smpF short T (takeF short S) q - S q ∧ smpF short T (takeF short S) q - S q ≤ 24 := by
  obtain ⟨b, j, hb, hj, rfl⟩ : ∃ b j, b < kS short ∧ j < nS short ∧ q = nS short * b + j := by
    cases short
    · exact ⟨0, q, by decide, hq, by omega⟩
    · exact ⟨q / 8, q % 8, show q / 8 < 8 by omega, show q % 8 < 8 by omega, show q = 8 * (q / 8) + q % 8 by omega⟩
  have hn8 : 8 ≤ nS short := by cases short <;> decide
  by_cases h8 : j < 8
  · unfold smpF
    rw [frF_meet hn8 T _ h8, left_congr (yS_take short S hb)]
    by_cases h0 : b = 0
    · subst h0
      obtain ⟨s, S', f', e', t'⟩ := hT (by omega)
      have hk : kS s - 1 < kS s := by cases s <;> decide
      rw [tlF, if_pos rfl, t' j h8]
      have h := back_shared (blkS short) (blkS s) (S' := smpB s S' (kS s - 1)) (S := smpB short S 0) (fun i hi => by
        have := e' i hi
        show S' (nS s * (kS s - 1) + (nS s + i)) = S (nS short * 0 + i)
        rw [Nat.mul_zero, Nat.zero_add, ← this]
        cases s
        · show S' (64 * 0 + (64 + i)) = S' (64 + i)
          rw [Nat.mul_zero, Nat.zero_add]
        · show S' (8 * 7 + (8 + i)) = S' (64 + i)
          rw [show 8 * 7 + (8 + i) = 64 + i by omega]) (smpB_fit s f' hk) (smpB_fit short hS hb) h8
      exact h
    · have hb1 : b - 1 < kS short := by omega
      rw [tlF, if_neg h0, right_congr _ (yS_take short S hb1)]
      have h := back_shared (blkS short) (blkS short) (S' := smpB short S (b - 1)) (S := smpB short S b) (fun i hi => by
        show S (nS short * (b - 1) + (nS short + i)) = S (nS short * b + i)
        obtain ⟨c, rfl⟩ : ∃ c, b = c + 1 := ⟨b - 1, by omega⟩
        rw [Nat.add_sub_cancel, Nat.mul_succ, Nat.add_assoc]) (smpB_fit short hS hb1) (smpB_fit short hS hb) h8
      exact h
  · obtain ⟨k, rfl⟩ : ∃ k, j = k + 4 := ⟨j - 4, by omega⟩
    unfold smpF
    rw [frF_own T _ (by omega) hj, yS_take short S hb]
    have h := back_own (blkS short) (S := smpB short S b) (smpB_fit short hS hb) (k := k) (by omega) (by omega)
    rw [show smpB short S b (4 + k) = S (nS short * b + (k + 4)) by show S (nS short * b + (4 + k)) = _; rw [Nat.add_comm 4 k]] at h
    exact h
theorem right_in {n : Nat} {u : Nat → Int} (hb : ∀ k, -67108864 ≤ u k ∧ u k ≤ 67108864) (j : Nat) : -35184372088832 ≤ wRightF n u j ∧ wRightF n u j ≤ 35184372088832 := by
  have w2 := wF_bd (7 - j)
  unfold wRightF
  split
  · have m := mul_bd' w2.1 w2.2 (hb (n - 4 + j)).1 (hb (n - 4 + j)).2
    omega
  · have m := mul_bd' w2.1 w2.2 (hb (n + 3 - j)).1 (hb (n + 3 - j)).2
    rw [Int.neg_mul]
    omega
theorem end_right (short : Bool) (T X : Nat → Int) : endF short T X = wRightF (nS short) (backF (nS short) (xS short X (kS short - 1))) := by
  unfold endF tlF
  rw [if_neg (by cases short <;> decide)]
  rfl
theorem end_in (short : Bool) (T : Nat → Int) {X : Nat → Int} (hX : ∀ i, i < 64 → -33554432 ≤ X i ∧ X i ≤ 33554432) : allIn (-35184372088832) 35184372088832 (endF short T X) 8 = true := by
  refine (allIn_iff _ _ _ _).2 fun j _ => ?_
  rw [end_right]
  exact right_in (fun k => back_lo (isNS short) (xS_bd short hX _ (by cases short <;> decide)) k) j
/-- The tail behind a frame of the samples S is one ahead of the next. -/
theorem end_tail (short : Bool) (T : Nat → Int) {S S1 : Nat → Int} (hS : Fit15 S 72) (h : ∀ j, j < 8 → S (64 + j) = S1 j) : TailOf (endF short T (takeF short S)) S1 :=
  ⟨short, S, hS, h, fun j _ => by
    rw [end_right]
    exact right_congr _ (yS_take short S (by cases short <;> decide)) j⟩
end Go.Proofs.YtfhcfdepjhdhfaaDoor
