/-
  Package window over plain integers: the slope, what is folded, what is left, what meets; what was folded and is left by both is there again but for 3.
-/
import Derived.Test.YtjeglfhdgabdoaaDoorNW
namespace Go.Proofs.YtjeglfhdgabdoaaDoor
set_option linter.unusedVariables false

/-- The slope. -/
def wF (k : Nat) : Int := [494, 4325, 11207, 19363, 26435, 30792, 32481, 32764].getD k 0
theorem wF_bd (k : Nat) : 0 ≤ wF k ∧ wF k ≤ 32764 := by
  unfold wF
  match k with
  | 0 | 1 | 2 | 3 | 4 | 5 | 6 | 7 => exact ⟨by decide, by decide⟩
  | n + 8 => exact ⟨by simp [List.getD], by simp [List.getD]⟩
/-- To the nearest part of 2^15. -/
def sh15 (x : Int) : Int := (x + 16384) / 32768
theorem shr_sh15 {x : Int} (h1 : -2305843009213693952 ≤ x) (h2 : x ≤ 2305843009213693952) : shrF x 15 = sh15 x := by
  rw [shrF, if_pos ⟨h1, h2, by omega, by omega⟩]
  show (x + 2 ^ (15 : Int).toNat / 2) / 2 ^ (15 : Int).toNat = _
  have : ((2 : Int) ^ (15 : Int).toNat) = 32768 := by decide
  rw [this]; rfl
theorem sh15_bd {x B : Int} (h1 : -(32768 * B) ≤ x) (h2 : x ≤ 32768 * B) : -B ≤ sh15 x ∧ sh15 x ≤ B := by unfold sh15; omega
/-- A part of the slope of a number. -/
theorem mul_bd' {a x B : Int} (h1 : 0 ≤ a) (h2 : a ≤ 32764) (h3 : -B ≤ x) (h4 : x ≤ B) : -(32764 * B) ≤ a * x ∧ a * x ≤ 32764 * B := by
  have h0 : 0 ≤ B := by omega
  have e1 : a * x ≤ a * B := Int.mul_le_mul_of_nonneg_left h4 h1
  have e2 : a * (-B) ≤ a * x := Int.mul_le_mul_of_nonneg_left h3 h1
  have e3 : a * B ≤ 32764 * B := Int.mul_le_mul_of_nonneg_right h2 h0
  have e4 : a * (-B) = -(a * B) := Int.mul_neg a B
  omega
/-- What is rounded at the place i of a block's beginning, of its end. -/
def headI (X : Nat → Int) (i : Nat) : Int := wF (4 + i) * X (4 + i) + wF (3 - i) * X (3 - i)
def tailI (n : Nat) (X : Nat → Int) (i : Nat) : Int := wF (4 + i) * X (n + 3 - i) - wF (3 - i) * X (n + 4 + i)
/-- What is folded of n + 8 numbers X, at k. -/
def foldF (n : Nat) (X : Nat → Int) (k : Nat) : Int := if k < 4 then sh15 (headI X k) else if n - 4 ≤ k then sh15 (tailI n X (n - 1 - k)) else X (4 + k)
theorem headI_bd {X : Nat → Int} {i : Nat} {B : Int} (h1 : -B ≤ X (4 + i) ∧ X (4 + i) ≤ B) (h2 : -B ≤ X (3 - i) ∧ X (3 - i) ≤ B) : -(65528 * B) ≤ headI X i ∧ headI X i ≤ 65528 * B := by
  obtain ⟨a1, a2⟩ := wF_bd (4 + i)
  obtain ⟨b1, b2⟩ := wF_bd (3 - i)
  have := mul_bd' a1 a2 h1.1 h1.2
  have := mul_bd' b1 b2 h2.1 h2.2
  unfold headI; omega
theorem tailI_bd {n : Nat} {X : Nat → Int} {i : Nat} {B : Int} (h1 : -B ≤ X (n + 3 - i) ∧ X (n + 3 - i) ≤ B) (h2 : -B ≤ X (n + 4 + i) ∧ X (n + 4 + i) ≤ B) : -(65528 * B) ≤ tailI n X i ∧ tailI n X i ≤ 65528 * B := by
  obtain ⟨a1, a2⟩ := wF_bd (4 + i)
  obtain ⟨b1, b2⟩ := wF_bd (3 - i)
  have := mul_bd' a1 a2 h1.1 h1.2
  have := mul_bd' b1 b2 h2.1 h2.2
  unfold tailI; omega
/-- What a block u of n leaves to its left, to its right. -/
def leftF (u : Nat → Int) (j : Nat) : Int := wF j * u (if j < 4 then 3 - j else j - 4)
def rightF (n : Nat) (u : Nat → Int) (j : Nat) : Int := if j < 4 then wF (7 - j) * u (n - 4 + j) else -wF (7 - j) * u (n + 3 - j)
/-- What both leave, together, at one place. -/
def meetF (a b : Int) : Int := if -70368744177664 ≤ a ∧ a ≤ 70368744177664 ∧ -70368744177664 ≤ b ∧ b ≤ 70368744177664 then sh15 (a + b) else 0
/-- Is it a block's count? -/
def blkB (n : Nat) : Bool := n == 8 || n == 64
theorem blkB_iff {n : Nat} : blkB n = true ↔ n = 8 ∨ n = 64 := by simp [blkB]

theorem fold_bd {n : Nat} {X : Nat → Int} {B : Int} (hn : n = 8 ∨ n = 64) (hB : 0 ≤ B) (h : ∀ i, i < n + 8 → -B ≤ X i ∧ X i ≤ B) {k : Nat} (hk : k < n) : -(2 * B) ≤ foldF n X k ∧ foldF n X k ≤ 2 * B := by
  unfold foldF
  split
  · have := headI_bd (h (4 + k) (by omega)) (h (3 - k) (by omega))
    exact sh15_bd (by omega) (by omega)
  · split
    · have := tailI_bd (n := n) (h (n + 3 - (n - 1 - k)) (by omega)) (h (n + 4 + (n - 1 - k)) (by omega))
      exact sh15_bd (by omega) (by omega)
    · have := h (4 + k) (by omega)
      omega
/-- P11.3 at one place. -/
theorem meets {x : Nat → Int} (bx : ∀ i, -32768 ≤ x i ∧ x i ≤ 32767) (j : Nat) (hj : j < 8) :
    -3 ≤ meetF (rightF 8 (foldF 8 x) j) (leftF (foldF 8 fun i => x (8 + i)) j) - x (8 + j) ∧ meetF (rightF 8 (foldF 8 x) j) (leftF (foldF 8 fun i => x (8 + i)) j) - x (8 + j) ≤ 3 := by
  have hb := bx
  have h8 := bx 8; have h9 := bx 9; have h10 := bx 10; have h11 := bx 11; have h12 := bx 12; have h13 := bx 13; have h14 := bx 14; have h15 := bx 15
  clear bx hb
  match j, hj with
  | 0, _ =>
    have e1 : rightF 8 (foldF 8 x) 0 = 32764 * sh15 (32764 * x 8 - 494 * x 15) := rfl
    have e2 : leftF (foldF 8 fun i => x (8 + i)) 0 = 494 * sh15 (32764 * x 15 + 494 * x 8) := rfl
    rw [e1, e2, show x (8 + 0) = x 8 from rfl]
    unfold meetF sh15
    rw [if_pos (by omega)]
    omega
  | 1, _ =>
    have e1 : rightF 8 (foldF 8 x) 1 = 32481 * sh15 (32481 * x 9 - 4325 * x 14) := rfl
    have e2 : leftF (foldF 8 fun i => x (8 + i)) 1 = 4325 * sh15 (32481 * x 14 + 4325 * x 9) := rfl
    rw [e1, e2, show x (8 + 1) = x 9 from rfl]
    unfold meetF sh15
    rw [if_pos (by omega)]
    omega
  | 2, _ =>
    have e1 : rightF 8 (foldF 8 x) 2 = 30792 * sh15 (30792 * x 10 - 11207 * x 13) := rfl
    have e2 : leftF (foldF 8 fun i => x (8 + i)) 2 = 11207 * sh15 (30792 * x 13 + 11207 * x 10) := rfl
    rw [e1, e2, show x (8 + 2) = x 10 from rfl]
    unfold meetF sh15
    rw [if_pos (by omega)]
    omega
  | 3, _ =>
    have e1 : rightF 8 (foldF 8 x) 3 = 26435 * sh15 (26435 * x 11 - 19363 * x 12) := rfl
    have e2 : leftF (foldF 8 fun i => x (8 + i)) 3 = 19363 * sh15 (26435 * x 12 + 19363 * x 11) := rfl
    rw [e1, e2, show x (8 + 3) = x 11 from rfl]
    unfold meetF sh15
    rw [if_pos (by omega)]
    omega
  | 4, _ =>
    have e1 : rightF 8 (foldF 8 x) 4 = -19363 * sh15 (26435 * x 11 - 19363 * x 12) := rfl
    have e2 : leftF (foldF 8 fun i => x (8 + i)) 4 = 26435 * sh15 (26435 * x 12 + 19363 * x 11) := rfl
    rw [e1, e2, show x (8 + 4) = x 12 from rfl]
    unfold meetF sh15
    rw [if_pos (by omega)]
    omega
  | 5, _ =>
    have e1 : rightF 8 (foldF 8 x) 5 = -11207 * sh15 (30792 * x 10 - 11207 * x 13) := rfl
    have e2 : leftF (foldF 8 fun i => x (8 + i)) 5 = 30792 * sh15 (30792 * x 13 + 11207 * x 10) := rfl
    rw [e1, e2, show x (8 + 5) = x 13 from rfl]
    unfold meetF sh15
    rw [if_pos (by omega)]
    omega
  | 6, _ =>
    have e1 : rightF 8 (foldF 8 x) 6 = -4325 * sh15 (32481 * x 9 - 4325 * x 14) := rfl
    have e2 : leftF (foldF 8 fun i => x (8 + i)) 6 = 32481 * sh15 (32481 * x 14 + 4325 * x 9) := rfl
    rw [e1, e2, show x (8 + 6) = x 14 from rfl]
    unfold meetF sh15
    rw [if_pos (by omega)]
    omega
  | 7, _ =>
    have e1 : rightF 8 (foldF 8 x) 7 = -494 * sh15 (32764 * x 8 - 494 * x 15) := rfl
    have e2 : leftF (foldF 8 fun i => x (8 + i)) 7 = 32764 * sh15 (32764 * x 15 + 494 * x 8) := rfl
    rw [e1, e2, show x (8 + 7) = x 15 from rfl]
    unfold meetF sh15
    rw [if_pos (by omega)]
    omega
end Go.Proofs.YtjeglfhdgabdoaaDoor
