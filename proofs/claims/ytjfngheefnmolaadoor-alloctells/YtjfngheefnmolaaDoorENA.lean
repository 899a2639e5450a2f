/-
  Energy over plain integers: what is expected, the differences, the row again.
-/
import Derived.Test.YtjfngheefnmolaaDoorNI
namespace Go.Proofs.YtjfngheefnmolaaDoor
set_option linter.unusedVariables false

/-- What is expected of band b, where q is the number told last. -/
def expL (i : Bool) (P : Nat → Int) (q : Int) (b : Nat) : Int := if i then q else (3 * P b + q) / 4
def eBeg (i : Bool) (P : Nat → Int) : Int := if i then 8 else P 0
/-- The number told last ahead of band b. -/
def prevF (i : Bool) (P C : Nat → Int) : Nat → Int
  | 0 => eBeg i P
  | b + 1 => C b
def dltF (i : Bool) (P C : Nat → Int) (b : Nat) : Int := C b - expL i P (prevF i P C b) b
/-- The same, told by differences. -/
def lastF (i : Bool) (P D : Nat → Int) : Nat → Int
  | 0 => eBeg i P
  | b + 1 => expL i P (lastF i P D b) b + D b
def eRowF (i : Bool) (P D : Nat → Int) (b : Nat) : Int := lastF i P D (b + 1)
def eRightB (n : Nat) (X : Nat → Int) : Bool := decide (n = 13) && allIn 0 23 X 13
def eSideB (i : Bool) (n : Nat) (P : Nat → Int) : Bool := i || eRightB n P
/-- Is what the row ahead tells a row, where it is asked? -/
def Aside (i : Bool) (P : Nat → Int) : Prop := i = false → ∀ b, b < 13 → 0 ≤ P b ∧ P b ≤ 23

theorem exp_bd {i : Bool} {P : Nat → Int} (h : Aside i P) {q : Int} (h0 : 0 ≤ q) (h1 : q ≤ 23) {b : Nat} (hb : b < 13) : 0 ≤ expL i P q b ∧ expL i P q b ≤ 23 := by
  cases i with
  | true => exact ⟨by simpa [expL] using h0, by simpa [expL] using h1⟩
  | false =>
    have := h rfl b hb
    simp only [expL, Bool.false_eq_true, if_false]
    omega
theorem beg_bd {i : Bool} {P : Nat → Int} (h : Aside i P) : 0 ≤ eBeg i P ∧ eBeg i P ≤ 23 := by
  cases i with
  | true => exact ⟨by simp [eBeg], by simp [eBeg]⟩
  | false => exact h rfl 0 (by omega)
theorem prev_bd {i : Bool} {P C : Nat → Int} (h : Aside i P) (hC : ∀ b, b < 13 → 0 ≤ C b ∧ C b ≤ 23) {b : Nat} (hb : b < 13) : 0 ≤ prevF i P C b ∧ prevF i P C b ≤ 23 := by
  cases b with
  | zero => exact beg_bd h
  | succ b => exact hC b (by omega)
theorem prev_row (i : Bool) (P D : Nat → Int) (b : Nat) : prevF i P (eRowF i P D) b = lastF i P D b := by
  cases b with
  | zero => rfl
  | succ b => rfl
theorem dlt_bd {i : Bool} {P C : Nat → Int} (h : Aside i P) (hC : ∀ b, b < 13 → 0 ≤ C b ∧ C b ≤ 23) {b : Nat} (hb : b < 13) : -23 ≤ dltF i P C b ∧ dltF i P C b ≤ 23 := by
  have h1 := prev_bd h hC hb
  have h2 := exp_bd h h1.1 h1.2 hb
  have h3 := hC b hb
  rw [dltF]; omega
theorem last_bd {i : Bool} {P D : Nat → Int} (h : Aside i P) {k : Nat} (hk : ∀ b, b < k → 0 ≤ eRowF i P D b ∧ eRowF i P D b ≤ 23) : 0 ≤ lastF i P D k ∧ lastF i P D k ≤ 23 := by
  cases k with
  | zero => exact beg_bd h
  | succ k => exact hk k (by omega)
/-- A row that comes out has no great difference. -/
theorem row_near {i : Bool} {P D : Nat → Int} (h : Aside i P) (hr : allIn 0 23 (eRowF i P D) 13 = true) : ∀ b, b < 13 → -67 ≤ D b ∧ D b ≤ 67 := by
  intro b hb
  have hr := (allIn_iff _ _ _ _).1 hr
  have h1 := last_bd h (k := b) (fun j hj => hr j (by omega))
  have h2 := exp_bd h h1.1 h1.2 hb
  have h3 := hr b hb
  have e : eRowF i P D b = expL i P (lastF i P D b) b + D b := rfl
  omega
/-- A ROW COMES BACK. -/
theorem row_back (i : Bool) (P C : Nat → Int) : ∀ b, lastF i P (dltF i P C) b = prevF i P C b
  | 0 => rfl
  | b + 1 => by
    show expL i P (lastF i P (dltF i P C) b) b + dltF i P C b = C b
    rw [row_back i P C b, dltF]; omega
theorem row_same (i : Bool) (P C : Nat → Int) (b : Nat) : eRowF i P (dltF i P C) b = C b := row_back i P C (b + 1)
/-- Who stands alone asks nothing. -/
theorem dlt_alone (P Q C : Nat → Int) (b : Nat) : dltF true P C b = dltF true Q C b := by
  cases b with
  | zero => rfl
  | succ b => rfl
theorem row_alone (P Q D : Nat → Int) (b : Nat) : eRowF true P D b = eRowF true Q D b := by
  have : ∀ b, lastF true P D b = lastF true Q D b := by
    intro b
    induction b with
    | zero => rfl
    | succ b ih => show lastF true P D b + D b = lastF true Q D b + D b; rw [ih]
  exact this (b + 1)
/-- The first place that is out of a row. -/
theorem first_out {X : Nat → Int} (h : allIn 0 23 X 13 = false) : ∃ b, b < 13 ∧ (∀ j, j < b → 0 ≤ X j ∧ X j ≤ 23) ∧ ¬ (0 ≤ X b ∧ X b ≤ 23) := by
  refine Decidable.byContradiction fun hno => ?_
  have : allIn 0 23 X 13 = true := by
    refine (allIn_iff _ _ _ _).2 fun b => ?_
    induction b using Nat.strongRecOn with
    | _ b ih => exact fun hb => Decidable.byContradiction fun hx => hno ⟨b, hb, fun j hj => ih j hj (by omega), hx⟩
  rw [h] at this; cases this
end Go.Proofs.YtjfngheefnmolaaDoor
