/-
  The document's expected, Deltas and Row.
-/
import Derived.Test.YtfpbmgejjnifmaaENE
import Derived.Test.YtfpbmgejjnifmaaRT
import Derived.Deep.AppendLies
namespace Go.Proofs.Ytfpbmgejjnifmaa
open Go.ChangeShapes Go.WideShapes Go.ChangeAt Go.RowKit
set_option linter.unusedVariables false

/-- What is expected of band b, of a row of which at least the first b numbers are told. -/
theorem rexp_any (i : Bool) (a : Option Addr) (len cap : Nat) (P : Nat → Int) (hp : i = false → len = 13) (ha : Aside i P) (a' : Option Addr) (n cap' : Nat) (C : Nat → Int) (b : Nat) (hb : b < 13) (hn : b ≤ n) (hm : n ≤ 64) (hq : 0 ≤ prevF i P C b ∧ prevF i P C b ≤ 23) (w : World) (h : IsInts w a len cap P) (h' : IsInts w a' n cap' C) :
    Calls Try.prog 17 #[.bool i, .slice a len cap, .slice a' n cap', .int .i64 b] w fun e w' => e = .returned (.int .i64 (expL i P (prevF i P C b) b)) ∧ w' = w := by
  cases i with
  | true =>
    cases b with
    | zero =>
      have e : expL true P (prevF true P C 0) 0 = 8 := rfl
      rw [e]
      clear h h' hp ha hq
      go_enter Try.func17, Try.ntmps17
      go_wp2
      go_ret
      exact ⟨rfl, rfl⟩
    | succ b =>
      have e : expL true P (prevF true P C (b + 1)) (b + 1) = C b := rfl
      rw [e]
      obtain ⟨cb, co, rfl, hcc⟩ := h'.cells (by omega)
      have hx := hcc w (Below.refl _ _) b (by omega)
      have h1 : (((b + 1 : Nat) : Int) == 0) = false := by simp; omega
      have h2 : ((b + 1 : Nat) : Int) - 1 = (b : Int) := by omega
      have h3 : b < n := by omega
      have h4 : 1 ≤ ((b + 1 : Nat) : Int) ∧ ((b + 1 : Nat) : Int) ≤ 13 := by omega
      clear h h' hp ha hq hcc
      generalize C b = x at *
      generalize ((b + 1 : Nat) : Int) = y at *
      go_enter Try.func17, Try.ntmps17
      go_wp2
      go_ret
      exact ⟨rfl, rfl⟩
  | false =>
    obtain rfl := hp rfl
    obtain ⟨pb, po, rfl, hpc⟩ := h.cells (by omega)
    have hP := ha rfl
    cases b with
    | zero =>
      have e : expL false P (prevF false P C 0) 0 = (3 * P 0 + P 0) / 4 := rfl
      have HE := hid e
      have hx := hpc w (Below.refl _ _) 0 (by omega)
      have hxb := hP 0 (by omega)
      rw [Nat.add_zero] at hx
      clear h h' hp ha hq hpc hP e
      generalize P 0 = p at *
      go_enter Try.func17, Try.ntmps17
      go_wp2
      go_ret
      exact ⟨ret_int HE.out.symm, rfl⟩
    | succ b =>
      have e : expL false P (prevF false P C (b + 1)) (b + 1) = (3 * P (b + 1) + C b) / 4 := rfl
      have HE := hid e
      obtain ⟨cb, co, rfl, hcc⟩ := h'.cells (by omega)
      have hx := hcc w (Below.refl _ _) b (by omega)
      have hxb : 0 ≤ C b ∧ C b ≤ 23 := hq
      have hp0 := hpc w (Below.refl _ _) 0 (by omega)
      have hp1 := hpc w (Below.refl _ _) (b + 1) (by omega)
      have hp1b := hP (b + 1) (by omega)
      rw [Nat.add_zero] at hp0
      obtain ⟨y, hy⟩ : ∃ y, b + 1 = y := ⟨_, rfl⟩
      rw [hy] at hp1 hp1b HE ⊢
      have h2 : (y : Int) - 1 = (b : Int) := by omega
      have h3 : b < n := by omega
      have h4 : 1 ≤ y ∧ y < 13 := by omega
      clear h h' hp ha hq hcc hpc hP e hy
      generalize C b = x at *
      generalize P y = p at *
      generalize P 0 = p0 at *
      go_enter Try.func17, Try.ntmps17
      go_wp2
      go_ret
      exact ⟨ret_int HE.out.symm, rfl⟩
end Go.Proofs.Ytfpbmgejjnifmaa
