/-
  num.within.
-/
import Derived.Test.YtgbehapekfoaiaaNI
import Derived.WalkKit
import Derived.ProofKit
import Derived.OpenShut
import Derived.Deep.QuietTactic
import Derived.BigQuiet
import Derived.Below
namespace Go.Proofs.Ytgbehapekfoaiaa
open Go.ChangeShapes Go.WideShapes Go.ChangeAt Go.RowKit
set_option linter.unusedVariables false

/-- num.within: every number of a slice lies from low to high. -/
theorem within_any (lo hi : Int) (b n : Nat) (f : Nat → Int) (hn : n ≤ 1000) (w : World) (hc : ∀ i, i < n → w.cell? ⟨b, i, none⟩ = some (.int .i64 (f i))) :
    Calls Try.prog 25 #[.int .i64 lo, .int .i64 hi, .slice (some ⟨b, 0, none⟩) n n] w fun e w' => e = .returned (.bool (allIn lo hi f n)) ∧ w' = w := by
  go_enter Try.func25, Try.ntmps25
  go_wp2
  go_loop [11] (fun i => ∃ k : Nat, k ≤ n ∧ i = .int .i64 k ∧ allIn lo hi f k = true) (fun i => n - (intOf i).toNat)
  case atStart => exact ⟨0, Nat.zero_le _, rfl, rfl⟩
  case round =>
    obtain ⟨k, hk, rfl, hall⟩ := hrel
    have HA : Hid (allIn lo hi f k = true) := hall
    clear hall
    by_cases hlt : k < n
    · have hck := hc k hlt
      clear hc
      by_cases h1 : f k < lo
      · go_wp2
        go_ret
        exact ⟨ret_bool (allIn_no hlt (by omega)).symm, rfl⟩
      · by_cases h2 : hi < f k
        · go_wp2
          go_ret
          exact ⟨ret_bool (allIn_no hlt (by omega)).symm, rfl⟩
        · go_wp2
          go_round
          case rel => exact ⟨k + 1, by omega, by go_num, by simp [allIn, HA.out]; omega⟩
          case measure => simp [intOf]; omega
    · clear hc
      go_wp2
      go_ret
      obtain rfl : k = n := by omega
      exact ⟨ret_bool HA.out.symm, rfl⟩

def in1 (lo hi x : Int) : Bool := decide (lo ≤ x) && decide (x ≤ hi)
theorem within1 (lo hi x : Int) (w : World) (b : Nat) (hc : w.cell? ⟨b, 0, none⟩ = some (.int .i64 x)) :
    Calls Try.prog 25 #[.int .i64 lo, .int .i64 hi, .slice (some ⟨b, 0, none⟩) 1 1] w fun e w' => e = .returned (.bool (in1 lo hi x)) ∧ w' = w := by
  have h := within_any lo hi b 1 (fun _ => x) (by omega) w (by intro i hi; obtain rfl : i = 0 := by omega
                                                               exact hc)
  simpa [allIn, in1] using h
theorem within2 (lo hi x y : Int) (w : World) (b : Nat) (hc : w.cell? ⟨b, 0, none⟩ = some (.int .i64 x)) (hd : w.cell? ⟨b, 1, none⟩ = some (.int .i64 y)) :
    Calls Try.prog 25 #[.int .i64 lo, .int .i64 hi, .slice (some ⟨b, 0, none⟩) 2 2] w fun e w' => e = .returned (.bool (in1 lo hi x && in1 lo hi y)) ∧ w' = w := by
  have h := within_any lo hi b 2 (fun i => if i = 0 then x else y) (by omega) w (by
    intro i hi
    by_cases e : i = 0
    · subst e; simpa using hc
    · obtain rfl : i = 1 := by omega
      simpa using hd)
  simpa [allIn, in1, Bool.and_assoc] using h
theorem within_new (lo hi x : Int) (w : World) (b : Nat) (hb : b = w.heap.size) :
    Calls Try.prog 25 #[.int .i64 lo, .int .i64 hi, .slice (some ⟨b, 0, none⟩) 1 1] (w.alloc (.cells #[.int .i64 x] 3)) fun e w' => e = .returned (.bool (in1 lo hi x)) ∧ w' = w.alloc (.cells #[.int .i64 x] 3) := by
  subst hb
  exact within1 lo hi x _ _ (by go_simp)
theorem in1_yes {lo hi x : Int} (h1 : lo ≤ x) (h2 : x ≤ hi) : in1 lo hi x = true := by simp [in1, h1, h2]
theorem in1_no {lo hi x : Int} (h : x < lo ∨ hi < x) : in1 lo hi x = false := by simp [in1]; omega

end Go.Proofs.Ytgbehapekfoaiaa
