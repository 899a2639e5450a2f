/-
  num.Div.
-/
import Derived.Test.YtlfhjcalkokhiaaDoorNW
import Derived.Test.YtlfhjcalkokhiaaDoorNMod
import Derived.WalkKit
import Derived.ProofKit
import Derived.OpenShut
import Derived.Deep.QuietTactic
import Derived.BigQuiet
import Derived.Below
namespace Go.Proofs.YtlfhjcalkokhiaaDoor
open Go.ChangeShapes Go.WideShapes Go.ChangeAt Go.RowKit
set_option linter.unusedVariables false

theorem div_any (a b : Int) (w : World) :
    Calls Tryd.prog 22 #[.int .i64 a, .int .i64 b] w fun e w' => e = .returned (.int .i64 (divF a b)) ∧ Below w.heap.size w w' := by
  by_cases hb : b < 1
  · go_enter Tryd.func22, Tryd.ntmps22
    go_wp2
    go_ret
    exact ⟨ret_int (by rw [divF, if_neg (by omega)]), Below.refl _ _⟩
  · by_cases h : -1152921504606846976 ≤ a ∧ a ≤ 1152921504606846976 ∧ b ≤ 1152921504606846976
    · obtain ⟨h1, h2, h3⟩ := h
      have ha := in1_yes h1 h2
      have hc := in1_yes (lo := -1152921504606846976) (show -1152921504606846976 ≤ b by omega) h3
      go_enter Tryd.func22, Tryd.ntmps22
      go_wp2_with (first
        | (go_at_call 38; refine (within2 _ _ a b _ _ (by go_simp) (by go_simp)).mono ?_; rintro e w' ⟨rfl, rfl⟩)
        | (go_at_call 39; refine (mod_any (a + b / 2) b (by omega) (by omega) _).mono ?_; rintro e w' ⟨rfl, hg⟩))
      go_ret
      exact ⟨ret_int (by rw [modQ_of hb, divF, if_pos ⟨h1, h2, hb, h3⟩]), below_then ((Below.refl _ _).alloc (Nat.le_refl _) _) hg⟩
    · have ha : (in1 (-1152921504606846976) 1152921504606846976 a && in1 (-1152921504606846976) 1152921504606846976 b) = false := by
        simp [in1]; omega
      go_enter Tryd.func22, Tryd.ntmps22
      go_wp2_with (first
        | (go_at_call 38; refine (within2 _ _ a b _ _ (by go_simp) (by go_simp)).mono ?_; rintro e w' ⟨rfl, rfl⟩))
      go_ret
      exact ⟨ret_int (by rw [divF, if_neg (by omega)]), (Below.refl _ _).alloc (Nat.le_refl _) _⟩

end Go.Proofs.YtlfhjcalkokhiaaDoor
