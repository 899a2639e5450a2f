/-
  Proved: for numbers from 0 to 2^60 the square of a root is not above its number and that of the next one is, a greater number has no lesser root, what is shifted by its halvings is 1, the nearest root is the root or the next one, and a square's root and nearest root are what was squared (outside those numbers the law answers by the chapter's examples alone). Conditions: none beside the row's own.
-/
import Derived.Test.YtaekcbdofaldhaaRows
import Derived.Test.YtaekcbdofaldhaaB
import Derived.WalkKit
import Derived.ProofKit
import Derived.OpenShut
import Derived.Deep.QuietTactic
import Derived.BigQuiet
namespace Go.Proofs.Ytaekcbdofaldhaa.rootSquares
open Go.ChangeShapes Go.WideShapes Go.ChangeAt Go.RowKit
set_option linter.unusedVariables false

theorem own : ownKnob Try.prog.godebug = none := by kernel_rfl

set_option maxHeartbeats 4000000 in
theorem walk (a0 a1 : Int) (w0 : (Lit.int .i64 a0).wf = true) (w1 : (Lit.int .i64 a1).wf = true) (w : World) :
    Calls Try.prog 4 #[.int .i64 a0, .int .i64 a1] w fun e w' => e = .returned (.bool true) ∧ Grown w w' := by
  clear w0 w1
  by_cases h0 : a0 < 0
  · go_enter Try.func4, Try.ntmps4
    go_wp2_with (go_at_call 11; refine (awake_any _).mono ?_; rintro e w6 ⟨rfl, rfl⟩)
    go_ret
    exact ⟨rfl, Grown.refl _⟩
  by_cases h1 : 1152921504606846976 < a0
  · go_enter Try.func4, Try.ntmps4
    go_wp2_with (go_at_call 11; refine (awake_any _).mono ?_; rintro e w6 ⟨rfl, rfl⟩)
    go_ret
    exact ⟨rfl, Grown.refl _⟩
  by_cases h2 : a1 < 0
  · go_enter Try.func4, Try.ntmps4
    go_wp2_with (go_at_call 11; refine (awake_any _).mono ?_; rintro e w6 ⟨rfl, rfl⟩)
    go_ret
    exact ⟨rfl, Grown.refl _⟩
  by_cases h3 : 1152921504606846976 < a1
  · go_enter Try.func4, Try.ntmps4
    go_wp2_with (go_at_call 11; refine (awake_any _).mono ?_; rintro e w6 ⟨rfl, rfl⟩)
    go_ret
    exact ⟨rfl, Grown.refl _⟩
  have a0' : 0 ≤ a0 := by omega
  have a1' : a0 ≤ 1152921504606846976 := by omega
  have b0' : 0 ≤ a1 := by omega
  have b1' : a1 ≤ 1152921504606846976 := by omega
  clear h0 h1 h2 h3
  obtain ⟨r0, r1, r2, r3⟩ := rootF_facts a0' a1'
  have hm : a0 ≤ a1 → rootF a0 ≤ rootF a1 := fun h => rootF_mono a0' h b1'
  have k1 : Hid (∀ w : World, Calls Try.prog 5 #[.int .i64 a0] w fun e w' => e = .returned (.int .i64 (rootF a0)) ∧ w' = w) := fun w => sqrt_any a0 w
  have k2 : Hid (∀ w : World, Calls Try.prog 5 #[.int .i64 a1] w fun e w' => e = .returned (.int .i64 (rootF a1)) ∧ w' = w) := fun w => sqrt_any a1 w
  have k3 : Hid (∀ w : World, Calls Try.prog 7 #[.int .i64 a0] w fun e w' => e = .returned (.int .i64 (logF a0)) ∧ w' = w) := fun w => log_any a0 (by omega) w
  have k4 : Hid (∀ w : World, Calls Try.prog 9 #[.int .i64 a0] w fun e w' => e = .returned (.int .i64 (nearF a0)) ∧ w' = w) := fun w => near_any a0 w
  have e5 : rootF (rootF a0 * rootF a0) = rootF a0 := rootF_eq r0 (by omega) (by rw [sqi_succ]; omega) (by omega)
  have k5 : Hid (∀ w : World, Calls Try.prog 5 #[.int .i64 (rootF a0 * rootF a0)] w fun e w' => e = .returned (.int .i64 (rootF a0)) ∧ w' = w) := fun w => by
    have h := sqrt_any (rootF a0 * rootF a0) w; rwa [e5] at h
  have k6 : Hid (∀ w : World, Calls Try.prog 9 #[.int .i64 (rootF a0 * rootF a0)] w fun e w' => e = .returned (.int .i64 (rootF a0)) ∧ w' = w) := fun w => by
    have h := near_any (rootF a0 * rootF a0) w
    rwa [nearF_in (Int.mul_nonneg r0 r0) (by omega), e5, if_neg (by omega)] at h
  have n1 : rootF a0 ≤ nearF a0 ∧ nearF a0 ≤ rootF a0 + 1 := by rw [nearF_in a0' a1']; split <;> omega
  have l0 := log_nonneg a0
  have l1 := log_le60 a1'
  have hw : wrap64 (rootF a0 * rootF a0) = rootF a0 * rootF a0 := sq_wrap r0 (by omega)
  have hw2 : wrap64 ((rootF a0 + 1) * (rootF a0 + 1)) = rootF a0 * rootF a0 + 2 * rootF a0 + 1 := (sq_wrap (by omega) (by omega)).trans (sqi_succ _)
  rw [sqi_succ] at r3
  have hs : 0 < a0 → a0 / 2 ^ (logF a0).toNat = 1 := fun h => log_shift h
  clear e5
  generalize rootF a0 = r at *
  generalize rootF a1 = s at *
  generalize logF a0 = l at *
  generalize nearF a0 = m at *
  obtain ⟨n1, n2⟩ := n1
  have hp : 0 ≤ r * r := Int.mul_nonneg r0 r0
  by_cases hab : a0 ≤ a1
  · have hm1 := hm hab
    clear hm
    by_cases hz : 0 < a0
    · have hs1 := hs hz
      clear hs
      go_enter Try.func4, Try.ntmps4
      go_wp2_with (first
        | (go_at_call 5; with_reducible refine (k1.out _).mono ?_; rintro e w6 ⟨rfl, rfl⟩)
        | (go_at_call 5; with_reducible refine (k2.out _).mono ?_; rintro e w6 ⟨rfl, rfl⟩)
        | (go_at_call 5; with_reducible refine (k5.out _).mono ?_; rintro e w6 ⟨rfl, rfl⟩)
        | (go_at_call 7; with_reducible refine (k3.out _).mono ?_; rintro e w6 ⟨rfl, rfl⟩)
        | (go_at_call 9; with_reducible refine (k4.out _).mono ?_; rintro e w6 ⟨rfl, rfl⟩)
        | (go_at_call 9; with_reducible refine (k6.out _).mono ?_; rintro e w6 ⟨rfl, rfl⟩)
        | (go_at_call 11; refine (awake_any _).mono ?_; rintro e w6 ⟨rfl, rfl⟩))
      go_ret
      exact ⟨rfl, Grown.refl _⟩
    · clear hs
      go_enter Try.func4, Try.ntmps4
      go_wp2_with (first
        | (go_at_call 5; with_reducible refine (k1.out _).mono ?_; rintro e w6 ⟨rfl, rfl⟩)
        | (go_at_call 5; with_reducible refine (k2.out _).mono ?_; rintro e w6 ⟨rfl, rfl⟩)
        | (go_at_call 5; with_reducible refine (k5.out _).mono ?_; rintro e w6 ⟨rfl, rfl⟩)
        | (go_at_call 7; with_reducible refine (k3.out _).mono ?_; rintro e w6 ⟨rfl, rfl⟩)
        | (go_at_call 9; with_reducible refine (k4.out _).mono ?_; rintro e w6 ⟨rfl, rfl⟩)
        | (go_at_call 9; with_reducible refine (k6.out _).mono ?_; rintro e w6 ⟨rfl, rfl⟩)
        | (go_at_call 11; refine (awake_any _).mono ?_; rintro e w6 ⟨rfl, rfl⟩))
      go_ret
      exact ⟨rfl, Grown.refl _⟩
  · clear hm
    by_cases hz : 0 < a0
    · have hs1 := hs hz
      clear hs
      go_enter Try.func4, Try.ntmps4
      go_wp2_with (first
        | (go_at_call 5; with_reducible refine (k1.out _).mono ?_; rintro e w6 ⟨rfl, rfl⟩)
        | (go_at_call 5; with_reducible refine (k2.out _).mono ?_; rintro e w6 ⟨rfl, rfl⟩)
        | (go_at_call 5; with_reducible refine (k5.out _).mono ?_; rintro e w6 ⟨rfl, rfl⟩)
        | (go_at_call 7; with_reducible refine (k3.out _).mono ?_; rintro e w6 ⟨rfl, rfl⟩)
        | (go_at_call 9; with_reducible refine (k4.out _).mono ?_; rintro e w6 ⟨rfl, rfl⟩)
        | (go_at_call 9; with_reducible refine (k6.out _).mono ?_; rintro e w6 ⟨rfl, rfl⟩)
        | (go_at_call 11; refine (awake_any _).mono ?_; rintro e w6 ⟨rfl, rfl⟩))
      go_ret
      exact ⟨rfl, Grown.refl _⟩
    · omega

set_option maxRecDepth 100000 in
theorem lifted (os : Os) (started : os.Started) (H : Type) (enc : TypeId × Value → H) :
    ReturnsInHanded {} Try.checked os 4 .any (Rows.rootSquaresSpec.pre6 enc Try.prog Try.f4 Rows.rootSquaresRow.domain false) (Rows.rootSquaresSpec.post enc Try.prog Try.f4 false true false false) := by
  refine returnsInHanded_of_change (C := Try.checked) own started (by kernel_rfl) Try.func4
    (ChangeSpec.witness6 (enc := enc) (C := Try.checked) false ⟨#[], #[.int .i64 0, .int .i64 0], []⟩ 8 (by kernel_rfl) (by kernel_rfl) (by kernel_rfl) (by kernel_rfl)) ?_
  intro W base args ds gs before hval0 hW hcnd _
  have hval : ∀ (j : Nat) t v, Try.f4.params[j]? = some t → args[j]? = some v → Value.okWide Try.prog W .any base t v := hval0
  have hW' := hW
  obtain ⟨p, q, hA0, hV, rfl, hfz, hnd⟩ := hW
  have hA : DataW.TrodAll enc Try.prog W 0 (fun _ => true) true Try.f4.params.toList args.toList ds p := hA0
  rw [Try.params4] at hA hval
  obtain ⟨v0, vs0, d0, ds0, p0, q0, hargs, rfl, rfl, h0, r0⟩ := trodAll_cons hA
  obtain ⟨v1, vs1, d1, ds1, p1, q1, rfl, rfl, rfl, h1, r1⟩ := trodAll_cons r0
  obtain ⟨rfl, rfl, rfl⟩ := trodAll_nil r1
  obtain rfl : args = #[v0, v1] := by cases args; simp_all
  obtain ⟨rfl, rfl⟩ := trodVars_none hV
  obtain ⟨a0, rfl, rfl, rfl, w0⟩ := open_int Try.underlying3 (hval 0 3 v0 rfl rfl) h0
  obtain ⟨a1, rfl, rfl, rfl, w1⟩ := open_int Try.underlying3 (hval 1 3 v1 rfl rfl) h1
  clear hA0 hval0
  simp only [List.append_nil] at hW'
  refine (walk a0 a1 w0 w1 W).mono fun e W' ⟨he, hg⟩ => ?_
  subst he
  exact ⟨_, rfl, post_of_same (pa := []) (pv := []) hW' (fun _ _ _ => (trodAll_cons_mk (shut_bool Try.underlying4 _) trodAll_mk0)) (fun sp _ => (trodAll_cons_mk (shut_int Try.underlying3 w0) (trodAll_cons_mk (shut_int Try.underlying3 w1) trodAll_mk0))) (fun _ _ => rfl) rfl
    (hg.frame _) hg.2.1 (ok_one (by kernel_rfl) rfl (okWide_bool_mk Try.underlying4 _))⟩

theorem over : Rows.rootSquaresRow.holds Try.pinned (OpenSpec.ofChange Rows.rootSquaresSpec) :=
  OpenClaim.holds_of_wide 4 Try.f4 rfl rfl rfl rfl rfl rfl rfl ⟨rfl, rfl, rfl, rfl, rfl⟩ rfl rfl rfl rfl rfl (by kernel_rfl) Try.func4 (by kernel_rfl)
    (of_decide_eq_true (by kernel_rfl)) (by unfold Func.isWrapper; first | (rw [if_pos (by decide +kernel)]; kernel_rfl) | (rw [if_neg (by decide +kernel)]; exact ⟨rfl, rfl⟩))
    (fun os started H enc _ => lifted os started H enc)

/-- The statement. -/
theorem proved : Rows.RootSquaresSaid := over
#print axioms proved
end Go.Proofs.Ytaekcbdofaldhaa.rootSquares
