/-
  Proved: what is divided is off by half of the divisor at most, upwards at a half, and what is left and what was divided make the number again, for numbers from -2^60 to 2^60 and divisors from 1 to 2^60 (outside them the law answers true by itself). Conditions: none beside the row's own.
-/
import Derived.Test.YtgkclhjijcjadaaRows
import Derived.Test.YtgkclhjijcjadaaA
import Derived.WalkKit
import Derived.ProofKit
import Derived.OpenShut
import Derived.Deep.RegionWith
namespace Go.Proofs.Ytgkclhjijcjadaa.numNear
open Go.ChangeShapes Go.WideShapes Go.ChangeAt Go.RowKit
set_option linter.unusedVariables false      -- a walk need not use every 'w<i>' (that an integer argument fits its kind)

/-- What is left, and what was divided, make the number again. -/
theorem mod_near (a b : Int) (hb : 1 ≤ b) : modQ a b * b = a - modR a b ∧ 0 ≤ modR a b ∧ modR a b < b := by
  rw [modQ_of hb, modR_of hb]
  have e3 := Int.mul_ediv_add_emod a b
  have e4 := Int.emod_nonneg a (show b ≠ 0 by omega)
  have e5 := Int.emod_lt_of_pos a (show 0 < b by omega)
  exact ⟨by rw [Int.mul_comm]; omega, e4, e5⟩
/-- What is divided is off by half of the divisor at most. -/
theorem div_near (a b : Int) (h1 : -1152921504606846976 ≤ a) (h2 : a ≤ 1152921504606846976) (h3 : 1 ≤ b) (h4 : b ≤ 1152921504606846976) :
    ∃ off : Int, divF a b * b = a + off ∧ 2 * off ≤ b ∧ -2 * off < b := by
  rw [divF, if_pos ⟨h1, h2, h3, h4⟩]
  have e3 := Int.mul_ediv_add_emod (a + b / 2) b
  have e4 := Int.emod_nonneg (a + b / 2) (show b ≠ 0 by omega)
  have e5 := Int.emod_lt_of_pos (a + b / 2) (show 0 < b by omega)
  rw [Int.mul_comm] at e3
  exact ⟨b / 2 - (a + b / 2) % b, by omega, by omega, by omega⟩

theorem own : ownKnob Try.prog.godebug = none := by kernel_rfl

/-! ### STEP 1: THE WALK: the Go text returns true. 'Grown w w'': the world has at most new blocks (Derived/RowKit3.lean). Part the cases AHEAD of 'go_enter' where a test parts the walk; take each callee by a contract of your own. -/
theorem walk (a0 : Int) (a1 : Int) (w0 : (Lit.int .i64 a0).wf = true) (w1 : (Lit.int .i64 a1).wf = true) (w : World) :
    Calls Try.prog 4 #[.int .i64 a0, .int .i64 a1] w fun e w' => e = .returned (.bool true) ∧ Grown w w' := by
  clear w0 w1
  by_cases h0 : a0 < -1152921504606846976
  · go_enter Try.func4, Try.ntmps4
    go_wp2_with (go_at_call 16; refine (awake_any _).mono ?_; rintro e w6 ⟨rfl, hg6⟩)
    go_ret
    exact ⟨rfl, hg6⟩
  by_cases h1 : 1152921504606846976 < a0
  · go_enter Try.func4, Try.ntmps4
    go_wp2_with (go_at_call 16; refine (awake_any _).mono ?_; rintro e w6 ⟨rfl, hg6⟩)
    go_ret
    exact ⟨rfl, hg6⟩
  by_cases h2 : a1 < 1
  · go_enter Try.func4, Try.ntmps4
    go_wp2_with (go_at_call 16; refine (awake_any _).mono ?_; rintro e w6 ⟨rfl, hg6⟩)
    go_ret
    exact ⟨rfl, hg6⟩
  by_cases h3 : 1152921504606846976 < a1
  · go_enter Try.func4, Try.ntmps4
    go_wp2_with (go_at_call 16; refine (awake_any _).mono ?_; rintro e w6 ⟨rfl, hg6⟩)
    go_ret
    exact ⟨rfl, hg6⟩
  obtain ⟨hm, hr1, hr2⟩ := mod_near a0 a1 (by omega)
  obtain ⟨off, hd, ho1, ho2⟩ := div_near a0 a1 (by omega) (by omega) (by omega) (by omega)
  go_enter Try.func4, Try.ntmps4
  go_wp2_with (first
    | (go_at_call 6; refine (mod_any _ _ (by omega) (by omega) _).mono ?_; rintro e w1 ⟨rfl, hg1⟩)
    | (go_at_call 7; refine (modr_any _ _ (by omega) (by omega) _).mono ?_; rintro e w1 ⟨rfl, hg1⟩)
    | (go_at_call 10; refine (shr_any _ _ _).mono ?_; rintro e w2 ⟨rfl, hg2⟩)
    | (go_at_call 11; refine (shrR_any _ _ _).mono ?_; rintro e w2 ⟨rfl, hg2⟩)
    | (go_at_call 12; refine (div_any _ _ _).mono ?_; rintro e w3 ⟨rfl, hg3⟩)
    | (go_at_call 13; refine (divR_any _ _ _).mono ?_; rintro e w3 ⟨rfl, hg3⟩)
    | (go_at_call 8; refine (sat_any _ _).mono ?_; rintro e w4 ⟨rfl, rfl⟩)
    | (go_at_call 9; refine (satR_any _ _).mono ?_; rintro e w4 ⟨rfl, rfl⟩)
    | (go_at_call 16; refine (awake_any _).mono ?_; rintro e w6 ⟨rfl, hg6⟩)
    | (go_at_call 14; refine (abs_any _ _).mono ?_; rintro e w5 ⟨rfl, hg5⟩)
    | (go_at_call 15; refine (absR_any _ _).mono ?_; rintro e w5 ⟨rfl, rfl⟩))
  go_ret
  exact ⟨rfl, by repeat (first | assumption | refine grown_trans ?_ (by assumption))⟩

/-! ### THE ROW's STEP: WRITTEN OUT: LEAVE IT -/
set_option maxRecDepth 100000 in
theorem lifted (os : Os) (started : os.Started) (H : Type) (enc : TypeId × Value → H) :
    ReturnsInHanded {} Try.checked os 4 .any (Rows.numNearSpec.pre6 enc Try.prog Try.f4 Rows.numNearRow.domain false) (Rows.numNearSpec.post enc Try.prog Try.f4 false true false false) := by
  refine returnsInHanded_of_change (C := Try.checked) own started (by kernel_rfl) Try.func4
    (ChangeSpec.witness6 (enc := enc) (C := Try.checked) false ⟨#[], #[.int .i64 0, .int .i64 0], []⟩ 8 (by kernel_rfl) (by kernel_rfl) (by kernel_rfl) (by kernel_rfl)) ?_
  intro W base args ds gs before hval0 hW hcnd _
  have hval : ∀ (j : Nat) t v, Try.f4.params[j]? = some t → args[j]? = some v → Value.okWide Try.prog W .any base t v := hval0
  have hW' := hW
  obtain ⟨p, q, hA0, hV, rfl, hfz, hnd⟩ := hW
  have hA : DataW.TrodAll enc Try.prog W 0 (fun _ => true) true Try.f4.params.toList args.toList ds p := hA0
  rw [Try.params4] at hA hval
  obtain ⟨v0, vs0, d0, ds0, p0, q0, hargs, rfl, rfl, h0, r0⟩ := trodAll_cons hA
  obtain ⟨v1, vs1, d1, ds1, p1, q1, rfl, rfl, rfl, h1, r1⟩ := trodAll_cons r0
  obtain ⟨rfl, rfl, rfl⟩ := trodAll_nil r1
  obtain rfl : args = #[v0, v1] := by cases args; simp_all
  obtain ⟨rfl, rfl⟩ := trodVars_none hV
  obtain ⟨a0, rfl, rfl, rfl, w0⟩ := open_int Try.underlying3 (hval 0 3 v0 rfl rfl) h0
  obtain ⟨a1, rfl, rfl, rfl, w1⟩ := open_int Try.underlying3 (hval 1 3 v1 rfl rfl) h1
  clear hA0 hval0
  simp only [List.append_nil] at hW'
  refine (walk a0 a1 w0 w1 W).mono fun e W' ⟨he, hg⟩ => ?_
  subst he
  exact ⟨_, rfl, post_of_same (pa := []) (pv := []) hW' (fun _ _ _ => (trodAll_cons_mk (shut_bool Try.underlying4 _) trodAll_mk0)) (fun sp _ => (trodAll_cons_mk (shut_int Try.underlying3 w0) (trodAll_cons_mk (shut_int Try.underlying3 w1) trodAll_mk0))) (fun _ _ => rfl) rfl
    (hg.frame _) hg.2.1 (ok_one (by kernel_rfl) rfl (okWide_bool_mk Try.underlying4 _))⟩

theorem over : Rows.numNearRow.holds Try.pinned (OpenSpec.ofChange Rows.numNearSpec) :=
  OpenClaim.holds_of_wide 4 Try.f4 rfl rfl rfl rfl rfl rfl rfl ⟨rfl, rfl, rfl, rfl, rfl⟩ rfl rfl rfl rfl rfl (by kernel_rfl) Try.func4 (by kernel_rfl)
    (of_decide_eq_true (by kernel_rfl)) (by unfold Func.isWrapper; first | (rw [if_pos (by decide +kernel)]; kernel_rfl) | (rw [if_neg (by decide +kernel)]; exact ⟨rfl, rfl⟩))
    (fun os started H enc _ => lifted os started H enc)

/-- ████ THE STATEMENT ████ -/
theorem proved : Rows.NumNearSaid :=
  over
#print axioms proved
end Go.Proofs.Ytgkclhjijcjadaa.numNear
