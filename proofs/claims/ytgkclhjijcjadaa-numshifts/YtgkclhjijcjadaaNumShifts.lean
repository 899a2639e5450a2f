/-
  Proved: what is shifted is divided by that power of two, by 0 it stays, and what is held stays so, for numbers from -2^60 to 2^60 and shifts from 0 to 59 (outside them the law answers true by itself). Conditions: none beside the row's own.
-/
import Derived.Test.YtgkclhjijcjadaaRows
import Derived.Test.YtgkclhjijcjadaaA
import Derived.WalkKit
import Derived.ProofKit
import Derived.OpenShut
import Derived.Deep.QuietTactic
import Derived.BigQuiet
namespace Go.Proofs.Ytgkclhjijcjadaa.numShifts
open Go.ChangeShapes Go.WideShapes Go.ChangeAt Go.RowKit
set_option linter.unusedVariables false      -- a walk need not use every 'w<i>' (that an integer argument fits its kind)


theorem region_grown {P : Program} {id : Nat} {Q : Exit → Act → World → Prop} {a : Act} {w : World} {l : List Oper} (hm : P.follows .mixedOrders = true) (hB : Region.lexB .any l.toArray = true)
    (h : wpQuiet P l.toArray (Grown w) (fun a' => ∀ w', Grown w w' → Q .normal a' w') l a) : (Code.region id l.toArray true).wp P Q a w :=
  wp_region_quiet (C := Grown w) hm hB (Grown.drew (Grown.refl w)) (by simpa using h)
theorem sat_lo (x : Int) : -32768 ≤ satF x := by unfold satF; omega
theorem sat_hi (x : Int) : satF x ≤ 32767 := by unfold satF; omega
theorem sat_again (x : Int) : satF (satF x) = satF x := by unfold satF; omega
theorem abs_neg (x : Int) : absF (-x) = absF x := by unfold absF; split <;> split <;> omega
theorem abs_nonneg (x : Int) : 0 ≤ absF x := by unfold absF; split <;> omega
theorem shr_zero (x : Int) (h1 : -1152921504606846976 ≤ x) (h2 : x ≤ 1152921504606846976) : shrF x 0 = x := by
  rw [shrF, if_pos (by omega)]
  show (x + 1 / 2) / 1 = x
  omega
theorem shr_div (x k : Int) (h1 : -1152921504606846976 ≤ x) (h2 : x ≤ 1152921504606846976) (h3 : 0 ≤ k) (h4 : k ≤ 59) : shrF x k = divF x (2 ^ k.toNat) := by
  obtain ⟨p1, p2⟩ := pow_le60 k (by omega)
  rw [shrF, if_pos (by omega), divF, if_pos (by omega)]

theorem own : ownKnob Try.prog.godebug = none := by kernel_rfl

/-! ### STEP 1: THE WALK: the Go text returns true. 'Grown w w'': the world has at most new blocks (Derived/RowKit3.lean). Part the cases AHEAD of 'go_enter' where a test parts the walk; take each callee by a contract of your own. -/
theorem walk (a0 : Int) (a1 : Int) (w0 : (Lit.int .i64 a0).wf = true) (w1 : (Lit.int .u8 a1).wf = true) (w : World) :
    Calls Try.prog 5 #[.int .i64 a0, .int .u8 a1] w fun e w' => e = .returned (.bool true) ∧ Grown w w' := by
  have bn := bounds_u8 w1
  obtain ⟨n1, n2⟩ := bn
  clear w0 w1
  by_cases h0 : a0 < -1152921504606846976
  · go_enter Try.func5, Try.ntmps5
    go_wp2_with (go_at_call 16; refine (awake_any _).mono ?_; rintro e w6 ⟨rfl, hg6⟩)
    go_ret
    exact ⟨rfl, hg6⟩
  by_cases h1 : 1152921504606846976 < a0
  · go_enter Try.func5, Try.ntmps5
    go_wp2_with (go_at_call 16; refine (awake_any _).mono ?_; rintro e w6 ⟨rfl, hg6⟩)
    go_ret
    exact ⟨rfl, hg6⟩
  have k1 : 0 ≤ a1 % 60 := by omega
  have k2 : a1 % 60 < 60 := by omega
  have hs1 := sat_lo a0
  have hs2 := sat_hi a0
  have hs3 := sat_again a0
  have hz := shr_zero a0 (by omega) (by omega)
  have hsd := shr_div a0 (a1 % 60) (by omega) (by omega) k1 (by omega)
  have hn := abs_neg a0
  have hn0 := abs_nonneg a0
  obtain ⟨p1, p2⟩ := pow_le60 (a1 % 60) (by omega)
  go_enter Try.func5, Try.ntmps5
  go_wp2_with (go_at_call 8; refine (sat_any _ _).mono ?_; rintro e w4 ⟨rfl, rfl⟩)
  refine region_grown (by kernel_rfl) (by kernel_rfl) ?_
  repeat (go_big_quiet_step (first
    | (intro hq; rfl)
    | (intro hq; go_at_call 10; exact (shr_any _ _ _).mono fun e w2 ⟨he, hg⟩ => ⟨he, grown_trans hq hg⟩)
    | (intro hq; go_at_call 12; exact (div_any _ _ _).mono fun e w2 ⟨he, hg⟩ => ⟨he, grown_trans hq hg⟩)
    | (intro hq; go_at_call 14; exact (abs_any _ _).mono fun e w2 ⟨he, hg⟩ => ⟨he, grown_trans hq hg⟩)
    | (intro hq; go_at_call 16; exact (awake_any _).mono fun e w2 ⟨he, hg⟩ => ⟨he, grown_trans hq hg⟩)
    | (intro hq; go_at_call 8; exact (sat_any _ _).mono fun e w2 ⟨he, hg⟩ => ⟨he, by rw [hg]; exact hq⟩)))
  refine wpQuiet_nil ?_
  intro w' hq
  go_wp2
  go_ret
  exact ⟨rfl, hq⟩

/-! ### THE ROW's STEP: WRITTEN OUT: LEAVE IT -/
set_option maxRecDepth 100000 in
theorem lifted (os : Os) (started : os.Started) (H : Type) (enc : TypeId × Value → H) :
    ReturnsInHanded {} Try.checked os 5 .any (Rows.numShiftsSpec.pre6 enc Try.prog Try.f5 Rows.numShiftsRow.domain false) (Rows.numShiftsSpec.post enc Try.prog Try.f5 false true false false) := by
  refine returnsInHanded_of_change (C := Try.checked) own started (by kernel_rfl) Try.func5
    (ChangeSpec.witness6 (enc := enc) (C := Try.checked) false ⟨#[], #[.int .i64 0, .int .u8 0], []⟩ 8 (by kernel_rfl) (by kernel_rfl) (by kernel_rfl) (by kernel_rfl)) ?_
  intro W base args ds gs before hval0 hW hcnd _
  have hval : ∀ (j : Nat) t v, Try.f5.params[j]? = some t → args[j]? = some v → Value.okWide Try.prog W .any base t v := hval0
  have hW' := hW
  obtain ⟨p, q, hA0, hV, rfl, hfz, hnd⟩ := hW
  have hA : DataW.TrodAll enc Try.prog W 0 (fun _ => true) true Try.f5.params.toList args.toList ds p := hA0
  rw [Try.params5] at hA hval
  obtain ⟨v0, vs0, d0, ds0, p0, q0, hargs, rfl, rfl, h0, r0⟩ := trodAll_cons hA
  obtain ⟨v1, vs1, d1, ds1, p1, q1, rfl, rfl, rfl, h1, r1⟩ := trodAll_cons r0
  obtain ⟨rfl, rfl, rfl⟩ := trodAll_nil r1
  obtain rfl : args = #[v0, v1] := by cases args; simp_all
  obtain ⟨rfl, rfl⟩ := trodVars_none hV
  obtain ⟨a0, rfl, rfl, rfl, w0⟩ := open_int Try.underlying3 (hval 0 3 v0 rfl rfl) h0
  obtain ⟨a1, rfl, rfl, rfl, w1⟩ := open_int Try.underlying5 (hval 1 5 v1 rfl rfl) h1
  clear hA0 hval0
  simp only [List.append_nil] at hW'
  refine (walk a0 a1 w0 w1 W).mono fun e W' ⟨he, hg⟩ => ?_
  subst he
  exact ⟨_, rfl, post_of_same (pa := []) (pv := []) hW' (fun _ _ _ => (trodAll_cons_mk (shut_bool Try.underlying4 _) trodAll_mk0)) (fun sp _ => (trodAll_cons_mk (shut_int Try.underlying3 w0) (trodAll_cons_mk (shut_int Try.underlying5 w1) trodAll_mk0))) (fun _ _ => rfl) rfl
    (hg.frame _) hg.2.1 (ok_one (by kernel_rfl) rfl (okWide_bool_mk Try.underlying4 _))⟩

theorem over : Rows.numShiftsRow.holds Try.pinned (OpenSpec.ofChange Rows.numShiftsSpec) :=
  OpenClaim.holds_of_wide 5 Try.f5 rfl rfl rfl rfl rfl rfl rfl ⟨rfl, rfl, rfl, rfl, rfl⟩ rfl rfl rfl rfl rfl (by kernel_rfl) Try.func5 (by kernel_rfl)
    (of_decide_eq_true (by kernel_rfl)) (by unfold Func.isWrapper; first | (rw [if_pos (by decide +kernel)]; kernel_rfl) | (rw [if_neg (by decide +kernel)]; exact ⟨rfl, rfl⟩))
    (fun os started H enc _ => lifted os started H enc)

/-- ████ THE STATEMENT ████ -/
theorem proved : Rows.NumShiftsSaid :=
  over
#print axioms proved
end Go.Proofs.Ytgkclhjijcjadaa.numShifts
