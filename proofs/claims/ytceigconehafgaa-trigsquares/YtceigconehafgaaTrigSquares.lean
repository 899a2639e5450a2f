/-
  Proved: for parts from -2^59 to 2^59 the squares of cosine and sine make up 2^48 but for 2^25, the opposite's cosine is the same and its sine the opposite, half a turn on both are the opposites, a full turn on the cosine is the same (outside those parts the law answers by the chapter's examples alone). Conditions: none beside the row's own.
-/
import Derived.Test.YtceigconehafgaaRows
import Derived.Test.YtceigconehafgaaE
import Derived.WalkKit
import Derived.ProofKit
import Derived.OpenShut
import Derived.ShutString
import Derived.ChangeOld
import Derived.Below
namespace Go.Proofs.Ytceigconehafgaa.trigSquares
open Go.ChangeShapes Go.WideShapes Go.ChangeAt Go.RowKit
open Go.ChangeMaps (open_string shut_string)
set_option linter.unusedVariables false

theorem own : ownKnob Try.prog.godebug = none := by kernel_rfl
theorem laidOut : laidOutB Try.prog = true := by kernel_rfl

theorem walk (w : World) (a0 : Int) (w0 : (Lit.int .i64 a0).wf = true) :
    Calls Try.prog 4 #[.int .i64 a0] w fun e w' => e = .returned (.bool true) ∧ Below w.heap.size w w' := by
  clear w0
  by_cases h1 : a0 < -576460752303423488
  · go_enter Try.func4, Try.ntmps4
    go_wp2_with (go_at_call 14; refine (awake_any _).mono ?_; rintro e w6 ⟨rfl, hb6⟩)
    go_ret
    exact ⟨rfl, hb6⟩
  by_cases h2 : 576460752303423488 < a0
  · go_enter Try.func4, Try.ntmps4
    go_wp2_with (go_at_call 14; refine (awake_any _).mono ?_; rintro e w6 ⟨rfl, hb6⟩)
    go_ret
    exact ⟨rfl, hb6⟩
  go_enter Try.func4, Try.ntmps4
  go_wp2_with (go_at_call 7; refine (make_any _).mono ?_; rintro e w1 ⟨rfl, ht, hb⟩)
  have HB : Hid (Below w.heap.size w w1) := hb
  have k1 := cos_to ht a0 (cosI a0) (cosF_i (by omega) rfl)
  have k2 := sin_to ht a0 (sinI a0) (sinF_i (by omega) rfl)
  have k3 := cos_to ht (-a0) (cosI a0) (cosF_i (by omega) (cosI_neg a0))
  have k4 := sin_to ht (-a0) (-sinI a0) (sinF_i (by omega) (sinI_neg a0))
  have k5 := cos_to ht (a0 + 256) (-cosI a0) (cosF_i (by omega) (cosI_half a0))
  have k6 := sin_to ht (a0 + 256) (-sinI a0) (sinF_i (by omega) (sinI_half a0))
  have k7 := cos_to ht (a0 + 512) (cosI a0) (cosF_i (by omega) (cosI_full a0))
  have k8 : Hid (∀ W, Below w1.heap.size w1 W → Calls Try.prog 14 #[] W fun e w' => e = .returned (.bool true) ∧ Below w1.heap.size w1 w') :=
    chain (T := fun _ => True) (fun _ _ => trivial) (fun W _ => awake_any W)
  have b0 := Below.refl w1.heap.size w1
  clear ht hb
  obtain ⟨c1, c2⟩ := cosI_bd a0
  obtain ⟨s1, s2⟩ := sinI_bd a0
  have hs := squares a0
  generalize cosI a0 = c at *
  generalize sinI a0 = s at *
  have p1 := mul_bd c1 c2 c1 c2
  have p2 := mul_bd s1 s2 s1 s2
  have q1 : wrap64 (c * c) = c * c := by unfold wrap64; omega
  have q2 : wrap64 (s * s) = s * s := by unfold wrap64; omega
  have q3 : wrap64 (c * c + s * s) = c * c + s * s := by unfold wrap64; omega
  have q4 : wrap64 (c * c + s * s - 281474976710656) = c * c + s * s - 281474976710656 := by unfold wrap64; omega
  obtain ⟨t1, t2⟩ := hs
  have d1 : decide (c * c + s * s - 281474976710656 ≤ 33554432) = true := by simpa using t2
  have d2 : decide (-33554432 ≤ c * c + s * s - 281474976710656) = true := by simpa using t1
  clear p1 p2
  go_wp2_with (first
    | (go_at_call 10; (with_reducible refine (k1.out _ b0).mono ?_); rintro e w2 ⟨rfl, b1⟩)
    | (go_at_call 12; (with_reducible refine (k2.out _ b1).mono ?_); rintro e w3 ⟨rfl, b2⟩)
    | (go_at_call 10; (with_reducible refine (k3.out _ b2).mono ?_); rintro e w4 ⟨rfl, b3⟩)
    | (go_at_call 12; (with_reducible refine (k4.out _ b3).mono ?_); rintro e w5 ⟨rfl, b4⟩)
    | (go_at_call 10; (with_reducible refine (k5.out _ b4).mono ?_); rintro e w6 ⟨rfl, b5⟩)
    | (go_at_call 12; (with_reducible refine (k6.out _ b5).mono ?_); rintro e w7 ⟨rfl, b6⟩)
    | (go_at_call 10; (with_reducible refine (k7.out _ b6).mono ?_); rintro e w8 ⟨rfl, b7⟩)
    | (go_at_call 14; (with_reducible refine (k8.out _ b7).mono ?_); rintro e w9 ⟨rfl, b8⟩))
  go_ret
  exact ⟨rfl, below_then HB.out b8⟩

set_option maxRecDepth 100000 in
theorem lifted (os : Os) (started : os.Started) (H : Type) (enc : TypeId × Value → H) :
    ReturnsInHanded {} Try.checked os 4 .any (Rows.trigSquaresSpec.pre6 enc Try.prog Try.f4 Rows.trigSquaresRow.domain false) (Rows.trigSquaresSpec.post enc Try.prog Try.f4 false true false false) := by
  refine returnsInHanded_of_change (C := Try.checked) own started (by kernel_rfl) Try.func4
    (ChangeSpec.witness6 (enc := enc) (C := Try.checked) false ⟨#[], #[.int .i64 0], []⟩ 8 (by kernel_rfl) (by kernel_rfl) (by kernel_rfl) (by kernel_rfl)) ?_
  intro W base args ds gs before hval0 hW hcnd _
  have hval : ∀ (j : Nat) t v, Try.f4.params[j]? = some t → args[j]? = some v → Value.okWide Try.prog W .any base t v := hval0
  have hW' := hW
  obtain ⟨p, q, hA0, hV, rfl, hfz, hnd⟩ := hW
  have hA : DataW.TrodAll enc Try.prog W 0 (fun _ => true) true Try.f4.params.toList args.toList ds p := hA0
  rw [Try.params4] at hA hval
  obtain ⟨v0, vs0, d0, ds0, p0, q0, hargs, rfl, rfl, h0, r0⟩ := trodAll_cons hA
  obtain ⟨rfl, rfl, rfl⟩ := trodAll_nil r0
  obtain rfl : args = #[v0] := by cases args; simp_all
  obtain ⟨rfl, rfl⟩ := trodVars_none hV
  obtain ⟨a0, rfl, rfl, rfl, w0⟩ := open_int Try.underlying3 (hval 0 3 v0 rfl rfl) h0
  clear hA0 hval0
  refine (walk W a0 w0).mono fun e W' ⟨he, bel⟩ => ?_
  subst he
  exact ⟨_, rfl, _, _, _, [], _, [], hW', trodAll_mk1 (shut_bool Try.underlying4 _), (trodAll_cons_mk (shut_int Try.underlying3 w0) trodAll_mk0), rfl, bel.frame _, fun h => by cases h⟩

theorem over : Rows.trigSquaresRow.holds Try.pinned (OpenSpec.ofChange Rows.trigSquaresSpec) :=
  OpenClaim.holds_of_wide 4 Try.f4 rfl rfl rfl rfl rfl rfl rfl ⟨rfl, rfl, rfl, rfl, rfl⟩ rfl rfl rfl rfl rfl (by kernel_rfl) Try.func4 (by kernel_rfl)
    (of_decide_eq_true (by kernel_rfl)) (by unfold Func.isWrapper; first | (rw [if_pos (by decide +kernel)]; kernel_rfl) | (rw [if_neg (by decide +kernel)]; exact ⟨rfl, rfl⟩))
    (fun os started H enc _ => lifted os started H enc)

/-- The statement. -/
theorem proved : Rows.TrigSquaresSaid := over
#print axioms proved
end Go.Proofs.Ytceigconehafgaa.trigSquares
