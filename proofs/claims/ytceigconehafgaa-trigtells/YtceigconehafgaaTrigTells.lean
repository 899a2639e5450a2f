/-
  Proved: for any three ints, the cosine and the sine of any parts, and any number of two parts turned, are the document's own answers, and the chapter's examples come out. Conditions: none beside the row's own.
-/
import Derived.Test.YtceigconehafgaaRows
import Derived.Test.YtceigconehafgaaD
import Derived.Test.YtceigconehafgaaE
import Derived.WalkKit
import Derived.ProofKit
import Derived.OpenShut
import Derived.ShutString
import Derived.ChangeOld
import Derived.Below
namespace Go.Proofs.Ytceigconehafgaa.trigTells
open Go.ChangeShapes Go.WideShapes Go.ChangeAt Go.RowKit
open Go.ChangeMaps (open_string shut_string)
set_option linter.unusedVariables false

theorem own : ownKnob Try.prog.godebug = none := by kernel_rfl
theorem laidOut : laidOutB Try.prog = true := by kernel_rfl

theorem walk (w : World) (a0 : Int) (w0 : (Lit.int .i64 a0).wf = true) (a1 : Int) (w1 : (Lit.int .i64 a1).wf = true) (a2 : Int) (w2 : (Lit.int .i64 a2).wf = true) :
    Calls Try.prog 3 #[.int .i64 a0, .int .i64 a1, .int .i64 a2] w fun e w' => e = .returned (.bool true) ∧ Below w.heap.size w w' := by
  clear w0 w1 w2
  go_enter Try.func3, Try.ntmps3
  go_wp2_with (go_at_call 7; refine (make_any _).mono ?_; rintro e w1 ⟨rfl, ht, hb⟩)
  have HB : Hid (Below w.heap.size w w1) := hb
  have k1 := turn_to ht a1 a2 a0 _ _ rfl rfl
  have k2 : Hid (∀ W, Below w1.heap.size w1 W → Calls Try.prog 9 #[.int .i64 a1, .int .i64 a2, .int .i64 a0] W fun e w' => e = .returned (.tuple #[.int .i64 (turnReF a1 a2 a0), .int .i64 (turnImF a1 a2 a0)]) ∧ Below w1.heap.size w1 w') :=
    chain (T := fun _ => True) (fun _ _ => trivial) (fun W _ => rturn_any a1 a2 a0 W)
  have k3 := cos_to ht a0 _ rfl
  have k4 : Hid (∀ W, Below w1.heap.size w1 W → Calls Try.prog 11 #[.int .i64 a0] W fun e w' => e = .returned (.int .i64 (cosF a0)) ∧ Below w1.heap.size w1 w') :=
    chain (T := fun _ => True) (fun _ _ => trivial) (fun W _ => rcos_any a0 W)
  have k5 := sin_to ht a0 _ rfl
  have k6 : Hid (∀ W, Below w1.heap.size w1 W → Calls Try.prog 13 #[.int .i64 a0] W fun e w' => e = .returned (.int .i64 (sinF a0)) ∧ Below w1.heap.size w1 w') :=
    chain (T := fun _ => True) (fun _ _ => trivial) (fun W _ => rsin_any a0 W)
  have k7 : Hid (∀ W, Below w1.heap.size w1 W → Calls Try.prog 14 #[] W fun e w' => e = .returned (.bool true) ∧ Below w1.heap.size w1 w') :=
    chain (T := fun _ => True) (fun _ _ => trivial) (fun W _ => awake_any W)
  have b0 := Below.refl w1.heap.size w1
  clear ht hb
  generalize turnReF a1 a2 a0 = x at *
  generalize turnImF a1 a2 a0 = y at *
  generalize cosF a0 = c at *
  generalize sinF a0 = s at *
  go_wp2_with (first
    | (go_at_call 8; (with_reducible refine (k1.out _ b0).mono ?_); rintro e w2 ⟨rfl, b1⟩)
    | (go_at_call 9; (with_reducible refine (k2.out _ b1).mono ?_); rintro e w3 ⟨rfl, b2⟩)
    | (go_at_call 10; (with_reducible refine (k3.out _ b2).mono ?_); rintro e w4 ⟨rfl, b3⟩)
    | (go_at_call 11; (with_reducible refine (k4.out _ b3).mono ?_); rintro e w5 ⟨rfl, b4⟩)
    | (go_at_call 12; (with_reducible refine (k5.out _ b4).mono ?_); rintro e w6 ⟨rfl, b5⟩)
    | (go_at_call 13; (with_reducible refine (k6.out _ b5).mono ?_); rintro e w7 ⟨rfl, b6⟩)
    | (go_at_call 14; (with_reducible refine (k7.out _ b6).mono ?_); rintro e w8 ⟨rfl, b7⟩))
  go_ret
  exact ⟨rfl, below_then HB.out b7⟩

set_option maxRecDepth 100000 in
theorem lifted (os : Os) (started : os.Started) (H : Type) (enc : TypeId × Value → H) :
    ReturnsInHanded {} Try.checked os 3 .any (Rows.trigTellsSpec.pre6 enc Try.prog Try.f3 Rows.trigTellsRow.domain false) (Rows.trigTellsSpec.post enc Try.prog Try.f3 false true false false) := by
  refine returnsInHanded_of_change (C := Try.checked) own started (by kernel_rfl) Try.func3
    (ChangeSpec.witness6 (enc := enc) (C := Try.checked) false ⟨#[], #[.int .i64 0, .int .i64 0, .int .i64 0], []⟩ 8 (by kernel_rfl) (by kernel_rfl) (by kernel_rfl) (by kernel_rfl)) ?_
  intro W base args ds gs before hval0 hW hcnd _
  have hval : ∀ (j : Nat) t v, Try.f3.params[j]? = some t → args[j]? = some v → Value.okWide Try.prog W .any base t v := hval0
  have hW' := hW
  obtain ⟨p, q, hA0, hV, rfl, hfz, hnd⟩ := hW
  have hA : DataW.TrodAll enc Try.prog W 0 (fun _ => true) true Try.f3.params.toList args.toList ds p := hA0
  rw [Try.params3] at hA hval
  obtain ⟨v0, vs0, d0, ds0, p0, q0, hargs, rfl, rfl, h0, r0⟩ := trodAll_cons hA
  obtain ⟨v1, vs1, d1, ds1, p1, q1, rfl, rfl, rfl, h1, r1⟩ := trodAll_cons r0
  obtain ⟨v2, vs2, d2, ds2, p2, q2, rfl, rfl, rfl, h2, r2⟩ := trodAll_cons r1
  obtain ⟨rfl, rfl, rfl⟩ := trodAll_nil r2
  obtain rfl : args = #[v0, v1, v2] := by cases args; simp_all
  obtain ⟨rfl, rfl⟩ := trodVars_none hV
  obtain ⟨a0, rfl, rfl, rfl, w0⟩ := open_int Try.underlying3 (hval 0 3 v0 rfl rfl) h0
  obtain ⟨a1, rfl, rfl, rfl, w1⟩ := open_int Try.underlying3 (hval 1 3 v1 rfl rfl) h1
  obtain ⟨a2, rfl, rfl, rfl, w2⟩ := open_int Try.underlying3 (hval 2 3 v2 rfl rfl) h2
  clear hA0 hval0
  refine (walk W a0 w0 a1 w1 a2 w2).mono fun e W' ⟨he, bel⟩ => ?_
  subst he
  exact ⟨_, rfl, _, _, _, [], _, [], hW', trodAll_mk1 (shut_bool Try.underlying4 _), (trodAll_cons_mk (shut_int Try.underlying3 w0) (trodAll_cons_mk (shut_int Try.underlying3 w1) (trodAll_cons_mk (shut_int Try.underlying3 w2) trodAll_mk0))), rfl, bel.frame _, fun h => by cases h⟩

theorem over : Rows.trigTellsRow.holds Try.pinned (OpenSpec.ofChange Rows.trigTellsSpec) :=
  OpenClaim.holds_of_wide 3 Try.f3 rfl rfl rfl rfl rfl rfl rfl ⟨rfl, rfl, rfl, rfl, rfl⟩ rfl rfl rfl rfl rfl (by kernel_rfl) Try.func3 (by kernel_rfl)
    (of_decide_eq_true (by kernel_rfl)) (by unfold Func.isWrapper; first | (rw [if_pos (by decide +kernel)]; kernel_rfl) | (rw [if_neg (by decide +kernel)]; exact ⟨rfl, rfl⟩))
    (fun os started H enc _ => lifted os started H enc)

/-- The statement. -/
theorem proved : Rows.TrigTellsSaid := over
#print axioms proved
end Go.Proofs.Ytceigconehafgaa.trigTells
