/-
  Proved: for any int, package root's root, halvings and nearest root are the document's own answers, and the chapter's examples come out. Conditions: none beside the row's own.
-/
import Derived.Test.YtaekcbdofaldhaaRows
import Derived.Test.YtaekcbdofaldhaaB
import Derived.WalkKit
import Derived.ProofKit
import Derived.OpenShut
import Derived.Deep.QuietTactic
import Derived.BigQuiet
namespace Go.Proofs.Ytaekcbdofaldhaa.rootTells
open Go.ChangeShapes Go.WideShapes Go.ChangeAt Go.RowKit
set_option linter.unusedVariables false

theorem own : ownKnob Try.prog.godebug = none := by kernel_rfl

theorem walk (a0 : Int) (w0 : (Lit.int .i64 a0).wf = true) (w : World) :
    Calls Try.prog 3 #[.int .i64 a0] w fun e w' => e = .returned (.bool true) ∧ Grown w w' := by
  have bn := bounds_i64 w0
  obtain ⟨n1, n2⟩ := bn
  clear w0
  have k1 : Hid (∀ w : World, Calls Try.prog 5 #[.int .i64 a0] w fun e w' => e = .returned (.int .i64 (rootF a0)) ∧ w' = w) := fun w => sqrt_any a0 w
  have k2 : Hid (∀ w : World, Calls Try.prog 6 #[.int .i64 a0] w fun e w' => e = .returned (.int .i64 (rootF a0)) ∧ w' = w) := fun w => sqrtR_any a0 w
  have k3 : Hid (∀ w : World, Calls Try.prog 7 #[.int .i64 a0] w fun e w' => e = .returned (.int .i64 (logF a0)) ∧ w' = w) := fun w => log_any a0 (by omega) w
  have k4 : Hid (∀ w : World, Calls Try.prog 8 #[.int .i64 a0] w fun e w' => e = .returned (.int .i64 (logF a0)) ∧ w' = w) := fun w => logR_any a0 (by omega) w
  have k5 : Hid (∀ w : World, Calls Try.prog 9 #[.int .i64 a0] w fun e w' => e = .returned (.int .i64 (nearF a0)) ∧ w' = w) := fun w => near_any a0 w
  have k6 : Hid (∀ w : World, Calls Try.prog 10 #[.int .i64 a0] w fun e w' => e = .returned (.int .i64 (nearF a0)) ∧ w' = w) := fun w => nearR_any a0 w
  generalize rootF a0 = r at k1 k2
  generalize logF a0 = l at k3 k4
  generalize nearF a0 = m at k5 k6
  go_enter Try.func3, Try.ntmps3
  go_wp2_with (first
    | (go_at_call 5; with_reducible refine (k1.out _).mono ?_; rintro e w6 ⟨rfl, rfl⟩)
    | (go_at_call 6; with_reducible refine (k2.out _).mono ?_; rintro e w6 ⟨rfl, rfl⟩)
    | (go_at_call 7; with_reducible refine (k3.out _).mono ?_; rintro e w6 ⟨rfl, rfl⟩)
    | (go_at_call 8; with_reducible refine (k4.out _).mono ?_; rintro e w6 ⟨rfl, rfl⟩)
    | (go_at_call 9; with_reducible refine (k5.out _).mono ?_; rintro e w6 ⟨rfl, rfl⟩)
    | (go_at_call 10; with_reducible refine (k6.out _).mono ?_; rintro e w6 ⟨rfl, rfl⟩)
    | (go_at_call 11; refine (awake_any _).mono ?_; rintro e w6 ⟨rfl, rfl⟩))
  go_ret
  exact ⟨rfl, Grown.refl _⟩

set_option maxRecDepth 100000 in
theorem lifted (os : Os) (started : os.Started) (H : Type) (enc : TypeId × Value → H) :
    ReturnsInHanded {} Try.checked os 3 .any (Rows.rootTellsSpec.pre6 enc Try.prog Try.f3 Rows.rootTellsRow.domain false) (Rows.rootTellsSpec.post enc Try.prog Try.f3 false true false false) := by
  refine returnsInHanded_of_change (C := Try.checked) own started (by kernel_rfl) Try.func3
    (ChangeSpec.witness6 (enc := enc) (C := Try.checked) false ⟨#[], #[.int .i64 0], []⟩ 8 (by kernel_rfl) (by kernel_rfl) (by kernel_rfl) (by kernel_rfl)) ?_
  intro W base args ds gs before hval0 hW hcnd _
  have hval : ∀ (j : Nat) t v, Try.f3.params[j]? = some t → args[j]? = some v → Value.okWide Try.prog W .any base t v := hval0
  have hW' := hW
  obtain ⟨p, q, hA0, hV, rfl, hfz, hnd⟩ := hW
  have hA : DataW.TrodAll enc Try.prog W 0 (fun _ => true) true Try.f3.params.toList args.toList ds p := hA0
  rw [Try.params3] at hA hval
  obtain ⟨v0, vs0, d0, ds0, p0, q0, hargs, rfl, rfl, h0, r0⟩ := trodAll_cons hA
  obtain ⟨rfl, rfl, rfl⟩ := trodAll_nil r0
  obtain rfl : args = #[v0] := by cases args; simp_all
  obtain ⟨rfl, rfl⟩ := trodVars_none hV
  obtain ⟨a0, rfl, rfl, rfl, w0⟩ := open_int Try.underlying3 (hval 0 3 v0 rfl rfl) h0
  clear hA0 hval0
  simp only [List.append_nil] at hW'
  refine (walk a0 w0 W).mono fun e W' ⟨he, hg⟩ => ?_
  subst he
  exact ⟨_, rfl, post_of_same (pa := []) (pv := []) hW' (fun _ _ _ => (trodAll_cons_mk (shut_bool Try.underlying4 _) trodAll_mk0)) (fun sp _ => (trodAll_cons_mk (shut_int Try.underlying3 w0) trodAll_mk0)) (fun _ _ => rfl) rfl
    (hg.frame _) hg.2.1 (ok_one (by kernel_rfl) rfl (okWide_bool_mk Try.underlying4 _))⟩

theorem over : Rows.rootTellsRow.holds Try.pinned (OpenSpec.ofChange Rows.rootTellsSpec) :=
  OpenClaim.holds_of_wide 3 Try.f3 rfl rfl rfl rfl rfl rfl rfl ⟨rfl, rfl, rfl, rfl, rfl⟩ rfl rfl rfl rfl rfl (by kernel_rfl) Try.func3 (by kernel_rfl)
    (of_decide_eq_true (by kernel_rfl)) (by unfold Func.isWrapper; first | (rw [if_pos (by decide +kernel)]; kernel_rfl) | (rw [if_neg (by decide +kernel)]; exact ⟨rfl, rfl⟩))
    (fun os started H enc _ => lifted os started H enc)

/-- The statement. -/
theorem proved : Rows.RootTellsSaid := over
#print axioms proved
end Go.Proofs.Ytaekcbdofaldhaa.rootTells
