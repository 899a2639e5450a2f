/-
  Proved: for numbers and parts from -2^30 to 2^30, what is turned a quarter four times is as it was, turned by none it stays, turned there and back again it is off by a 2^20th of both numbers' sizes and two at most (outside those the law answers by the chapter's examples alone). Conditions: none beside the row's own.
-/
import Derived.Test.YtceigconehafgaaRows
import Derived.Test.YtceigconehafgaaE
import Derived.WalkKit
import Derived.ProofKit
import Derived.OpenShut
import Derived.ShutString
import Derived.ChangeOld
import Derived.Below
namespace Go.Proofs.Ytceigconehafgaa.trigQuarter
open Go.ChangeShapes Go.WideShapes Go.ChangeAt Go.RowKit
open Go.ChangeMaps (open_string shut_string)
set_option linter.unusedVariables false

theorem own : ownKnob Try.prog.godebug = none := by kernel_rfl
theorem laidOut : laidOutB Try.prog = true := by kernel_rfl

def qa (re im : Int) : Nat → Int
  | 0 => re
  | 1 => im
  | 2 => -re
  | 3 => -im
  | _ => re
def qb (re im : Int) : Nat → Int
  | 0 => im
  | 1 => -re
  | 2 => -im
  | 3 => re
  | _ => im
theorem q_next (re im : Int) {k : Nat} (h : k < 4) : qa re im (k + 1) = qb re im k ∧ qb re im (k + 1) = -(qa re im k) := by
  match k, h with
  | 0, _ => exact ⟨rfl, rfl⟩
  | 1, _ => exact ⟨rfl, rfl⟩
  | 2, _ => exact ⟨rfl, (Int.neg_neg _).symm⟩
  | 3, _ => exact ⟨rfl, (Int.neg_neg _).symm⟩
theorem q_bd (re im : Int) {B : Int} (hr : -B ≤ re ∧ re ≤ B) (hi : -B ≤ im ∧ im ≤ B) (k : Nat) : (-B ≤ qa re im k ∧ qa re im k ≤ B) ∧ (-B ≤ qb re im k ∧ qb re im k ≤ B) := by
  match k with
  | 0 => exact ⟨hr, hi⟩
  | 1 => exact ⟨hi, by show -B ≤ -re ∧ -re ≤ B; omega⟩
  | 2 => exact ⟨by show -B ≤ -re ∧ -re ≤ B; omega, by show -B ≤ -im ∧ -im ≤ B; omega⟩
  | 3 => exact ⟨by show -B ≤ -im ∧ -im ≤ B; omega, hr⟩
  | n + 4 => exact ⟨hr, hi⟩
theorem walk (w : World) (a0 : Int) (w0 : (Lit.int .i64 a0).wf = true) (a1 : Int) (w1 : (Lit.int .i64 a1).wf = true) (a2 : Int) (w2 : (Lit.int .i64 a2).wf = true) :
    Calls Try.prog 5 #[.int .i64 a0, .int .i64 a1, .int .i64 a2] w fun e w' => e = .returned (.bool true) ∧ Below w.heap.size w w' := by
  clear w0 w1 w2
  by_cases h1 : a0 < -1073741824
  · go_enter Try.func5, Try.ntmps5
    go_wp2_with (go_at_call 14; refine (awake_any _).mono ?_; rintro e w6 ⟨rfl, hb6⟩)
    go_ret
    exact ⟨rfl, hb6⟩
  by_cases h2 : 1073741824 < a0
  · go_enter Try.func5, Try.ntmps5
    go_wp2_with (go_at_call 14; refine (awake_any _).mono ?_; rintro e w6 ⟨rfl, hb6⟩)
    go_ret
    exact ⟨rfl, hb6⟩
  by_cases h3 : a1 < -1073741824
  · go_enter Try.func5, Try.ntmps5
    go_wp2_with (go_at_call 14; refine (awake_any _).mono ?_; rintro e w6 ⟨rfl, hb6⟩)
    go_ret
    exact ⟨rfl, hb6⟩
  by_cases h4 : 1073741824 < a1
  · go_enter Try.func5, Try.ntmps5
    go_wp2_with (go_at_call 14; refine (awake_any _).mono ?_; rintro e w6 ⟨rfl, hb6⟩)
    go_ret
    exact ⟨rfl, hb6⟩
  by_cases h5 : a2 < -1073741824
  · go_enter Try.func5, Try.ntmps5
    go_wp2_with (go_at_call 14; refine (awake_any _).mono ?_; rintro e w6 ⟨rfl, hb6⟩)
    go_ret
    exact ⟨rfl, hb6⟩
  by_cases h6 : 1073741824 < a2
  · go_enter Try.func5, Try.ntmps5
    go_wp2_with (go_at_call 14; refine (awake_any _).mono ?_; rintro e w6 ⟨rfl, hb6⟩)
    go_ret
    exact ⟨rfl, hb6⟩
  have r1 : -1073741824 ≤ a0 ∧ a0 ≤ 1073741824 := by omega
  have r2 : -1073741824 ≤ a1 ∧ a1 ≤ 1073741824 := by omega
  have xb := turnRe_bd (k := a2) r1.1 r1.2 r2.1 r2.2
  have yb := turnIm_bd (k := a2) r1.1 r1.2 r2.1 r2.2
  obtain ⟨X, hX, HX1⟩ : ∃ X : Int, max a0 (-a0) = X ∧ -X ≤ a0 ∧ a0 ≤ X ∧ 0 ≤ X ∧ X ≤ 1073741824 := ⟨max a0 (-a0), rfl, by omega⟩
  obtain ⟨Y, hY, HY1⟩ : ∃ Y : Int, max a1 (-a1) = Y ∧ -Y ≤ a1 ∧ a1 ≤ Y ∧ 0 ≤ Y ∧ Y ≤ 1073741824 := ⟨max a1 (-a1), rfl, by omega⟩
  have z1 := back_re a0 a1 a2 HX1.1 HX1.2.1 HY1.2.2.1
  have z2 := back_im a0 a1 a2 HY1.1 HY1.2.1 HX1.2.2.1
  go_enter Try.func5, Try.ntmps5
  go_wp2_with (go_at_call 7; refine (make_any _).mono ?_; rintro e w1 ⟨rfl, ht, hb⟩)
  have HB : Hid (Below w.heap.size w w1) := hb
  have HQ : Hid (∀ j : Nat, j < 4 → ∀ W, Below w1.heap.size w1 W → Calls Try.prog 8 #[.pointer (some ⟨w.heap.size, 0, none⟩), .int .i64 (qa a0 a1 j), .int .i64 (qb a0 a1 j), .int .i64 128] W fun e w' => e = .returned (.tuple #[.int .i64 (qa a0 a1 (j + 1)), .int .i64 (qb a0 a1 (j + 1))]) ∧ Below w1.heap.size w1 w') := by
    intro j hj
    have hbd := q_bd a0 a1 r1 r2 j
    have hok : okTurn (qa a0 a1 j) (qb a0 a1 j) 128 := by unfold okTurn; omega
    exact turn_to ht _ _ 128 _ _ (turnReF_i hok ((turn128_re _ _).trans (q_next a0 a1 hj).1.symm)) (turnImF_i hok ((turn128_im _ _).trans (q_next a0 a1 hj).2.symm))
  have k2 := turn_to ht a0 a1 0 a0 a1 (turnReF_i (by unfold okTurn; omega) (turn0_re _ _)) (turnImF_i (by unfold okTurn; omega) (turn0_im _ _))
  have k3 := turn_to ht a0 a1 a2 (turnRe a0 a1 a2) (turnIm a0 a1 a2) (turnReF_i (by unfold okTurn; omega) rfl) (turnImF_i (by unfold okTurn; omega) rfl)
  have k4 := turn_to ht (turnRe a0 a1 a2) (turnIm a0 a1 a2) (-a2) _ _ (turnReF_i (by unfold okTurn; omega) rfl) (turnImF_i (by unfold okTurn; omega) rfl)
  have k5 : Hid (∀ W, Below w1.heap.size w1 W → Calls Try.prog 14 #[] W fun e w' => e = .returned (.bool true) ∧ Below w1.heap.size w1 w') :=
    chain (T := fun _ => True) (fun _ _ => trivial) (fun W _ => awake_any W)
  clear ht hb
  generalize turnRe (turnRe a0 a1 a2) (turnIm a0 a1 a2) (-a2) = p at *
  generalize turnIm (turnRe a0 a1 a2) (turnIm a0 a1 a2) (-a2) = q at *
  generalize turnRe a0 a1 a2 = x at *
  generalize turnIm a0 a1 a2 = y at *
  go_loopw [8, 9, 10] (fun a b i wr => ∃ j : Nat, j ≤ 4 ∧ i = .int .i64 j ∧ a = .int .i64 (qa a0 a1 j) ∧ b = .int .i64 (qb a0 a1 j) ∧ Below w1.heap.size w1 wr) (fun _ _ i _ => 4 - (intOf i).toNat)
  case atStart => exact ⟨0, by omega, rfl, rfl, rfl, Below.refl _ _⟩
  case round =>
    obtain ⟨j, hj, rfl, rfl, rfl, b0⟩ := hrel
    by_cases hlt : j < 4
    · have K := (show Hid _ from HQ.out j hlt)
      go_wp2_with (go_at_call 8; (with_reducible refine (K.out _ b0).mono ?_); rintro e w2 ⟨rfl, b1⟩)
      refine ⟨⟨j + 1, by omega, by go_num, rfl, rfl, b1⟩, by simp [intOf]; omega⟩
    · obtain rfl : j = 4 := by omega
      have e1 : qa a0 a1 4 = a0 := rfl
      have e2 : qb a0 a1 4 = a1 := rfl
      rw [e1, e2]
      clear e1 e2 HQ
      go_wp2_with (first
        | (go_at_call 8; (with_reducible refine (k2.out _ b0).mono ?_); rintro e w3 ⟨rfl, b2⟩)
        | (go_at_call 8; (with_reducible refine (k3.out _ b2).mono ?_); rintro e w4 ⟨rfl, b3⟩)
        | (go_at_call 8; (with_reducible refine (k4.out _ b3).mono ?_); rintro e w5 ⟨rfl, b4⟩)
        | (go_at_call 14; (with_reducible refine (k5.out _ b4).mono ?_); rintro e w6 ⟨rfl, b5⟩))
      all_goals (go_ret; exact ⟨rfl, below_then HB.out b5⟩)

set_option maxRecDepth 100000 in
theorem lifted (os : Os) (started : os.Started) (H : Type) (enc : TypeId × Value → H) :
    ReturnsInHanded {} Try.checked os 5 .any (Rows.trigQuarterSpec.pre6 enc Try.prog Try.f5 Rows.trigQuarterRow.domain false) (Rows.trigQuarterSpec.post enc Try.prog Try.f5 false true false false) := by
  refine returnsInHanded_of_change (C := Try.checked) own started (by kernel_rfl) Try.func5
    (ChangeSpec.witness6 (enc := enc) (C := Try.checked) false ⟨#[], #[.int .i64 0, .int .i64 0, .int .i64 0], []⟩ 8 (by kernel_rfl) (by kernel_rfl) (by kernel_rfl) (by kernel_rfl)) ?_
  intro W base args ds gs before hval0 hW hcnd _
  have hval : ∀ (j : Nat) t v, Try.f5.params[j]? = some t → args[j]? = some v → Value.okWide Try.prog W .any base t v := hval0
  have hW' := hW
  obtain ⟨p, q, hA0, hV, rfl, hfz, hnd⟩ := hW
  have hA : DataW.TrodAll enc Try.prog W 0 (fun _ => true) true Try.f5.params.toList args.toList ds p := hA0
  rw [Try.params5] at hA hval
  obtain ⟨v0, vs0, d0, ds0, p0, q0, hargs, rfl, rfl, h0, r0⟩ := trodAll_cons hA
  obtain ⟨v1, vs1, d1, ds1, p1, q1, rfl, rfl, rfl, h1, r1⟩ := trodAll_cons r0
  obtain ⟨v2, vs2, d2, ds2, p2, q2, rfl, rfl, rfl, h2, r2⟩ := trodAll_cons r1
  obtain ⟨rfl, rfl, rfl⟩ := trodAll_nil r2
  obtain rfl : args = #[v0, v1, v2] := by cases args; simp_all
  obtain ⟨rfl, rfl⟩ := trodVars_none hV
  obtain ⟨a0, rfl, rfl, rfl, w0⟩ := open_int Try.underlying3 (hval 0 3 v0 rfl rfl) h0
  obtain ⟨a1, rfl, rfl, rfl, w1⟩ := open_int Try.underlying3 (hval 1 3 v1 rfl rfl) h1
  obtain ⟨a2, rfl, rfl, rfl, w2⟩ := open_int Try.underlying3 (hval 2 3 v2 rfl rfl) h2
  clear hA0 hval0
  refine (walk W a0 w0 a1 w1 a2 w2).mono fun e W' ⟨he, bel⟩ => ?_
  subst he
  exact ⟨_, rfl, _, _, _, [], _, [], hW', trodAll_mk1 (shut_bool Try.underlying4 _), (trodAll_cons_mk (shut_int Try.underlying3 w0) (trodAll_cons_mk (shut_int Try.underlying3 w1) (trodAll_cons_mk (shut_int Try.underlying3 w2) trodAll_mk0))), rfl, bel.frame _, fun h => by cases h⟩

theorem over : Rows.trigQuarterRow.holds Try.pinned (OpenSpec.ofChange Rows.trigQuarterSpec) :=
  OpenClaim.holds_of_wide 5 Try.f5 rfl rfl rfl rfl rfl rfl rfl ⟨rfl, rfl, rfl, rfl, rfl⟩ rfl rfl rfl rfl rfl (by kernel_rfl) Try.func5 (by kernel_rfl)
    (of_decide_eq_true (by kernel_rfl)) (by unfold Func.isWrapper; first | (rw [if_pos (by decide +kernel)]; kernel_rfl) | (rw [if_neg (by decide +kernel)]; exact ⟨rfl, rfl⟩))
    (fun os started H enc _ => lifted os started H enc)

/-- The statement. -/
theorem proved : Rows.TrigQuarterSaid := over
#print axioms proved
end Go.Proofs.Ytceigconehafgaa.trigQuarter
