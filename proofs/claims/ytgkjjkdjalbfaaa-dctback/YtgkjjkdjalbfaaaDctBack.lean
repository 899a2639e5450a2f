/-
  Proved: for any list of ints that is a block (8 or 64 numbers from -2^17 to 2^17), the block comes back from its spectrum, each number off by 8 at most (other lists: the law answers by the chapter's example alone). Conditions: none beside the row's own.
-/
import Derived.Test.YtgkjjkdjalbfaaaRows
import Derived.Test.YtgkjjkdjalbfaaaXH
import Derived.WalkKit
import Derived.ProofKit
import Derived.OpenShut
import Derived.ShutString
import Derived.ChangeOld
import Derived.Below
namespace Go.Proofs.Ytgkjjkdjalbfaaa.dctBack
open Go.ChangeShapes Go.WideShapes Go.ChangeAt Go.RowKit
open Go.ChangeMaps (open_string shut_string)
set_option linter.unusedVariables false

theorem own : ownKnob Try.prog.godebug = none := by kernel_rfl
theorem laidOut : laidOutB Try.prog = true := by kernel_rfl

set_option pp.deepTerms true
set_option pp.maxSteps 1000000
theorem walkNo (w : World) (a : Option Addr) (len cap : Nat) (X : Nat → Int) (hl : len ≤ maxLen) (h : IsInts w a len cap X) (hr : rightF X len 131072 = false) :
    Calls Try.prog 3 #[.slice a len cap] w fun e w' => e = .returned (.bool true) ∧ Below w.heap.size w w' := by
  have k0 := xawake_to w
  have b0 := Below.refl w.heap.size w
  have HR : Hid (Calls Try.prog 5 #[.slice a len cap, .int .i64 131072] w fun e w' => e = .returned (.bool false) ∧ w' = w) := by
    have := xright_any 131072 (by omega) (by omega) a len cap X hl w h
    rwa [hr] at this
  clear h hr hl
  go_enter Try.func3, Try.ntmps3
  go_wp2_with (first
    | (go_at_call 5; (with_reducible refine HR.out.mono ?_); rintro e w1 ⟨rfl, rfl⟩)
    | (go_at_call 6; (with_reducible refine (k0.out _ b0).mono ?_); rintro e w2 ⟨rfl, b0⟩))
  go_ret
  exact ⟨rfl, b0⟩
set_option maxRecDepth 100000 in
theorem walkYes (w : World) {n : Nat} (hN : IsN n) (a : Option Addr) (cap : Nat) (X : Nat → Int) (hX : ∀ i, i < n → -131072 ≤ X i ∧ X i ≤ 131072) (h : IsInts w a n cap X) :
    Calls Try.prog 3 #[.slice a n cap] w fun e w' => e = .returned (.bool true) ∧ Below w.heap.size w w' := by
  have hle := hN.le
  have HR : Hid (Calls Try.prog 5 #[.slice a n cap, .int .i64 131072] w fun e w' => e = .returned (.bool true) ∧ w' = w) := by
    have := xright_any 131072 (by omega) (by omega) a n cap X (Nat.le_trans hle (by decide)) w h
    rwa [rightF_of hN hX] at this
  have K1 : Hid (∀ W t, Below w.heap.size w W → Tab t W → Calls Try.prog 8 #[.pointer (some ⟨t, 0, none⟩), .slice a n cap] W (SPost n (fourF n X) W)) := fun W t hW ht =>
    four_yes hN t a cap X (fun i hi => by have := hX i hi; omega) W ht (h.below hW)
  have HB : Hid (∀ i, i < n → -33554432 ≤ fourF n X i ∧ fourF n X i ≤ 33554432) := fun i _ => by have := four_bd hN hX i; omega
  have K2 : Hid (∀ W t r, Tab t W → RowAt r n (fourF n X) W → Calls Try.prog 9 #[.pointer (some ⟨t, 0, none⟩), .slice (some ⟨r, 0, none⟩) n n] W (SPost n (backF n (fourF n X)) W)) := fun W t r ht hr =>
    back_yes hN t _ n (fourF n X) HB.out W ht (hr.ints (Nat.le_trans hle (by decide)))
  have HF : Hid (∀ i, i < n → ∃ y u : Int, backF n (fourF n X) i = y ∧ X i = u ∧ -8 ≤ y - u ∧ y - u ≤ 8 ∧ -131072 ≤ u ∧ u ≤ 131072) := fun i hi => by
    have h1 := back_near hN hX hi
    have h2 := hX i hi
    exact ⟨_, _, rfl, rfl, h1.1, h1.2, h2.1, h2.2⟩
  obtain ⟨ub, uo, rfl, HC⟩ := h.cells (by have := hN.ge; omega)
  replace HC : Hid (∀ W, Below w.heap.size w W → ∀ i, i < n → W.cell? ⟨ub, uo + i, none⟩ = some (.int .i64 (X i))) := HC
  clear h hX hN
  go_enter Try.func3, Try.ntmps3
  go_wp2_with (first
    | (go_at_call 5; (with_reducible refine HR.out.mono ?_); rintro e w0 ⟨rfl, rfl⟩)
    | (go_at_call 7; refine (make_any _).mono ?_; rintro e w1 ⟨rfl, ht, b1⟩))
  refine (K1.out _ _ b1 ht).mono ?_
  rintro e w2 ⟨r, rfl, _, h2, b2⟩
  have HT : Hid (Tab _ w2) := ht.below ht.1 b2
  have H2 : Hid (RowAt r n (fourF n X) w2) := h2
  have B2 : Hid (Below w0.heap.size w0 w2) := below_then b1 b2
  clear ht b1 h2 b2 K1 HR
  go_wp2_with (fail)
  refine (K2.out _ _ _ HT.out H2.out).mono ?_
  rintro e w3 ⟨q, rfl, _, h3, b3⟩
  have B3 : Hid (Below w0.heap.size w0 w3) := below_then B2.out b3
  have CA : Hid (∀ W, Below w3.heap.size w3 W → ∀ i, i < n → W.cell? ⟨q, i, none⟩ = some (.int .i64 (backF n (fourF n X) i))) := fun W hW i hi => (h3.below hW).get hi
  have KA := xawake_to w3
  clear h3 b3 H2 HT K2
  go_wp2
  go_loopw [6] (fun i wr => ∃ k : Nat, k ≤ n ∧ i = .int .i64 k ∧ Hid (Below w3.heap.size w3 wr)) (fun i _ => n - (intOf i).toNat)
  case atStart => exact ⟨0, Nat.zero_le _, rfl, Below.refl _ _⟩
  case round =>
    obtain ⟨k, hk, rfl, HW⟩ := hrel
    by_cases hlt : k < n
    · obtain ⟨y, u, e1, e2, f1, f2, f3, f4⟩ := HF.out k hlt
      have ca : ∀ W, Below wr.heap.size wr W → W.cell? ⟨q, k, none⟩ = some (.int .i64 y) := fun W hq => by rw [← e1]; exact CA.out W (below_then HW.out hq) k hlt
      have cb : ∀ W, Below wr.heap.size wr W → W.cell? ⟨ub, uo + k, none⟩ = some (.int .i64 u) := fun W hq => by rw [← e2]; exact HC.out W (below_then B3.out (below_then HW.out hq)) k hlt
      have g1 : decide (8 < y - u) = false := by simp; omega
      have g2 : decide (8 < u - y) = false := by simp; omega
      clear e1 e2
      go_wp2
      refine region_below (by kernel_rfl) (by kernel_rfl) ?_
      repeat (go_big_quiet_step (first
        | (intro hq; rfl)
        | (intro hq; rw [ca _ hq]; exact ⟨rfl, rfl⟩)
        | (intro hq; rw [cb _ hq]; exact ⟨rfl, rfl⟩)))
      trace_state
      refine wpQuiet_nil ?_
      intro w4 hq
      have HW4 : Hid (Below w3.heap.size w3 w4) := below_then HW.out hq
      clear hq ca cb HW
      go_wp2
      refine ⟨⟨k + 1, by omega, by go_num, HW4⟩, by simp [intOf]; omega⟩
    · obtain rfl : k = n := by omega
      go_wp2_with (go_at_call 6; (with_reducible refine (KA.out _ HW.out).mono ?_); rintro e w5 ⟨rfl, b5⟩)
      go_ret
      exact ⟨rfl, below_then B3.out b5⟩
theorem walk (w : World) (a : Option Addr) (len cap : Nat) (X : Nat → Int) (h : len ≤ maxLen ∧ IsInts w a len cap X) :
    Calls Try.prog 3 #[.slice a len cap] w fun e w' => e = .returned (.bool true) ∧ Below w.heap.size w w' := by
  cases hr : rightF X len 131072 with
  | false => exact walkNo w a len cap X h.1 h.2 hr
  | true =>
    obtain ⟨hN, hX⟩ := rightF_yes hr
    exact walkYes w hN a cap X hX h.2

set_option maxRecDepth 100000 in
theorem lifted (os : Os) (started : os.Started) (H : Type) (enc : TypeId × Value → H) :
    ReturnsInHanded {} Try.checked os 3 .any (Rows.dctBackSpec.pre6 enc Try.prog Try.f3 Rows.dctBackRow.domain false) (Rows.dctBackSpec.post enc Try.prog Try.f3 false true false false) := by
  refine returnsInHanded_of_change (C := Try.checked) own started (by kernel_rfl) Try.func3
    (ChangeSpec.witness6 (enc := enc) (C := Try.checked) false ⟨#[], #[.slice none 0 0], []⟩ 8 (by kernel_rfl) (by kernel_rfl) (by kernel_rfl) (by kernel_rfl)) ?_
  intro W base args ds gs before hval0 hW hcnd _
  have hval : ∀ (j : Nat) t v, Try.f3.params[j]? = some t → args[j]? = some v → Value.okWide Try.prog W .any base t v := hval0
  have hW' := hW
  obtain ⟨p, q, hA0, hV, rfl, hfz, hnd⟩ := hW
  have hA : DataW.TrodAll enc Try.prog W 0 (fun _ => true) true Try.f3.params.toList args.toList ds p := hA0
  rw [Try.params3] at hA hval
  obtain ⟨v0, vs0, d0, ds0, p0, q0, hargs, rfl, rfl, h0, r0⟩ := trodAll_cons hA
  obtain ⟨rfl, rfl, rfl⟩ := trodAll_nil r0
  obtain rfl : args = #[v0] := by cases args; simp_all
  obtain ⟨rfl, rfl⟩ := trodVars_none hV
  obtain ⟨a0, len0, cap0, rfl⟩ := okWide_slice Try.underlying22 (hval 0 22 v0 rfl rfl)
  have k0 := h0
  have lt0 : ∀ x ∈ p0, x.block < W.heap.size := by obtain ⟨m, hm⟩ := k0; exact DataW.trod_lt m _ _ _ hm
  obtain ⟨x0, w0⟩ : ∃ X : Nat → Int, len0 ≤ maxLen ∧ IsInts W a0 len0 cap0 X := by
    obtain ⟨fuel, hf⟩ := h0
    exact open_isints Try.underlying22 Try.underlying3 (by kernel_rfl) hf
  clear hA0 hval0
  refine (walk W a0 len0 cap0 x0 w0).mono fun e W' ⟨he, bel⟩ => ?_
  subst he
  exact ⟨_, rfl, _, _, _, [], _, [], hW', trodAll_mk1 (shut_bool Try.underlying4 _), (trodAll_cons_mk (Below.trod laidOut (by kernel_rfl) (of_decide_eq_true (by kernel_rfl)) k0 bel lt0) trodAll_mk0), rfl, bel.frame _, fun h => by cases h⟩

theorem over : Rows.dctBackRow.holds Try.pinned (OpenSpec.ofChange Rows.dctBackSpec) :=
  OpenClaim.holds_of_wide 3 Try.f3 rfl rfl rfl rfl rfl rfl rfl ⟨rfl, rfl, rfl, rfl, rfl⟩ rfl rfl rfl rfl rfl (by kernel_rfl) Try.func3 (by kernel_rfl)
    (of_decide_eq_true (by kernel_rfl)) (by unfold Func.isWrapper; first | (rw [if_pos (by decide +kernel)]; kernel_rfl) | (rw [if_neg (by decide +kernel)]; exact ⟨rfl, rfl⟩))
    (fun os started H enc _ => lifted os started H enc)

/-- The statement. -/
theorem proved : Rows.DctBackSaid := over
#print axioms proved
end Go.Proofs.Ytgkjjkdjalbfaaa.dctBack
