/-
  Proved: of 1 to 8 numbers, 0 to 24 from 0, the order of any two pulses is that of their numbers. Conditions: none beside the row's own.
-/
import Derived.Test.YtcjdgcfblilneaaRows
import Derived.Test.YtcjdgcfblilneaaPVJ
import Derived.Test.YtcjdgcfblilneaaPVF
import Derived.WalkKit
import Derived.ProofKit
import Derived.OpenShut
import Derived.ShutString
import Derived.ChangeOld
import Derived.Below
namespace Go.Proofs.Ytcjdgcfblilneaa.pvqOrder
open Go.ChangeShapes Go.WideShapes Go.ChangeAt Go.RowKit
open Go.ChangeMaps (open_string shut_string)
set_option linter.unusedVariables false

theorem own : ownKnob Try.prog.godebug = none := by kernel_rfl
theorem laidOut : laidOutB Try.prog = true := by kernel_rfl

set_option maxRecDepth 100000 in
theorem walk (w : World) (n : Int) (wn : (Lit.int .u8 n).wf = true) (k : Int) (wk : (Lit.int .u8 k).wf = true) (i : Int) (wi : (Lit.int .u32 i).wf = true) (j : Int) (wj : (Lit.int .u32 j).wf = true) :
    Calls Try.prog 6 #[.int .u8 n, .int .u8 k, .int .u32 i, .int .u32 j] w fun e w' => e = .returned (.bool true) ∧ Below w.heap.size w w' := by
  have hn : 0 ≤ n ∧ n ≤ 255 := by simpa [Lit.wf, IntKind.min, IntKind.max, IntKind.signed, IntKind.bits] using wn
  have hk : 0 ≤ k ∧ k ≤ 255 := by simpa [Lit.wf, IntKind.min, IntKind.max, IntKind.signed, IntKind.bits] using wk
  have hi0 : 0 ≤ i ∧ i ≤ 4294967295 := by simpa [Lit.wf, IntKind.min, IntKind.max, IntKind.signed, IntKind.bits] using wi
  have hj0 : 0 ≤ j ∧ j ≤ 4294967295 := by simpa [Lit.wf, IntKind.min, IntKind.max, IntKind.signed, IntKind.bits] using wj
  obtain ⟨p, hp⟩ : ∃ p : Nat, 1 + n % 8 = (p : Int) := ⟨(1 + n % 8).toNat, by omega⟩
  obtain ⟨q, hq⟩ : ∃ q : Nat, k % 25 = (q : Int) := ⟨(k % 25).toNat, by omega⟩
  have hp1 : 1 ≤ p ∧ p ≤ 8 := by omega
  have hq1 : q ≤ 24 := by omega
  have hc1 : 1 ≤ pvC p q := by obtain ⟨r, rfl⟩ : ∃ r, p = r + 1 := ⟨p - 1, by omega⟩; exact pvC_pos r q
  have hc9 := pvC_bd (n := p) (k := q) hp1.2 hq1
  obtain ⟨c, hc⟩ : ∃ c : Int, c = ((pvC p q : Nat) : Int) := ⟨_, rfl⟩
  have hcb : 1 ≤ c ∧ c ≤ 33232930569601 := by omega
  have hmb : ∀ i : Int, 0 ≤ i % c ∧ i % c < c := fun i => ⟨Int.emod_nonneg _ (by omega), Int.emod_lt_of_pos _ (by omega)⟩
  have hmi := hmb i
  have hmj := hmb j
  obtain ⟨x, hx⟩ : ∃ x : Nat, i % c = (x : Int) := ⟨(i % c).toNat, by omega⟩
  obtain ⟨y, hy⟩ : ∃ y : Nat, j % c = (y : Int) := ⟨(j % c).toNat, by omega⟩
  have hxc : x < pvC p q := by omega
  have hyc : y < pvC p q := by omega
  have K0 := pvawake_to w
  have K3 : Hid (∀ W, Calls Try.prog 10 #[.int .i64 (p : Int), .int .i64 (q : Int)] W fun e w' => e = .returned (.int .i64 c) ∧ Below W.heap.size W w') := fun W => by
    have := pvq_count (p : Int) (q : Int) W
    rwa [pvCnt_nat hp1.2 hq1, ← hc] at this
  have K4 := hid (fun W => pvq_vec p q x hp1.1 hp1.2 hq1 hxc W)
  have K5 := hid (fun W => pvq_vec p q y hp1.1 hp1.2 hq1 hyc W)
  have hA : ∀ t, t < p → (pvVec p q x t).natAbs ≤ 24 := fun t ht => by
    have h1 := pvK_at (pvVec p q x) ht
    have h2 := pv_far hxc
    omega
  have hB : ∀ t, t < p → (pvVec p q y t).natAbs ≤ 24 := fun t ht => by
    have h1 := pvK_at (pvVec p q y) ht
    have h2 := pv_far hyc
    omega
  have hL : pvLess (pvVec p q x) (pvVec p q y) p p = decide ((x : Int) < (y : Int)) := by
    have h := pv_order (X := pvVec p q x) (Y := pvVec p q y) (n := p) p (by rw [pv_far hxc, pv_far hyc])
    rw [pv_num hxc, pv_num hyc] at h
    cases e : pvLess (pvVec p q x) (pvVec p q y) p p with
    | true => exact (decide_eq_true (by have := h.1 e; omega)).symm
    | false => exact (decide_eq_false (fun hlt => by have := h.2 (by omega); rw [e] at this; cases this)).symm
  have K6 : Hid (∀ a a' c c' W, IsInts W a p c (pvVec p q x) → IsInts W a' p c' (pvVec p q y) → Calls Try.prog 17 #[.slice a p c, .slice a' p c'] W fun e w' => e = .returned (.bool (decide ((x : Int) < (y : Int)))) ∧ Below W.heap.size W w') := fun a a' c c' W h h' => by
    have := rless_any a a' p c c' _ _ hp1.1 hp1.2 hA hB W h h'
    rwa [hL] at this
  generalize pvVec p q x = A at K4 K6
  generalize pvVec p q y = B at K5 K6
  have HP := hid hp
  have HQ := hid hq
  have HX := hid hx
  have HY := hid hy
  have HB0 := hid (Below.refl w.heap.size w)
  clear hA hB hL hc hc9 hc1 hp hq hx hy hxc hyc hmb hmi hmj wn wk wi wj
  go_enter Try.func6, Try.ntmps6
  go_wp2_with (fail)
  rw [HP.out, HQ.out]
  refine Calls.mono (K3.out _) ?_
  rintro e w1 ⟨rfl, b1⟩
  have B1 := hid b1
  clear b1 HB0 K3
  go_wp2_with (fail)
  rw [HX.out]
  refine Calls.mono (K4.out _) ?_
  rintro e w2 ⟨a2, c2, rfl, i2, b2, _⟩
  have B2 := hid (below_then B1.out b2)
  have I2 := hid i2
  clear b2 i2 B1 K4
  go_wp2_with (fail)
  rw [HY.out]
  refine Calls.mono (K5.out _) ?_
  rintro e w3 ⟨a3, c3, rfl, i3, b3, _⟩
  have B3 := hid (below_then B2.out b3)
  have I3 := hid (I2.out.below b3)
  have J3 := hid i3
  clear b3 i3 B2 I2 K5
  have hxx := HX.out
  have hyy := HY.out
  go_wp2
  have L := hid (fun W (hW : Below w3.heap.size w3 W) => (K6.out a2 a3 c2 c3 W (I3.out.below hW) (J3.out.below hW)).mono (fun e w' h => (⟨h.1, below_then hW h.2⟩ : e = .returned (.bool (decide ((x : Int) < (y : Int)))) ∧ Below w3.heap.size w3 w')))
  have L0 := hid (fun W (hW : Below w3.heap.size w3 W) => (pvawake_any W).mono (fun e w' h => (⟨h.1, below_then hW h.2⟩ : e = .returned (.bool true) ∧ Below w3.heap.size w3 w')))
  refine region_below (by kernel_rfl) (by kernel_rfl) ?_
  repeat (go_big_quiet_step (first
    | (intro hq; rfl)
    | (intro hq; go_at_call 17; (with_reducible exact L.out _ hq))
    | (intro hq; go_at_call 7; (with_reducible exact L0.out _ hq))))
  refine wpQuiet_nil ?_
  intro w5 hw5
  have B5 := hid (below_then B3.out hw5)
  clear hw5 L L0 I3 J3
  go_wp2
  go_ret
  exact ⟨rfl, B5.out⟩

set_option maxRecDepth 100000 in
theorem lifted (os : Os) (started : os.Started) (H : Type) (enc : TypeId × Value → H) :
    ReturnsInHanded {} Try.checked os 6 .any (Rows.pvqOrderSpec.pre6 enc Try.prog Try.f6 Rows.pvqOrderRow.domain false) (Rows.pvqOrderSpec.post enc Try.prog Try.f6 false true false false) := by
  refine returnsInHanded_of_change (C := Try.checked) own started (by kernel_rfl) Try.func6
    (ChangeSpec.witness6 (enc := enc) (C := Try.checked) false ⟨#[], #[.int .u8 0, .int .u8 0, .int .u32 0, .int .u32 0], []⟩ 8 (by kernel_rfl) (by kernel_rfl) (by kernel_rfl) (by kernel_rfl)) ?_
  intro W base args ds gs before hval0 hW hcnd _
  have hval : ∀ (j : Nat) t v, Try.f6.params[j]? = some t → args[j]? = some v → Value.okWide Try.prog W .any base t v := hval0
  have hW' := hW
  obtain ⟨p, q, hA0, hV, rfl, hfz, hnd⟩ := hW
  have hA : DataW.TrodAll enc Try.prog W 0 (fun _ => true) true Try.f6.params.toList args.toList ds p := hA0
  rw [Try.params6] at hA hval
  obtain ⟨v0, vs0, d0, ds0, p0, q0, hargs, rfl, rfl, h0, r0⟩ := trodAll_cons hA
  obtain ⟨v1, vs1, d1, ds1, p1, q1, rfl, rfl, rfl, h1, r1⟩ := trodAll_cons r0
  obtain ⟨v2, vs2, d2, ds2, p2, q2, rfl, rfl, rfl, h2, r2⟩ := trodAll_cons r1
  obtain ⟨v3, vs3, d3, ds3, p3, q3, rfl, rfl, rfl, h3, r3⟩ := trodAll_cons r2
  obtain ⟨rfl, rfl, rfl⟩ := trodAll_nil r3
  obtain rfl : args = #[v0, v1, v2, v3] := by cases args; simp_all
  obtain ⟨rfl, rfl⟩ := trodVars_none hV
  obtain ⟨a0, rfl, rfl, rfl, w0⟩ := open_int Try.underlying5 (hval 0 5 v0 rfl rfl) h0
  obtain ⟨a1, rfl, rfl, rfl, w1⟩ := open_int Try.underlying5 (hval 1 5 v1 rfl rfl) h1
  obtain ⟨a2, rfl, rfl, rfl, w2⟩ := open_int Try.underlying32 (hval 2 32 v2 rfl rfl) h2
  obtain ⟨a3, rfl, rfl, rfl, w3⟩ := open_int Try.underlying32 (hval 3 32 v3 rfl rfl) h3
  clear hA0 hval0
  refine (walk W a0 w0 a1 w1 a2 w2 a3 w3).mono fun e W' ⟨he, bel⟩ => ?_
  subst he
  exact ⟨_, rfl, _, _, _, [], _, [], hW', trodAll_mk1 (shut_bool Try.underlying4 _), (trodAll_cons_mk (shut_int Try.underlying5 w0) (trodAll_cons_mk (shut_int Try.underlying5 w1) (trodAll_cons_mk (shut_int Try.underlying32 w2) (trodAll_cons_mk (shut_int Try.underlying32 w3) trodAll_mk0)))), rfl, bel.frame _, fun h => by cases h⟩

theorem over : Rows.pvqOrderRow.holds Try.pinned (OpenSpec.ofChange Rows.pvqOrderSpec) :=
  OpenClaim.holds_of_wide 6 Try.f6 rfl rfl rfl rfl rfl rfl rfl ⟨rfl, rfl, rfl, rfl, rfl⟩ rfl rfl rfl rfl rfl (by kernel_rfl) Try.func6 (by kernel_rfl)
    (of_decide_eq_true (by kernel_rfl)) (by unfold Func.isWrapper; first | (rw [if_pos (by decide +kernel)]; kernel_rfl) | (rw [if_neg (by decide +kernel)]; exact ⟨rfl, rfl⟩))
    (fun os started H enc _ => lifted os started H enc)

/-- The statement. -/
theorem proved : Rows.PvqOrderSaid := over
#print axioms proved
end Go.Proofs.Ytcjdgcfblilneaa.pvqOrder
