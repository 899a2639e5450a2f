/-
  Proved: for any string, any sum and any octet (up to 600 bytes; above that the law answers by the chapter's example alone), the table's entry, and the sums that the table makes, are the document's. Conditions: none beside the row's own.
-/
import Derived.Test.YtlggckfjhfbjkaaRows
import Derived.Test.YtlggckfjhfbjkaaD
import Derived.WalkKit
import Derived.ProofKit
import Derived.OpenShut
import Derived.ShutString
import Derived.ChangeOld
import Derived.Below
namespace Go.Proofs.Ytlggckfjhfbjkaa.crcTells
open Go.ChangeShapes Go.WideShapes Go.ChangeAt Go.RowKit
open Go.ChangeMaps (open_string shut_string)
set_option linter.unusedVariables false

theorem own : ownKnob Try.prog.godebug = none := by kernel_rfl
theorem laidOut : laidOutB Try.prog = true := by kernel_rfl

theorem walk (w : World) (s : ByteArray) (hs : s.size ≤ maxLen) (a1 : Int) (w1 : (Lit.int .u32 a1).wf = true) (a2 : Int) (w2 : (Lit.int .u8 a2).wf = true) :
    Calls Try.prog 3 #[.string s, .int .u32 a1, .int .u8 a2] w fun e w' => e = .returned (.bool true) ∧ Below w.heap.size w w' := by
  obtain ⟨m1, m2⟩ := bounds_u32 w1
  obtain ⟨b1, b2⟩ := bounds_u8 w2
  obtain ⟨sum, rfl⟩ := Int.eq_ofNat_of_zero_le m1
  obtain ⟨b, rfl⟩ := Int.eq_ofNat_of_zero_le b1
  clear w1 w2
  have HS : Hid (s.size ≤ maxLen) := hs
  unfold maxLen at hs
  by_cases h6 : 600 < s.size
  · go_enter Try.func3, Try.ntmps3
    go_wp2_with (go_at_call 6; refine (awake_any _).mono ?_; rintro e w6 ⟨rfl, hb6⟩)
    go_ret
    exact ⟨rfl, hb6⟩
  go_enter Try.func3, Try.ntmps3
  go_wp2_with (go_at_call 7; refine (make_any _).mono ?_; rintro e w1 ⟨rfl, ht, hb⟩)
  have HT : Hid (Tab w.heap.size w1) := ht
  have HB : Hid (Below w.heap.size w w1) := hb
  have hlt : w.heap.size < w1.heap.size := ht.1
  have hc := ht.2 b (by omega)
  have hcq : ∀ w', Below w1.heap.size w1 w' → w'.cell? ⟨w.heap.size, b, none⟩ = some (.int .u32 (stps 8 b : Int)) := fun w' hq => (hq.cell (p := ⟨w.heap.size, b, none⟩) hlt).trans hc
  have HQ : Hid (∀ w', Below w1.heap.size w1 w' → Tab w.heap.size w') := fun w' hq => HT.out.below hlt hq
  have HA : Hid (∀ w', Below w1.heap.size w1 w' → Calls Try.prog 6 #[] w' fun e w'' => e = .returned (.bool true) ∧ Below w1.heap.size w1 w'') :=
    fun w' hq => (awake_any w').mono fun e w'' ⟨he, hb⟩ => ⟨he, hq.trans (hb.mono hq.size)⟩
  clear ht hb hc
  refine region_below (by kernel_rfl) (by kernel_rfl) ?_
  repeat (go_big_quiet_step (first
    | (intro hq; rfl)
    | (intro hq; rw [hcq _ hq]; exact ⟨rfl, rfl⟩)
    | (intro hq; go_at_call 8; exact (Entry_any b (by omega) _).mono fun e w2 ⟨he, hg⟩ => ⟨he, by rw [hg]; exact hq⟩)
    | (intro hq; go_at_call 9; exact (more_any w.heap.size sum s _ (HQ.out _ hq) HS.out (by omega)).mono fun e w2 ⟨he, n, hg⟩ => ⟨he, by rw [hg]; exact below_drewN hq n⟩)
    | (intro hq; go_at_call 10; exact (refMore_any sum s _ HS.out (by omega)).mono fun e w2 ⟨he, hg⟩ => ⟨he, by rw [hg]; exact hq⟩)
    | (intro hq; go_at_call 11; exact (sum_any w.heap.size s _ (HQ.out _ hq) HS.out).mono fun e w2 ⟨he, n, hg⟩ => ⟨he, by rw [hg]; exact below_drewN hq n⟩)
    | (intro hq; go_at_call 12; exact (refSum_any s _ HS.out).mono fun e w2 ⟨he, hg⟩ => ⟨he, by rw [hg]; exact hq⟩)
    | (intro hq; go_at_call 6; exact HA.out _ hq)))
  refine wpQuiet_nil ?_
  intro w' hq
  go_wp2
  go_ret
  exact ⟨rfl, HB.out.trans (hq.mono HB.out.size)⟩

set_option maxRecDepth 100000 in
theorem lifted (os : Os) (started : os.Started) (H : Type) (enc : TypeId × Value → H) :
    ReturnsInHanded {} Try.checked os 3 .any (Rows.crcTellsSpec.pre6 enc Try.prog Try.f3 Rows.crcTellsRow.domain false) (Rows.crcTellsSpec.post enc Try.prog Try.f3 false true false false) := by
  refine returnsInHanded_of_change (C := Try.checked) own started (by kernel_rfl) Try.func3
    (ChangeSpec.witness6 (enc := enc) (C := Try.checked) false ⟨#[], #[.string ByteArray.empty, .int .u32 0, .int .u8 0], []⟩ 8 (by kernel_rfl) (by kernel_rfl) (by kernel_rfl) (by kernel_rfl)) ?_
  intro W base args ds gs before hval0 hW hcnd _
  have hval : ∀ (j : Nat) t v, Try.f3.params[j]? = some t → args[j]? = some v → Value.okWide Try.prog W .any base t v := hval0
  have hW' := hW
  obtain ⟨p, q, hA0, hV, rfl, hfz, hnd⟩ := hW
  have hA : DataW.TrodAll enc Try.prog W 0 (fun _ => true) true Try.f3.params.toList args.toList ds p := hA0
  rw [Try.params3] at hA hval
  obtain ⟨v0, vs0, d0, ds0, p0, q0, hargs, rfl, rfl, h0, r0⟩ := trodAll_cons hA
  obtain ⟨v1, vs1, d1, ds1, p1, q1, rfl, rfl, rfl, h1, r1⟩ := trodAll_cons r0
  obtain ⟨v2, vs2, d2, ds2, p2, q2, rfl, rfl, rfl, h2, r2⟩ := trodAll_cons r1
  obtain ⟨rfl, rfl, rfl⟩ := trodAll_nil r2
  obtain rfl : args = #[v0, v1, v2] := by cases args; simp_all
  obtain ⟨rfl, rfl⟩ := trodVars_none hV
  obtain ⟨s0, rfl, rfl, rfl, w0⟩ := open_string Try.underlying9 (hval 0 9 v0 rfl rfl) h0
  obtain ⟨a1, rfl, rfl, rfl, w1⟩ := open_int Try.underlying22 (hval 1 22 v1 rfl rfl) h1
  obtain ⟨a2, rfl, rfl, rfl, w2⟩ := open_int Try.underlying5 (hval 2 5 v2 rfl rfl) h2
  clear hA0 hval0
  refine (walk W s0 w0 a1 w1 a2 w2).mono fun e W' ⟨he, bel⟩ => ?_
  subst he
  exact ⟨_, rfl, _, _, _, [], _, [], hW', trodAll_mk1 (shut_bool Try.underlying4 _), (trodAll_cons_mk (shut_string Try.underlying9 w0) (trodAll_cons_mk (shut_int Try.underlying22 w1) (trodAll_cons_mk (shut_int Try.underlying5 w2) trodAll_mk0))), rfl, bel.frame _, fun h => by cases h⟩

theorem over : Rows.crcTellsRow.holds Try.pinned (OpenSpec.ofChange Rows.crcTellsSpec) :=
  OpenClaim.holds_of_wide 3 Try.f3 rfl rfl rfl rfl rfl rfl rfl ⟨rfl, rfl, rfl, rfl, rfl⟩ rfl rfl rfl rfl rfl (by kernel_rfl) Try.func3 (by kernel_rfl)
    (of_decide_eq_true (by kernel_rfl)) (by unfold Func.isWrapper; first | (rw [if_pos (by decide +kernel)]; kernel_rfl) | (rw [if_neg (by decide +kernel)]; exact ⟨rfl, rfl⟩))
    (fun os started H enc _ => lifted os started H enc)

/-- The statement. -/
theorem proved : Rows.CrcTellsSaid := over
#print axioms proved
end Go.Proofs.Ytlggckfjhfbjkaa.crcTells
