/-
  Proved: for any string (up to 600 bytes; above that the law answers by the chapter's example alone), parted anywhere, the sum is one; a table that nobody made tells 0. Conditions: none beside the row's own.
-/
import Derived.Test.YtlggckfjhfbjkaaRows
import Derived.Test.YtlggckfjhfbjkaaD
import Derived.WalkKit
import Derived.ProofKit
import Derived.OpenShut
import Derived.ShutString
import Derived.ChangeOld
import Derived.Below
namespace Go.Proofs.Ytlggckfjhfbjkaa.crcParts
open Go.ChangeShapes Go.WideShapes Go.ChangeAt Go.RowKit
open Go.ChangeMaps (open_string shut_string)
set_option linter.unusedVariables false

theorem own : ownKnob Try.prog.godebug = none := by kernel_rfl
theorem laidOut : laidOutB Try.prog = true := by kernel_rfl

theorem slice_lo (s : ByteArray) (j : Nat) (h : j ≤ s.size) : ∀ w : World,
    (Instr.slice 9 (.string s) none (some (.int .i64 j)) none).run Try.prog w = .ok (.string (s.extract 0 j)) w := by
  intro w
  rw [run_slice_string_h w 9 s Try.underlying9 .i64 j (by omega) (by omega)]
  simp
theorem slice_hi (s : ByteArray) (j : Nat) (h : j ≤ s.size) : ∀ w : World,
    (Instr.slice 9 (.string s) (some (.int .i64 j)) none none).run Try.prog w = .ok (.string (s.extract j s.size)) w := by
  intro w
  rw [run_slice_string_l w 9 s Try.underlying9 .i64 j (by omega) (by omega)]
  simp
theorem parts_join (s : ByteArray) (j : Nat) (h : j ≤ s.size) : (s.extract 0 j).data.toList ++ (s.extract j s.size).data.toList = s.data.toList := by
  simp only [ByteArray.data_extract, Array.toList_extract, List.extract]
  simp
  rw [List.take_of_length_le (l := List.drop j s.data.toList) (by simp)]
  exact List.take_append_drop j _
theorem walk (w : World) (s : ByteArray) (hs : s.size ≤ maxLen) (a1 : Int) (w1 : (Lit.int .u16 a1).wf = true) (a2 : Int) (w2 : (Lit.int .u32 a2).wf = true) :
    Calls Try.prog 4 #[.string s, .int .u16 a1, .int .u32 a2] w fun e w' => e = .returned (.bool true) ∧ Below w.heap.size w w' := by
  obtain ⟨m1, m2⟩ := bounds_u32 w2
  obtain ⟨b1, b2⟩ := bounds_u16 w1
  obtain ⟨sum, rfl⟩ := Int.eq_ofNat_of_zero_le m1
  clear w1 w2
  have HS : Hid (s.size ≤ maxLen) := hs
  unfold maxLen at hs
  by_cases h6 : 600 < s.size
  · go_enter Try.func4, Try.ntmps4
    go_wp2_with (go_at_call 6; refine (awake_any _).mono ?_; rintro e w6 ⟨rfl, hb6⟩)
    go_ret
    exact ⟨rfl, hb6⟩
  obtain ⟨j, hj, hj2⟩ : ∃ j : Nat, a1 % ((s.size : Int) + 1) = j ∧ j ≤ s.size := by
    have h1 := Int.emod_nonneg a1 (show (s.size : Int) + 1 ≠ 0 by omega)
    have h2 := Int.emod_lt_of_pos a1 (show 0 < (s.size : Int) + 1 by omega)
    exact ⟨(a1 % ((s.size : Int) + 1)).toNat, by omega, by omega⟩
  obtain ⟨s1, e1, hl1⟩ : ∃ s1, Hid (s1 = s.extract 0 j) ∧ ∀ w : World, (Instr.slice 9 (.string s) none (some (.int .i64 j)) none).run Try.prog w = .ok (.string s1) w := ⟨_, rfl, slice_lo s j hj2⟩
  obtain ⟨s2, e2, hl2⟩ : ∃ s2, Hid (s2 = s.extract j s.size) ∧ ∀ w : World, (Instr.slice 9 (.string s) (some (.int .i64 j)) none none).run Try.prog w = .ok (.string s2) w := ⟨_, rfl, slice_hi s j hj2⟩
  have z1 : Hid (s1.size ≤ maxLen) := by rw [e1.out]; show _ ≤ _; unfold maxLen; simp; omega
  have z2 : Hid (s2.size ≤ maxLen) := by rw [e2.out]; show _ ≤ _; unfold maxLen; simp; omega
  have hp : Hid (more (more 0 s1.data.toList) s2.data.toList = more 0 s.data.toList) := by
    show _ = _
    rw [more_append, e1.out, e2.out, parts_join s j hj2]
  go_enter Try.func4, Try.ntmps4
  go_wp2_with (go_at_call 7; refine (make_any _).mono ?_; rintro e w1 ⟨rfl, ht, hb⟩)
  have HT : Hid (Tab w.heap.size w1) := ht
  have HB : Hid (Below w.heap.size w w1) := hb
  have hlt : w.heap.size < w1.heap.size := ht.1
  have HQ : Hid (∀ w', Below w1.heap.size w1 w' → Tab w.heap.size w') := fun w' hq => HT.out.below hlt hq
  have HA : Hid (∀ w', Below w1.heap.size w1 w' → Calls Try.prog 6 #[] w' fun e w'' => e = .returned (.bool true) ∧ Below w1.heap.size w1 w'') :=
    fun w' hq => (awake_any w').mono fun e w'' ⟨he, hb⟩ => ⟨he, hq.trans (hb.mono hq.size)⟩
  have HC1 : Hid (∀ w', Below w1.heap.size w1 w' → Calls Try.prog 9 #[.pointer (some ⟨w.heap.size, 0, none⟩), .int .u32 (more 0 s1.data.toList : Int), .string s2] w' fun e w'' => e = .returned (.int .u32 (more 0 s.data.toList : Int)) ∧ Below w1.heap.size w1 w'') :=
    fun w' hq => (more_any w.heap.size (more 0 s1.data.toList) s2 w' (HQ.out _ hq) z2.out (more_lt _ _)).mono fun e w2 ⟨he, n, hg⟩ => ⟨by rw [he, hp.out], by rw [hg]; exact below_drewN hq n⟩
  have HC2 : Hid (∀ w', Below w1.heap.size w1 w' → Calls Try.prog 9 #[.pointer (some ⟨w.heap.size, 0, none⟩), .int .u32 (sum : Int), .string ⟨#[]⟩] w' fun e w'' => e = .returned (.int .u32 (sum : Int)) ∧ Below w1.heap.size w1 w'') :=
    fun w' hq => (more_any w.heap.size sum ⟨#[]⟩ w' (HQ.out _ hq) (by decide) (by omega)).mono fun e w2 ⟨he, n, hg⟩ => ⟨by rw [he]; exact ret_int (congrArg Int.ofNat (more_nil sum (by omega))), by rw [hg]; exact below_drewN hq n⟩
  clear ht hb
  refine region_below (by kernel_rfl) (by kernel_rfl) ?_
  repeat (go_big_quiet_step (first | (intro hq; rfl)))
  go_big_quiet_step (first | (intro hq; go_at_call 11; exact (sum_any w.heap.size s1 _ (HQ.out _ hq) z1.out).mono fun e w2 ⟨he, n, hg⟩ => ⟨he, by rw [hg]; exact below_drewN hq n⟩))
  repeat (go_big_quiet_step (first | (intro hq; rfl)))
  go_big_quiet_step (first | (intro hq; go_at_call 9; exact HC1.out _ hq))
  repeat (go_big_quiet_step (first | (intro hq; rfl)))
  go_big_quiet_step (first | (intro hq; go_at_call 11; exact (sum_any w.heap.size s _ (HQ.out _ hq) HS.out).mono fun e w2 ⟨he, n, hg⟩ => ⟨he, by rw [hg]; exact below_drewN hq n⟩))
  repeat (go_big_quiet_step (first | (intro hq; rfl)))
  go_big_quiet_step (first | (intro hq; go_at_call 9; exact HC2.out _ hq))
  repeat (go_big_quiet_step (first | (intro hq; rfl)))
  go_big_quiet_step (first | (intro hq; go_at_call 9; exact (more_none _ _ _).mono fun e w2 ⟨he, hg⟩ => ⟨he, by rw [hg]; exact hq⟩))
  repeat (go_big_quiet_step (first | (intro hq; rfl)))
  go_big_quiet_step (first | (intro hq; go_at_call 11; exact (sum_none _ _).mono fun e w2 ⟨he, hg⟩ => ⟨he, by rw [hg]; exact hq⟩))
  repeat (go_big_quiet_step (first | (intro hq; rfl)))
  go_big_quiet_step (first | (intro hq; go_at_call 6; exact HA.out _ hq))
  repeat (go_big_quiet_step (first | (intro hq; rfl)))
  refine wpQuiet_nil ?_
  intro w' hq
  go_wp2
  go_ret
  exact ⟨rfl, HB.out.trans (hq.mono HB.out.size)⟩

set_option maxRecDepth 100000 in
theorem lifted (os : Os) (started : os.Started) (H : Type) (enc : TypeId × Value → H) :
    ReturnsInHanded {} Try.checked os 4 .any (Rows.crcPartsSpec.pre6 enc Try.prog Try.f4 Rows.crcPartsRow.domain false) (Rows.crcPartsSpec.post enc Try.prog Try.f4 false true false false) := by
  refine returnsInHanded_of_change (C := Try.checked) own started (by kernel_rfl) Try.func4
    (ChangeSpec.witness6 (enc := enc) (C := Try.checked) false ⟨#[], #[.string ByteArray.empty, .int .u16 0, .int .u32 0], []⟩ 8 (by kernel_rfl) (by kernel_rfl) (by kernel_rfl) (by kernel_rfl)) ?_
  intro W base args ds gs before hval0 hW hcnd _
  have hval : ∀ (j : Nat) t v, Try.f4.params[j]? = some t → args[j]? = some v → Value.okWide Try.prog W .any base t v := hval0
  have hW' := hW
  obtain ⟨p, q, hA0, hV, rfl, hfz, hnd⟩ := hW
  have hA : DataW.TrodAll enc Try.prog W 0 (fun _ => true) true Try.f4.params.toList args.toList ds p := hA0
  rw [Try.params4] at hA hval
  obtain ⟨v0, vs0, d0, ds0, p0, q0, hargs, rfl, rfl, h0, r0⟩ := trodAll_cons hA
  obtain ⟨v1, vs1, d1, ds1, p1, q1, rfl, rfl, rfl, h1, r1⟩ := trodAll_cons r0
  obtain ⟨v2, vs2, d2, ds2, p2, q2, rfl, rfl, rfl, h2, r2⟩ := trodAll_cons r1
  obtain ⟨rfl, rfl, rfl⟩ := trodAll_nil r2
  obtain rfl : args = #[v0, v1, v2] := by cases args; simp_all
  obtain ⟨rfl, rfl⟩ := trodVars_none hV
  obtain ⟨s0, rfl, rfl, rfl, w0⟩ := open_string Try.underlying9 (hval 0 9 v0 rfl rfl) h0
  obtain ⟨a1, rfl, rfl, rfl, w1⟩ := open_int Try.underlying30 (hval 1 30 v1 rfl rfl) h1
  obtain ⟨a2, rfl, rfl, rfl, w2⟩ := open_int Try.underlying22 (hval 2 22 v2 rfl rfl) h2
  clear hA0 hval0
  refine (walk W s0 w0 a1 w1 a2 w2).mono fun e W' ⟨he, bel⟩ => ?_
  subst he
  exact ⟨_, rfl, _, _, _, [], _, [], hW', trodAll_mk1 (shut_bool Try.underlying4 _), (trodAll_cons_mk (shut_string Try.underlying9 w0) (trodAll_cons_mk (shut_int Try.underlying30 w1) (trodAll_cons_mk (shut_int Try.underlying22 w2) trodAll_mk0))), rfl, bel.frame _, fun h => by cases h⟩

theorem over : Rows.crcPartsRow.holds Try.pinned (OpenSpec.ofChange Rows.crcPartsSpec) :=
  OpenClaim.holds_of_wide 4 Try.f4 rfl rfl rfl rfl rfl rfl rfl ⟨rfl, rfl, rfl, rfl, rfl⟩ rfl rfl rfl rfl rfl (by kernel_rfl) Try.func4 (by kernel_rfl)
    (of_decide_eq_true (by kernel_rfl)) (by unfold Func.isWrapper; first | (rw [if_pos (by decide +kernel)]; kernel_rfl) | (rw [if_neg (by decide +kernel)]; exact ⟨rfl, rfl⟩))
    (fun os started H enc _ => lifted os started H enc)

/-- The statement. -/
theorem proved : Rows.CrcPartsSaid := over
#print axioms proved
end Go.Proofs.Ytlggckfjhfbjkaa.crcParts
