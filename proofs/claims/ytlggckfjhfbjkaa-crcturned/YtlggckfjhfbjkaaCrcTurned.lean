/-
  Proved: for any string (1 to 600 bytes; else the law answers by the chapter's example alone), any place and any bits, a text of which some bits within 32 neighbouring ones are turned has another sum, and one of which none is turned has the same. Conditions: none beside the row's own.
-/
import Derived.Test.YtlggckfjhfbjkaaRows
import Derived.Test.YtlggckfjhfbjkaaD
import Derived.Test.YtlggckfjhfbjkaaE
import Derived.WalkKit
import Derived.ProofKit
import Derived.OpenShut
import Derived.ShutString
import Derived.ChangeOld
import Derived.Below
namespace Go.Proofs.Ytlggckfjhfbjkaa.crcTurned
open Go.ChangeShapes Go.WideShapes Go.ChangeAt Go.RowKit
open Go.ChangeMaps (open_string shut_string)
set_option linter.unusedVariables false

theorem own : ownKnob Try.prog.godebug = none := by kernel_rfl
theorem laidOut : laidOutB Try.prog = true := by kernel_rfl

theorem walk (w : World) (s : ByteArray) (hs : s.size ≤ maxLen) (a1 : Int) (w1 : (Lit.int .u16 a1).wf = true) (a2 : Int) (w2 : (Lit.int .u32 a2).wf = true) :
    Calls Try.prog 5 #[.string s, .int .u16 a1, .int .u32 a2] w fun e w' => e = .returned (.bool true) ∧ Below w.heap.size w w' := by
  obtain ⟨m1, m2⟩ := bounds_u32 w2
  obtain ⟨b1, b2⟩ := bounds_u16 w1
  obtain ⟨m, rfl⟩ := Int.eq_ofNat_of_zero_le m1
  clear w1 w2
  have HS : Hid (s.size ≤ maxLen) := hs
  unfold maxLen at hs
  by_cases h0 : s.size = 0
  · have h0' : ((s.size : Int) == 0) = true := by rw [beq_iff_eq]; omega
    clear h0
    go_enter Try.func5, Try.ntmps5
    go_wp2_with (go_at_call 6; refine (awake_any _).mono ?_; rintro e w6 ⟨rfl, hb6⟩)
    go_ret
    exact ⟨rfl, hb6⟩
  have h0' : ((s.size : Int) == 0) = false := by rw [beq_eq_false_iff_ne]; omega
  by_cases h6 : 600 < s.size
  · go_enter Try.func5, Try.ntmps5
    go_wp2_with (go_at_call 6; refine (awake_any _).mono ?_; rintro e w6 ⟨rfl, hb6⟩)
    go_ret
    exact ⟨rfl, hb6⟩
  obtain ⟨f, hf, hf2⟩ : ∃ f : Nat, Hid (a1 % (8 * (s.size : Int)) = f) ∧ f < 8 * s.size := by
    have h1 := Int.emod_nonneg a1 (show 8 * (s.size : Int) ≠ 0 by omega)
    have h2 := Int.emod_lt_of_pos a1 (show 0 < 8 * (s.size : Int) by omega)
    exact ⟨(a1 % (8 * (s.size : Int))).toNat, by show _ = _; omega, by omega⟩
  have hcv := conv_bytes w s
  have h6' : decide (600 < (s.size : Int)) = false := by simp; omega
  generalize hcap : grownCap w s.size 0 5 = cap at *
  clear hcap
  have HT : Hid (TurnTo w s f m 0 (Lib.bytesWorld w 5 s)) := TurnTo.start w s f m
  generalize Lib.bytesWorld w 5 s = wb at *
  go_enter Try.func5, Try.ntmps5
  go_wp2
  rw [hf.out]
  go_loopw [9, 10] (fun t i wr => ∃ k : Nat, k ≤ 32 ∧ f + k ≤ 8 * s.size ∧ i = .int .i64 k ∧ t = .bool (turnB m k) ∧ TurnTo w s f m k wr) (fun _ i _ => 32 - (intOf i).toNat)
  case atStart => exact ⟨0, by omega, by omega, rfl, by rw [turnB_zero], HT.out⟩
  case round =>
    obtain ⟨k, hk, hfk, rfl, rfl, ht⟩ := hrel
    clear HT
    have HT : Hid (TurnTo w s f m k wr) := ht
    have hbt := bit_test m k (by omega)
    clear ht
    by_cases h32 : k < 32
    · by_cases hfl : f + k < 8 * s.size
      · rcases Nat.mod_two_eq_zero_or_one (m / 2 ^ k) with hb | hb
        · have hbb : (bits .and .u32 ((m : Int) / 2 ^ k) 1 == 1) = false := by rw [hbt, hb]; rfl
          have HZ : Hid (turnB m (k + 1) = turnB m k) := turnB_skip m k hb
          have HN : Hid (TurnTo w s f m (k + 1) wr) := HT.out.skip hb
          clear hb hbt HT
          go_wp2
          go_roundw
          case rel => exact ⟨k + 1, by omega, by omega, by go_num, by rw [HZ.out], HN.out⟩
          case measure => simp [intOf]; omega
        · have hbb : (bits .and .u32 ((m : Int) / 2 ^ k) 1 == 1) = true := by rw [hbt, hb]; rfl
          obtain ⟨q, r, hq, hr⟩ : ∃ q r : Nat, f + k = 8 * q + r ∧ r < 8 := ⟨(f + k) / 8, (f + k) % 8, by omega, by omega⟩
          have hq1 : ((f : Int) + k) / 8 = q := by omega
          have hr1 : ((f : Int) + k) % 8 = r := by omega
          have hqs : q < s.size := by omega
          have HZ : Hid (turnB m (k + 1) = true) := turnB_turn m k hb
          obtain ⟨c, hc, hfz, hn⟩ := HT.out.turn hb q r hq hr hqs
          have HN : Hid _ := hn
          have hcb := u8_lt c
          clear hb hbt HT hq hn
          go_wp2
          go_region
          go_wp2
          go_roundw
          case rel => exact ⟨k + 1, by omega, by omega, by go_num, by rw [HZ.out], by have := TurnTo.drew (show TurnTo w s f m (k + 1) _ from HN.out); rw [← one_shl c r hr] at this; exact this⟩
          case measure => simp [intOf]; omega
      · clear hbt
        obtain ⟨l, hll, hrow, hbel, hsum⟩ := HT.out.sums (by omega) (by omega)
        have HR : Hid (Row w.heap.size l wr) := hrow
        have HB0 : Hid (Below w.heap.size w wr) := hbel
        have HL : Hid (l.length = s.size) := hll
        have HSU : Hid (more 0 l = more 0 s.data.toList ↔ turnB m k = false) := hsum
        have hwr : w.heap.size < wr.heap.size := by
          obtain ⟨cs, h1, _, _⟩ := hrow
          exact (Array.getElem?_eq_some_iff.1 h1).1
        clear hll hrow hbel hsum HT
        generalize turnB m k = tb at *
        go_wp2_with (go_at_call 7; refine (make_any _).mono ?_; rintro e w1 ⟨rfl, ht, hb⟩)
        have HT : Hid (Tab wr.heap.size w1) := ht
        have HB : Hid (Below w.heap.size w w1) := HB0.out.trans (hb.mono HB0.out.size)
        have hlt : wr.heap.size < w1.heap.size := ht.1
        have HQ : Hid (∀ w', Below w1.heap.size w1 w' → Tab wr.heap.size w') := fun w' hq => HT.out.below hlt hq
        have HRW : Hid (∀ w', Below w1.heap.size w1 w' → Row w.heap.size l w') := fun w' hq => (HR.out.below hwr hb).below (by omega) hq
        have hcv2 : ∀ w', Below w1.heap.size w1 w' → (convert 32 9 (.slice (some ⟨w.heap.size, 0, none⟩) s.size cap)).run Try.prog w' = .ok (.string ⟨l.toArray⟩) w' := fun w' hq => (HRW.out w' hq).conv s.size cap HL.out
        have HA : Hid (∀ w', Below w1.heap.size w1 w' → Calls Try.prog 6 #[] w' fun e w'' => e = .returned (.bool true) ∧ Below w1.heap.size w1 w'') :=
          fun w' hq => (awake_any w').mono fun e w'' ⟨he, hb⟩ => ⟨he, hq.trans (hb.mono hq.size)⟩
        have HC1 : Hid (∀ w', Below w1.heap.size w1 w' → Calls Try.prog 11 #[.pointer (some ⟨wr.heap.size, 0, none⟩), .string ⟨l.toArray⟩] w' fun e w'' => e = .returned (.int .u32 (more 0 l : Int)) ∧ Below w1.heap.size w1 w'') :=
          fun w' hq => (sum_any wr.heap.size ⟨l.toArray⟩ w' (HQ.out _ hq) (by rw [show (ByteArray.mk l.toArray).size = l.length from rfl, HL.out]; exact HS.out)).mono fun e w2 ⟨he, n, hg⟩ => ⟨he, by rw [hg]; exact below_drewN hq n⟩
        clear ht hb
        generalize more 0 l = A at *
        generalize hBB : more 0 s.data.toList = B at *
        have HC2 : Hid (∀ w', Below w1.heap.size w1 w' → Calls Try.prog 11 #[.pointer (some ⟨wr.heap.size, 0, none⟩), .string s] w' fun e w'' => e = .returned (.int .u32 (B : Int)) ∧ Below w1.heap.size w1 w'') :=
          fun w' hq => (sum_any wr.heap.size s w' (HQ.out _ hq) HS.out).mono fun e w2 ⟨he, n, hg⟩ => ⟨by rw [he, hBB], by rw [hg]; exact below_drewN hq n⟩
        clear hBB
        have hne : (((A : Int) != (B : Int)) == tb) = true := by
          have := HSU.out
          by_cases e : A = B
          · rw [this.1 e, e]; simp
          · cases tb with
            | false => exact absurd (this.2 rfl) e
            | true => simp; omega
        have hcw := hcv2 w1 (Below.refl _ _)
        clear hcv2
        rw [hcw]
        go_wp2_with (fail)
        refine (HC1.out _ (Below.refl _ _)).mono ?_
        rintro e w2 ⟨rfl, b2⟩
        have B2 : Hid (Below w1.heap.size w1 w2) := b2
        clear b2
        go_wp2_with (fail)
        refine (HC2.out _ B2.out).mono ?_
        rintro e w3 ⟨rfl, b3⟩
        have B3 : Hid (Below w1.heap.size w1 w3) := b3
        clear b3
        go_wp2_with (fail)
        refine (HA.out _ B3.out).mono ?_
        rintro e w4 ⟨rfl, b4⟩
        have B4 : Hid (Below w1.heap.size w1 w4) := b4
        clear b4
        go_wp2
        go_ret
        exact ⟨rfl, HB.out.trans (B4.out.mono HB.out.size)⟩
    · clear hbt
      obtain ⟨l, hll, hrow, hbel, hsum⟩ := HT.out.sums (by omega) (by omega)
      have HR : Hid (Row w.heap.size l wr) := hrow
      have HB0 : Hid (Below w.heap.size w wr) := hbel
      have HL : Hid (l.length = s.size) := hll
      have HSU : Hid (more 0 l = more 0 s.data.toList ↔ turnB m k = false) := hsum
      have hwr : w.heap.size < wr.heap.size := by
        obtain ⟨cs, h1, _, _⟩ := hrow
        exact (Array.getElem?_eq_some_iff.1 h1).1
      clear hll hrow hbel hsum HT
      generalize turnB m k = tb at *
      go_wp2_with (go_at_call 7; refine (make_any _).mono ?_; rintro e w1 ⟨rfl, ht, hb⟩)
      have HT : Hid (Tab wr.heap.size w1) := ht
      have HB : Hid (Below w.heap.size w w1) := HB0.out.trans (hb.mono HB0.out.size)
      have hlt : wr.heap.size < w1.heap.size := ht.1
      have HQ : Hid (∀ w', Below w1.heap.size w1 w' → Tab wr.heap.size w') := fun w' hq => HT.out.below hlt hq
      have HRW : Hid (∀ w', Below w1.heap.size w1 w' → Row w.heap.size l w') := fun w' hq => (HR.out.below hwr hb).below (by omega) hq
      have hcv2 : ∀ w', Below w1.heap.size w1 w' → (convert 32 9 (.slice (some ⟨w.heap.size, 0, none⟩) s.size cap)).run Try.prog w' = .ok (.string ⟨l.toArray⟩) w' := fun w' hq => (HRW.out w' hq).conv s.size cap HL.out
      have HA : Hid (∀ w', Below w1.heap.size w1 w' → Calls Try.prog 6 #[] w' fun e w'' => e = .returned (.bool true) ∧ Below w1.heap.size w1 w'') :=
        fun w' hq => (awake_any w').mono fun e w'' ⟨he, hb⟩ => ⟨he, hq.trans (hb.mono hq.size)⟩
      have HC1 : Hid (∀ w', Below w1.heap.size w1 w' → Calls Try.prog 11 #[.pointer (some ⟨wr.heap.size, 0, none⟩), .string ⟨l.toArray⟩] w' fun e w'' => e = .returned (.int .u32 (more 0 l : Int)) ∧ Below w1.heap.size w1 w'') :=
        fun w' hq => (sum_any wr.heap.size ⟨l.toArray⟩ w' (HQ.out _ hq) (by rw [show (ByteArray.mk l.toArray).size = l.length from rfl, HL.out]; exact HS.out)).mono fun e w2 ⟨he, n, hg⟩ => ⟨he, by rw [hg]; exact below_drewN hq n⟩
      clear ht hb
      generalize more 0 l = A at *
      generalize hBB : more 0 s.data.toList = B at *
      have HC2 : Hid (∀ w', Below w1.heap.size w1 w' → Calls Try.prog 11 #[.pointer (some ⟨wr.heap.size, 0, none⟩), .string s] w' fun e w'' => e = .returned (.int .u32 (B : Int)) ∧ Below w1.heap.size w1 w'') :=
        fun w' hq => (sum_any wr.heap.size s w' (HQ.out _ hq) HS.out).mono fun e w2 ⟨he, n, hg⟩ => ⟨by rw [he, hBB], by rw [hg]; exact below_drewN hq n⟩
      clear hBB
      have hne : (((A : Int) != (B : Int)) == tb) = true := by
        have := HSU.out
        by_cases e : A = B
        · rw [this.1 e, e]; simp
        · cases tb with
          | false => exact absurd (this.2 rfl) e
          | true => simp; omega
      have hcw := hcv2 w1 (Below.refl _ _)
      clear hcv2
      rw [hcw]
      go_wp2_with (fail)
      refine (HC1.out _ (Below.refl _ _)).mono ?_
      rintro e w2 ⟨rfl, b2⟩
      have B2 : Hid (Below w1.heap.size w1 w2) := b2
      clear b2
      go_wp2_with (fail)
      refine (HC2.out _ B2.out).mono ?_
      rintro e w3 ⟨rfl, b3⟩
      have B3 : Hid (Below w1.heap.size w1 w3) := b3
      clear b3
      go_wp2_with (fail)
      refine (HA.out _ B3.out).mono ?_
      rintro e w4 ⟨rfl, b4⟩
      have B4 : Hid (Below w1.heap.size w1 w4) := b4
      clear b4
      go_wp2
      go_ret
      exact ⟨rfl, HB.out.trans (B4.out.mono HB.out.size)⟩

set_option maxRecDepth 100000 in
theorem lifted (os : Os) (started : os.Started) (H : Type) (enc : TypeId × Value → H) :
    ReturnsInHanded {} Try.checked os 5 .any (Rows.crcTurnedSpec.pre6 enc Try.prog Try.f5 Rows.crcTurnedRow.domain false) (Rows.crcTurnedSpec.post enc Try.prog Try.f5 false true false false) := by
  refine returnsInHanded_of_change (C := Try.checked) own started (by kernel_rfl) Try.func5
    (ChangeSpec.witness6 (enc := enc) (C := Try.checked) false ⟨#[], #[.string ByteArray.empty, .int .u16 0, .int .u32 0], []⟩ 8 (by kernel_rfl) (by kernel_rfl) (by kernel_rfl) (by kernel_rfl)) ?_
  intro W base args ds gs before hval0 hW hcnd _
  have hval : ∀ (j : Nat) t v, Try.f5.params[j]? = some t → args[j]? = some v → Value.okWide Try.prog W .any base t v := hval0
  have hW' := hW
  obtain ⟨p, q, hA0, hV, rfl, hfz, hnd⟩ := hW
  have hA : DataW.TrodAll enc Try.prog W 0 (fun _ => true) true Try.f5.params.toList args.toList ds p := hA0
  rw [Try.params5] at hA hval
  obtain ⟨v0, vs0, d0, ds0, p0, q0, hargs, rfl, rfl, h0, r0⟩ := trodAll_cons hA
  obtain ⟨v1, vs1, d1, ds1, p1, q1, rfl, rfl, rfl, h1, r1⟩ := trodAll_cons r0
  obtain ⟨v2, vs2, d2, ds2, p2, q2, rfl, rfl, rfl, h2, r2⟩ := trodAll_cons r1
  obtain ⟨rfl, rfl, rfl⟩ := trodAll_nil r2
  obtain rfl : args = #[v0, v1, v2] := by cases args; simp_all
  obtain ⟨rfl, rfl⟩ := trodVars_none hV
  obtain ⟨s0, rfl, rfl, rfl, w0⟩ := open_string Try.underlying9 (hval 0 9 v0 rfl rfl) h0
  obtain ⟨a1, rfl, rfl, rfl, w1⟩ := open_int Try.underlying30 (hval 1 30 v1 rfl rfl) h1
  obtain ⟨a2, rfl, rfl, rfl, w2⟩ := open_int Try.underlying22 (hval 2 22 v2 rfl rfl) h2
  clear hA0 hval0
  refine (walk W s0 w0 a1 w1 a2 w2).mono fun e W' ⟨he, bel⟩ => ?_
  subst he
  exact ⟨_, rfl, _, _, _, [], _, [], hW', trodAll_mk1 (shut_bool Try.underlying4 _), (trodAll_cons_mk (shut_string Try.underlying9 w0) (trodAll_cons_mk (shut_int Try.underlying30 w1) (trodAll_cons_mk (shut_int Try.underlying22 w2) trodAll_mk0))), rfl, bel.frame _, fun h => by cases h⟩

theorem over : Rows.crcTurnedRow.holds Try.pinned (OpenSpec.ofChange Rows.crcTurnedSpec) :=
  OpenClaim.holds_of_wide 5 Try.f5 rfl rfl rfl rfl rfl rfl rfl ⟨rfl, rfl, rfl, rfl, rfl⟩ rfl rfl rfl rfl rfl (by kernel_rfl) Try.func5 (by kernel_rfl)
    (of_decide_eq_true (by kernel_rfl)) (by unfold Func.isWrapper; first | (rw [if_pos (by decide +kernel)]; kernel_rfl) | (rw [if_neg (by decide +kernel)]; exact ⟨rfl, rfl⟩))
    (fun os started H enc _ => lifted os started H enc)

/-- The statement. -/
theorem proved : Rows.CrcTurnedSaid := over
#print axioms proved
end Go.Proofs.Ytlggckfjhfbjkaa.crcTurned
