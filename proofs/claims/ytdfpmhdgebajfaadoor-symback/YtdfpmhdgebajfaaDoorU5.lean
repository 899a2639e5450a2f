/-
  sym.PutBits: what a coder codes.
-/
import Derived.Test.YtdfpmhdgebajfaaDoorU3
namespace Go.Proofs.YtdfpmhdgebajfaaDoor
open Go.ChangeShapes Go.WideShapes Go.ChangeAt Go.RowKit
set_option linter.unusedVariables false
set_option maxRecDepth 100000

theorem shr_zero (a m : Nat) (h : a < 2 ^ m) : (a : Int) / 2 ^ m = 0 := by
  have e : (a : Int) / 2 ^ m = ((a / 2 ^ m : Nat) : Int) := by simp
  rw [e, Nat.div_eq_of_lt h]; rfl
theorem shr_pos (a m : Nat) (h : 2 ^ m ≤ a) : ¬ (a : Int) / 2 ^ m = 0 := by
  have e : (a : Int) / 2 ^ m = ((a / 2 ^ m : Nat) : Int) := by simp
  rw [e]
  have := Nat.div_pos h (two_pos m)
  omega
theorem putbits_not (c : Value) (v n : Int) (w : World) (h : okB v n = false) :
    Calls Tryd.prog 23 #[c, .int .i64 v, .int .i64 n] w fun e w' => e = .returned (.bool false) ∧ w' = w := by
  cases hb : bitsB n with
  | false =>
    go_enter Tryd.func23, Tryd.ntmps23
    go_wp2_with (go_at_call 31; refine (arebits_any n _).mono ?_; rintro e w' ⟨rfl, rfl⟩; rw [hb])
    go_ret
    exact ⟨rfl, rfl⟩
  | true =>
    by_cases hv : v < 0
    · clear h
      go_enter Tryd.func23, Tryd.ntmps23
      go_wp2_with (go_at_call 31; refine (arebits_any n _).mono ?_; rintro e w' ⟨rfl, rfl⟩; rw [hb])
      go_ret
      exact ⟨rfl, rfl⟩
    · obtain ⟨n1, n2⟩ := bitsB_yes hb
      obtain ⟨a, rfl⟩ : ∃ a : Nat, v = a := ⟨v.toNat, by omega⟩
      obtain ⟨m, rfl⟩ : ∃ m : Nat, n = m := ⟨n.toNat, by omega⟩
      have hp : 2 ^ m ≤ a := by
        rcases Nat.lt_or_ge a (2 ^ m) with h' | h'
        · exfalso
          have hp : (a : Int) < 2 ^ m := by
            have : ((a : Nat) : Int) < ((2 ^ m : Nat) : Int) := by omega
            simpa using this
          simp [okB, hp] at h
          omega
        · exact h'
      have SH : ((a : Int) / 2 ^ m != 0) = true := by simpa using shr_pos a m hp
      clear h hp
      go_enter Tryd.func23, Tryd.ntmps23
      go_wp2_with (go_at_call 31; refine (arebits_any _ _).mono ?_; rintro e w' ⟨rfl, rfl⟩; rw [hb])
      go_ret
      exact ⟨rfl, rfl⟩
theorem wrap_pow64 (m : Nat) (h : m ≤ 31) : wrap64 (2 ^ m : Int) = ((2 ^ m : Nat) : Int) := by
  rw [← wrap_pow m h]
  unfold wrap64; exact (IntKind.wrap_i64 _).symm
theorem and_i64 (a b : Nat) (ha : a < 4611686018427387904) (hb : b < 4611686018427387904) : bits .and .i64 (a : Int) (b : Int) = ((a &&& b : Nat) : Int) := by
  have h1 : (BitVec.ofInt 64 (a : Int)).toNat = a := by
    rw [BitVec.ofInt_natCast, BitVec.toNat_ofNat]; exact Nat.mod_eq_of_lt (by omega)
  have h2 : (BitVec.ofInt 64 (b : Int)).toNat = b := by
    rw [BitVec.ofInt_natCast, BitVec.toNat_ofNat]; exact Nat.mod_eq_of_lt (by omega)
  have h3 : a &&& b < 2 ^ 62 := Nat.and_lt_two_pow _ hb
  show IntKind.i64.wrap ((BitVec.ofInt 64 (a : Int) &&& BitVec.ofInt 64 (b : Int)).toNat : Int) = _
  rw [BitVec.toNat_and, h1, h2]
  generalize a &&& b = c at *
  simp [IntKind.wrap, IntKind.signed, IntKind.bits]
  omega
theorem and_mask (a r : Nat) (ha : a < 4611686018427387904) (hr : r ≤ 31) : bits .and .i64 (a : Int) (((2 ^ r : Nat) : Int) - 1) = ((a % 2 ^ r : Nat) : Int) := by
  have h0 := two_pos r
  have h1 : 2 ^ r ≤ 2 ^ 31 := Nat.pow_le_pow_right (by decide) hr
  have h2 : (2 : Nat) ^ 31 = 2147483648 := rfl
  rw [show (((2 ^ r : Nat) : Int) - 1) = ((2 ^ r - 1 : Nat) : Int) by omega, and_i64 _ _ ha (by omega), Nat.and_two_pow_sub_one_eq_mod]
theorem and_shr (a p : Nat) (ha : a < 4611686018427387904) : bits .and .i64 ((a : Int) / 2 ^ p) 255 = ((a / 2 ^ p % 256 : Nat) : Int) := by
  have h := and_255 (a / 2 ^ p) (by have := Nat.div_le_self a (2 ^ p); omega)
  rw [← h]
  congr 1
set_option maxHeartbeats 1000000 in
theorem putbits_at (B g : Nat) (s : Co) (v n : Nat) (w : World) (h : CoAt B g s w) (ok : s.Ok) (hB : B ≤ w.heap.size) (hn : n ≤ 31) (hv : v < 2 ^ n) (hl : s.T.length ≤ 1900) :
    Calls Tryd.prog 23 #[.pointer (some ⟨g, 0, none⟩), .int .i64 (v : Int), .int .i64 (n : Int)] w fun e w' => e = .returned (.bool true) ∧ CoAt B g (codesC s (bitsP v n)) w' ∧ Fr B w w' := by
  have HB : Hid (bitsB (n : Int) = true) := by show bitsB _ = _; simp [bitsB]; omega
  have hK := bK_le n hn
  have hR := bR_le n
  have hRK := bRK n
  have hR0 : bR n = 0 → bK n = 0 := by unfold bR bK; omega
  have HI : Hid (CoAt B g s w) := h
  have HG : Hid (codesC s (bitsP v n) = codesC s (bitsK v (bK n) (bR n))) := rfl
  have SH := shr_zero v n hv
  have HV : Hid (v < 2 ^ n) := hv
  have HV31 : Hid (v < 2147483648) := by
    show v < _
    have h1 : 2 ^ n ≤ 2 ^ 31 := Nat.pow_le_pow_right (by decide) hn
    exact Nat.lt_of_lt_of_le hv h1
  have HRK : Hid (bR n + 8 * bK n = n) := hRK
  clear h hRK hv
  generalize bK n = K at *
  generalize bR n = R at *
  go_enter Tryd.func23, Tryd.ntmps23
  go_wp2_with (go_at_call 31; refine (arebits_any _ _).mono ?_; rintro e w' ⟨rfl, e'⟩; obtain rfl := e'.symm; rw [HB.out])
  go_loopw [2] (fun x wr => ∃ (k m : Nat) (q : Co), k ≤ K ∧ x = .int .i64 (m : Int) ∧ m = R + 8 * k ∧ q.Ok ∧ q.T.length + 2 * k ≤ s.T.length + 2 * K ∧ codesC q (bitsK v k R) = codesC s (bitsK v K R) ∧ CoAt B g q wr ∧ Fr B w wr) (fun x _ => (intOf x).toNat)
  case atStart => exact ⟨K, n, s, Nat.le_refl _, rfl, HRK.out.symm, ok, Nat.le_refl _, rfl, HI.out, Fr.refl _ _⟩
  case round =>
    obtain ⟨k, m, q, hk, rfl, hm, okq, hq, hg, h1, f1⟩ := hrel
    have H1 : Hid (CoAt B g q wr) := h1
    have F1 : Hid (Fr B w wr) := f1
    have G1 : Hid (codesC q (bitsK v k R) = codesC s (bitsK v K R)) := hg
    clear h1 f1 hg SH
    cases k with
    | zero =>
      have q8 : (m : Int) ≤ 8 := by omega
      have q0 : (0 : Int) ≤ (m : Int) := by omega
      obtain rfl : R = m := by omega
      have W1 : wrap64 (2 ^ R) = ((2 ^ R : Nat) : Int) := wrap_pow64 R (by omega)
      have AN := and_mask v R (by have := HV31.out; omega) (by omega)
      have HP : Hid (IsPart (v % 2 ^ R) (v % 2 ^ R + 1) (2 ^ R)) := ((bits_part v 0 R hR).1 (v % 2 ^ R, v % 2 ^ R + 1, 2 ^ R) (List.mem_singleton.2 rfl))
      have G2 : Hid (codeC q (v % 2 ^ R) (v % 2 ^ R + 1) (2 ^ R) = codesC s (bitsP v n)) := G1.out.trans HG.out.symm
      have t1 := two_pos R
      have t2 := two_le R hR
      have t3 := Nat.mod_lt v t1
      clear hm G1 HG
      generalize v % 2 ^ R = X at *
      generalize 2 ^ R = t at *
      have t4 : (1 : Int) ≤ (t : Int) := by omega
      have t5 : (t : Int) ≤ 256 := by omega
      have x0 : (0 : Int) ≤ (X : Int) := by omega
      have x1 : (X : Int) ≤ 65536 := by omega
      go_wp2_with (fail)
      refine (even_any (t : Int) _).mono ?_
      rintro e w2 ⟨rfl, c2, b2⟩
      have C2 : Hid (w2.cell? ⟨wr.heap.size, 0, none⟩ = some (.int .i64 (t : Int))) := c2
      have H2 : Hid (CoAt B g q w2) := H1.out.below b2
      have F2 : Hid (Fr B w w2) := F1.out.trans (Fr.of_below b2 (Nat.le_trans hB F1.out.below.size))
      clear H1 F1 c2 b2
      go_wp2_with (fail)
      refine (even1_at _ (t : Int) (X : Int) _ C2.out x0 x1).mono ?_
      rintro e w3 ⟨rfl, b3⟩
      have H3 : Hid (CoAt B g q w3) := H2.out.below b3
      have F3 : Hid (Fr B w w3) := F2.out.trans (Fr.of_below b3 (Nat.le_trans hB F2.out.below.size))
      clear H2 F2 C2 b3
      go_wp2_with (fail)
      refine (code_at B g q X (X + 1) t _ H3.out okq HP.out (Nat.le_trans hB F3.out.below.size) (by omega)).mono ?_
      rintro e w4 ⟨rfl, h4, f4⟩
      rw [G2.out] at h4
      have H4 : Hid (CoAt B g (codesC s (bitsP v n)) w4) := h4
      have F4 : Hid (Fr B w w4) := F3.out.trans f4
      clear h4 f4 H3 F3
      go_wp2
      go_ret
      exact ⟨rfl, H4.out, F4.out⟩
    | succ k =>
      have q8 : (8 : Int) < (m : Int) := by omega
      have q1 : (m : Int) ≤ 31 := by have := HRK.out; have := hm; omega
      obtain ⟨p, hp⟩ : ∃ p : Nat, Hid (p = R + 8 * k) := ⟨_, rfl⟩
      have ME : Hid ((m : Int) - 8 = (p : Int)) := by show _ = _; have := hp.out; omega
      have p0 : (0 : Int) ≤ (p : Int) := by omega
      have p1 : (p : Int) ≤ 31 := by have := ME.out; omega
      have AN := and_shr v p (by have := HV31.out; omega)
      have t3 := Nat.mod_lt (v / 2 ^ p) (show 0 < 256 by decide)
      have HP : Hid (IsPart (v / 2 ^ p % 256) (v / 2 ^ p % 256 + 1) 256) := ⟨by decide, by decide, by omega, by omega⟩
      have G2 : Hid (codesC (codeC q (v / 2 ^ p % 256) (v / 2 ^ p % 256 + 1) 256) (bitsK v k R) = codesC s (bitsK v K R)) := by
        show _ = _
        rw [hp.out]
        exact G1.out
      have OK2 := code_ok okq HP.out
      have LE2 := code_len okq HP.out
      clear hm G1
      generalize v / 2 ^ p % 256 = X at *
      have x0 : (0 : Int) ≤ (X : Int) := by omega
      have x1 : (X : Int) ≤ 65536 := by omega
      have H1d : Hid (CoAt B g q wr.drew) := H1.out.below (below_drewN (Below.refl _ wr) 1)
      have F1d : Hid (Fr B w wr.drew) := F1.out.drew
      clear H1 F1
      go_wp2_with (fail)
      rw [ME.out]
      go_region_held3 (fun _ => True) (try trivial) (first
        | (go_at_call 43; refine (even_any 256 _).mono ?_; rintro e w2 ⟨rfl, c2, b2⟩)
        | (go_at_call 60; refine (even1_at _ 256 (X : Int) _ c2 x0 x1).mono ?_; rintro e w3 ⟨rfl, b3⟩)
        | (go_at_call 42; refine (code_at B g q X (X + 1) 256 _ ((H1d.out.below b2).below b3) okq HP.out (Nat.le_trans hB (Nat.le_trans F1d.out.below.size (Nat.le_trans b2.size b3.size))) (by omega)).mono ?_; rintro e w4 ⟨rfl, h4, f4⟩))
      have H4 : Hid (CoAt B g (codeC q X (X + 1) 256) w4) := h4
      have F4 : Hid (Fr B w w4) := ((F1d.out.trans (Fr.of_below b2 (Nat.le_trans hB F1d.out.below.size))).trans (Fr.of_below b3 (Nat.le_trans hB (Nat.le_trans F1d.out.below.size b2.size)))).trans f4
      clear h4 f4 b2 b3 c2
      go_wp2
      go_roundw
      case rel => exact ⟨k, p, codeC q X (X + 1) 256, by omega, rfl, hp.out, OK2, by omega, G2.out, H4.out, F4.out⟩
      case measure => have := ME.out; simp [intOf]; omega
end Go.Proofs.YtdfpmhdgebajfaaDoor
