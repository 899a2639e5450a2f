/-
  The document's PutBits, PutBelow, PutDelta: what its coder codes.
-/
import Derived.Test.YtdfpmhdgebajfaaDoorU7
import Derived.Test.YtdfpmhdgebajfaaDoorW1
namespace Go.Proofs.YtdfpmhdgebajfaaDoor
open Go.ChangeShapes Go.WideShapes Go.ChangeAt Go.RowKit
set_option linter.unusedVariables false
set_option maxRecDepth 100000

theorem fit_carry {s : Co} (f : Fit s) {lo hi t : Nat} (p : IsPart lo hi t) : s.low + s.rng / t * lo ≥ 4294967296 → 0 < s.T.length := by
  intro h
  rcases Nat.eq_zero_or_pos s.T.length with h0 | h0
  · exfalso
    have e : s.T = [] := List.eq_nil_of_length_eq_zero h0
    have k := narrow_le (rng := s.rng) p
    unfold Fit big at f
    rw [e] at f
    have v0 : val [] = 0 := rfl
    rw [v0] at f
    have : (256 : Nat) ^ (([] : List UInt8).length + 4) = 4294967296 := rfl
    rw [this] at f
    omega
  · exact h0
theorem wrap64_pow (m : Nat) (h : m ≤ 31) : ∀ q : Nat, q = m → wrap64 (2 ^ q) = ((2 ^ m : Nat) : Int) := fun q e => by rw [e]; exact wrap_pow64' m h
theorem rputbits_not (c : Value) (v n : Int) (w : World) (h : okB v n = false) :
    Calls Tryd.prog 24 #[c, .int .i64 v, .int .i64 n] w fun e w' => e = .returned (.bool false) ∧ w' = w := by
  by_cases h1 : n < 0
  · clear h
    go_enter Tryd.func24, Tryd.ntmps24
    go_wp2
    go_ret
    exact ⟨rfl, rfl⟩
  · by_cases h2 : 31 < n
    · clear h
      go_enter Tryd.func24, Tryd.ntmps24
      go_wp2
      go_ret
      exact ⟨rfl, rfl⟩
    · by_cases h3 : v < 0
      · clear h
        go_enter Tryd.func24, Tryd.ntmps24
        go_wp2
        go_ret
        exact ⟨rfl, rfl⟩
      · obtain ⟨a, rfl⟩ : ∃ a : Nat, v = a := ⟨v.toNat, by omega⟩
        obtain ⟨m, rfl⟩ : ∃ m : Nat, n = m := ⟨n.toNat, by omega⟩
        have hp : 2 ^ m ≤ a := by
          rcases Nat.lt_or_ge a (2 ^ m) with h' | h'
          · exfalso
            have hp : (a : Int) < 2 ^ m := by
              have : ((a : Nat) : Int) < ((2 ^ m : Nat) : Int) := by omega
              simpa using this
            simp [okB, hp] at h
            omega
          · exact h'
        have W1 := wrap64_pow m (by omega)
        have n1 : (0 : Int) ≤ (m : Int) := by omega
        have n2 : (m : Int) ≤ 31 := by omega
        clear h h1 h2 h3
        generalize 2 ^ m = t at *
        have hp' : (t : Int) ≤ (a : Int) := by omega
        go_enter Tryd.func24, Tryd.ntmps24
        go_wp2
        go_ret
        exact ⟨rfl, rfl⟩
theorem bits_len (v : Nat) (n : Nat) (h : n ≤ 31) : (bitsP v n).length ≤ 4 := by
  have h1 : (bitsP v n).length = bK n + 1 := (bits_part v (bK n) (bR n) (bR_le n)).2
  have := bK_le n h
  omega
set_option maxHeartbeats 1000000 in
theorem rputbits_at (B r : Nat) (s : Co) (v n : Nat) (w : World) (h : DoAt B r s w) (ok : s.Ok) (ft : Fit s) (hB : B ≤ w.heap.size) (hn : n ≤ 31) (hv : v < 2 ^ n) (hl : s.T.length ≤ 1900) :
    Calls Tryd.prog 24 #[.pointer (some ⟨r, 0, none⟩), .int .i64 (v : Int), .int .i64 (n : Int)] w fun e w' => e = .returned (.bool true) ∧ DoAt B r (codesC s (bitsP v n)) w' ∧ Gr B w w' := by
  have hK := bK_le n hn
  have hR := bR_le n
  have hRK := bRK n
  have hR0 : bR n = 0 → bK n = 0 := by unfold bR bK; omega
  have HI : Hid (DoAt B r s w) := h
  have HG : Hid (codesC s (bitsP v n) = codesC s (bitsK v (bK n) (bR n))) := rfl
  have HV : Hid (v < 2 ^ n) := hv
  have HV31 : v < 2 ^ 31 := Nat.lt_of_lt_of_le hv (Nat.pow_le_pow_right (by decide) hn)
  have E31 : (2 : Nat) ^ 31 = 2147483648 := rfl
  have AND : ∀ p : Nat, bits .and .i64 ((v : Int) / 2 ^ p) 255 = ((v / 2 ^ p % 256 : Nat) : Int) := fun p => and_shr v p (by omega)
  have WP := wrap64_pow n hn
  have hv' : (v : Int) < ((2 ^ n : Nat) : Int) := by omega
  have HRK : Hid (bR n + 8 * bK n = n) := hRK
  have n0 : (0 : Int) ≤ (n : Int) := by omega
  have n31 : (n : Int) ≤ 31 := by omega
  have v0 : (0 : Int) ≤ (v : Int) := by omega
  clear h hRK hv HV31 E31
  generalize bK n = K at *
  generalize bR n = R at *
  generalize 2 ^ n = tn at *
  go_enter Tryd.func24, Tryd.ntmps24
  go_wp2
  rename_i hh _ _
  clear WP hv' hh
  go_loopw [7] (fun x wr => ∃ (k m : Nat) (q : Co), k ≤ K ∧ x = .int .i64 (m : Int) ∧ m = R + 8 * k ∧ q.Ok ∧ Fit q ∧ q.T.length + 2 * k ≤ s.T.length + 2 * K ∧ codesC q (bitsK v k R) = codesC s (bitsK v K R) ∧ DoAt B r q wr ∧ Gr B w wr) (fun x _ => (intOf x).toNat)
  case atStart => exact ⟨K, n, s, Nat.le_refl _, rfl, HRK.out.symm, ok, ft, Nat.le_refl _, rfl, HI.out, Gr.refl _ _⟩
  case round =>
    obtain ⟨k, m, q, hk, rfl, hm, okq, ftq, hq, hg, h1, f1⟩ := hrel
    have H1 : Hid (DoAt B r q wr) := h1
    have F1 : Hid (Gr B w wr) := f1
    have FT : Hid (Fit q) := ftq
    have G1 : Hid (codesC q (bitsK v k R) = codesC s (bitsK v K R)) := hg
    clear h1 f1 hg ftq
    cases k with
    | zero =>
      have q8 : (m : Int) ≤ 8 := by omega
      have q0 : (0 : Int) ≤ (m : Int) := by omega
      obtain rfl : R = m := by omega
      have G2 : Hid (codeC q (v % 2 ^ R) (v % 2 ^ R + 1) (2 ^ R) = codesC s (bitsP v n)) := G1.out.trans HG.out.symm
      by_cases hR1 : R = 0
      · subst hR1
        have G3 : Hid (q = codesC s (bitsP v n)) := by
          show q = _
          rw [← G2.out]
          have e : codeC q (v % 2 ^ 0) (v % 2 ^ 0 + 1) (2 ^ 0) = codeC q 0 1 1 := by rw [Nat.pow_zero, Nat.mod_one]
          rw [e, code_one okq]
        clear G1 G2 HG hm AND
        go_wp2
        go_ret
        exact ⟨rfl, by rw [← G3.out]; exact H1.out, F1.out⟩
      · have W1 := wrap64_pow R (by omega)
        have RM : (v : Int) % ((2 ^ R : Nat) : Int) = ((v % 2 ^ R : Nat) : Int) := by omega
        have HP : Hid (IsPart (v % 2 ^ R) (v % 2 ^ R + 1) (2 ^ R)) := ((bits_part v 0 R hR).1 (v % 2 ^ R, v % 2 ^ R + 1, 2 ^ R) (List.mem_singleton.2 rfl))
        have t1 := two_pos R
        have t2 := two_le R hR
        have t3 := Nat.mod_lt v t1
        have q1 : (0 : Int) < (R : Int) := by omega
        have HC : Hid (∀ w1, DoAt B r q w1 → B ≤ w1.heap.size → Calls Tryd.prog 44 #[.pointer (some ⟨r, 0, none⟩), .int .i64 ((v % 2 ^ R : Nat) : Int), .int .i64 (((v % 2 ^ R : Nat) : Int) + 1), .int .i64 ((2 ^ R : Nat) : Int)] w1 fun e w' => e = .returned (.tuple #[]) ∧ DoAt B r (codesC s (bitsP v n)) w' ∧ Gr B w1 w') := by
          show ∀ w1, _
          rw [← G2.out]
          exact fun w1 k1 kB => rcode_at B r q _ _ _ w1 k1 okq HP.out kB (by omega) (fit_carry FT.out HP.out)
        clear hm G1 HG G2 HP AND
        generalize v % 2 ^ R = X at *
        generalize 2 ^ R = t at *
        have t4 : (1 : Int) ≤ (t : Int) := by omega
        have t5 : (t : Int) ≤ 256 := by omega
        have x0 : (0 : Int) ≤ (X : Int) := by omega
        have x1 : (X : Int) ≤ 65536 := by omega
        go_wp2_with (fail)
        refine (HC.out _ H1.out (Nat.le_trans hB F1.out.below.size)).mono ?_
        rintro e w4 ⟨rfl, h4, f4⟩
        have H4 : Hid (DoAt B r (codesC s (bitsP v n)) w4) := h4
        have F4 : Hid (Gr B w w4) := F1.out.trans f4
        clear h4 f4
        go_wp2
        go_ret
        exact ⟨rfl, H4.out, F4.out⟩
    | succ k =>
      have q8 : (8 : Int) < (m : Int) := by omega
      have q1 : (m : Int) ≤ 31 := by have := HRK.out; have := hm; omega
      obtain ⟨p, hp⟩ : ∃ p : Nat, Hid (p = R + 8 * k) := ⟨_, rfl⟩
      have ME : (m : Int) - 8 = (p : Int) := by have := hp.out; omega
      have p0 : (0 : Int) ≤ (p : Int) := by omega
      have p1 : (p : Int) ≤ 31 := by omega
      have AN := AND p
      have t3 := Nat.mod_lt (v / 2 ^ p) (show 0 < 256 by decide)
      have HP : Hid (IsPart (v / 2 ^ p % 256) (v / 2 ^ p % 256 + 1) 256) := ⟨by decide, by decide, by omega, by omega⟩
      have G2 : Hid (codesC (codeC q (v / 2 ^ p % 256) (v / 2 ^ p % 256 + 1) 256) (bitsK v k R) = codesC s (bitsK v K R)) := by
        show _ = _
        rw [hp.out]
        exact G1.out
      have OK2 := code_ok okq HP.out
      have FT2 : Hid (Fit (codeC q (v / 2 ^ p % 256) (v / 2 ^ p % 256 + 1) 256)) := code_fit okq FT.out HP.out
      have LE2 := code_len okq HP.out
      have HC : Hid (∀ w1, DoAt B r q w1 → B ≤ w1.heap.size → Calls Tryd.prog 44 #[.pointer (some ⟨r, 0, none⟩), .int .i64 ((v / 2 ^ p % 256 : Nat) : Int), .int .i64 (((v / 2 ^ p % 256 : Nat) : Int) + 1), .int .i64 256] w1 fun e w' => e = .returned (.tuple #[]) ∧ DoAt B r (codeC q (v / 2 ^ p % 256) (v / 2 ^ p % 256 + 1) 256) w' ∧ Gr B w1 w') :=
        fun w1 k1 kB => rcode_at B r q _ _ _ w1 k1 okq HP.out kB (by omega) (fit_carry FT.out HP.out)
      clear hm G1 AND
      generalize v / 2 ^ p % 256 = X at *
      have x0 : (0 : Int) ≤ (X : Int) := by omega
      have x1 : (X : Int) ≤ 65536 := by omega
      go_wp2_with (fail)
      refine (HC.out _ H1.out (Nat.le_trans hB F1.out.below.size)).mono ?_
      rintro e w4 ⟨rfl, h4, f4⟩
      have H4 : Hid (DoAt B r (codeC q X (X + 1) 256) w4) := h4
      have F4 : Hid (Gr B w w4) := F1.out.trans f4
      clear h4 f4
      go_wp2
      go_roundw
      case rel => exact ⟨k, p, codeC q X (X + 1) 256, by omega, rfl, hp.out, OK2, FT2.out, by omega, G2.out, H4.out, F4.out⟩
      case measure => simp [intOf]; omega
theorem rputbelow_not (c : Value) (v n : Int) (w : World) (h : okW v n = false) :
    Calls Tryd.prog 25 #[c, .int .i64 v, .int .i64 n] w fun e w' => e = .returned (.bool false) ∧ w' = w := by
  by_cases h1 : n < 1
  · clear h
    go_enter Tryd.func25, Tryd.ntmps25
    go_wp2
    go_ret
    exact ⟨rfl, rfl⟩
  · by_cases h2 : 2147483648 < n
    · clear h
      go_enter Tryd.func25, Tryd.ntmps25
      go_wp2
      go_ret
      exact ⟨rfl, rfl⟩
    · by_cases h3 : v < 0
      · clear h
        go_enter Tryd.func25, Tryd.ntmps25
        go_wp2
        go_ret
        exact ⟨rfl, rfl⟩
      · have h4 : n ≤ v := by simp [okW] at h; omega
        clear h
        go_enter Tryd.func25, Tryd.ntmps25
        go_wp2
        go_ret
        exact ⟨rfl, rfl⟩
set_option maxHeartbeats 1000000 in
theorem rputbelow_at (B r : Nat) (s : Co) (v n : Nat) (w : World) (h : DoAt B r s w) (ok : s.Ok) (ft : Fit s) (hB : B ≤ w.heap.size) (h1 : 1 ≤ n) (h2 : n ≤ 2147483648) (hv : v < n) (hl : s.T.length ≤ 1800) :
    Calls Tryd.prog 25 #[.pointer (some ⟨r, 0, none⟩), .int .i64 (v : Int), .int .i64 (n : Int)] w fun e w' => e = .returned (.bool true) ∧ DoAt B r (codesC s (belowP v n)) w' ∧ Gr B w w' := by
  have HI : Hid (DoAt B r s w.drew) := h.below (below_drewN (Below.refl _ w) 1)
  have FI : Hid (Gr B w w.drew) := (Gr.refl B w).drew
  have c1 : (1 : Int) ≤ (n : Int) := by omega
  have c6 : (n : Int) ≤ 2147483648 := by omega
  have c3 : (v : Int) < (n : Int) := by omega
  have c5 : (0 : Int) ≤ (v : Int) := by omega
  have HL := rlow_any n h1 h2
  obtain ⟨s1, s2⟩ := sh_bd n h1 h2
  have SH : ((n : Int) - 1) / 2 ^ sh n = (((n - 1) / 2 ^ sh n : Nat) : Int) := by
    rw [show (n : Int) - 1 = ((n - 1 : Nat) : Int) by omega]
    simp
  have SV := shr_nat v (sh n)
  have hd : v / 2 ^ sh n ≤ (n - 1) / 2 ^ sh n := Nat.div_le_div_right (by omega)
  have HP : Hid (IsPart (v / 2 ^ sh n) (v / 2 ^ sh n + 1) ((n - 1) / 2 ^ sh n + 1)) := high_part hd s2
  have OK2 := code_ok ok HP.out
  have FT2 := code_fit ok ft HP.out
  have LE2 := code_len ok HP.out
  have W1' : Hid (∀ q : Nat, q = sh n → wrap64 (2 ^ q) = ((2 ^ sh n : Nat) : Int)) := wrap64_pow (sh n) (by omega)
  have hm := Nat.mod_lt v (two_pos (sh n))
  have t1 := two_pos (sh n)
  have t2 : 2 ^ sh n ≤ 2 ^ 24 := Nat.pow_le_pow_right (by decide) s1
  have RM' : Hid ((v : Int) % ((2 ^ sh n : Nat) : Int) = ((v % 2 ^ sh n : Nat) : Int)) := by show _ = _; omega
  have HM : Hid (∀ w1, DoAt B r (codeC s (v / 2 ^ sh n) (v / 2 ^ sh n + 1) ((n - 1) / 2 ^ sh n + 1)) w1 → B ≤ w1.heap.size → Calls Tryd.prog 24 #[.pointer (some ⟨r, 0, none⟩), .int .i64 ((v % 2 ^ sh n : Nat) : Int), .int .i64 (sh n : Int)] w1 fun e w' => e = .returned (.bool true) ∧ DoAt B r (codesC s (belowP v n)) w' ∧ Gr B w1 w') :=
    fun w1 k kB => rputbits_at B r _ (v % 2 ^ sh n) (sh n) w1 k OK2 FT2 kB (by omega) hm (Nat.le_trans LE2 (by omega))
  have HC : Hid (∀ w1, DoAt B r s w1 → B ≤ w1.heap.size → Calls Tryd.prog 44 #[.pointer (some ⟨r, 0, none⟩), .int .i64 ((v / 2 ^ sh n : Nat) : Int), .int .i64 (((v / 2 ^ sh n : Nat) : Int) + 1), .int .i64 ((((n - 1) / 2 ^ sh n : Nat) : Int) + 1)] w1 fun e w' => e = .returned (.tuple #[]) ∧ DoAt B r (codeC s (v / 2 ^ sh n) (v / 2 ^ sh n + 1) ((n - 1) / 2 ^ sh n + 1)) w' ∧ Gr B w1 w') :=
    fun w1 k kB => rcode_at B r s _ _ _ w1 k ok HP.out kB (by omega) (fit_carry ft HP.out)
  have t24 : (2 : Nat) ^ 24 = 16777216 := rfl
  rw [t24] at t2
  clear h hm t24 FT2
  generalize v % 2 ^ sh n = Y at *
  generalize v / 2 ^ sh n = X at *
  generalize (n - 1) / 2 ^ sh n = T at *
  generalize 2 ^ sh n = t at *
  have c0 : (0 : Int) ≤ (T : Int) := by omega
  have c2 : (T : Int) ≤ 4095 := by omega
  have x0 : (0 : Int) ≤ (X : Int) := by omega
  have x1 : (X : Int) ≤ 65536 := by omega
  have t4 : Hid ((1 : Int) ≤ (t : Int)) := by show (1 : Int) ≤ (t : Int); omega
  clear hd s2 t2 t1
  generalize sh n = sn at *
  have s0 : (0 : Int) ≤ (sn : Int) := by omega
  have W3 : IntKind.i64.wrap ((n : Int) - 1) = (n : Int) - 1 := by
    simp [IntKind.wrap, IntKind.signed, IntKind.bits]; omega
  have W4 : IntKind.i64.wrap ((T : Int) + 1) = (T : Int) + 1 := by
    simp [IntKind.wrap, IntKind.signed, IntKind.bits]; omega
  have W6 : IntKind.i64.wrap ((X : Int) + 1) = (X : Int) + 1 := by
    simp [IntKind.wrap, IntKind.signed, IntKind.bits]; omega
  go_enter Tryd.func25, Tryd.ntmps25
  go_wp2_with (first
    | (go_at_call 36; refine (HL _).mono ?_; rintro e w' ⟨rfl, e'⟩; obtain rfl := e'.symm))
  go_region_held3 (fun _ => True) (try trivial) (first
    | (go_at_call 44; refine (HC.out _ HI.out (Nat.le_trans hB FI.out.below.size)).mono ?_; rintro e w4 ⟨rfl, h4, f4⟩))
  have H4 : Hid (DoAt B r (codeC s X (X + 1) (T + 1)) w4) := h4
  have F4 : Hid (Gr B w w4) := FI.out.trans f4
  clear h4 f4 W3 W4 W6 SH SV HL c0 c2 c1 c3 c6 x0 x1 LE2 OK2 HC HP h1 h2 hv hl ok ft
  have RM := RM'.out
  have W1 := W1'.out
  have tp := t4.out
  go_wp2_with (fail)
  refine (HM.out _ H4.out (Nat.le_trans hB F4.out.below.size)).mono ?_
  rintro e w5 ⟨rfl, h5, f5⟩
  have H5 : Hid (DoAt B r (codesC s (belowP v n)) w5) := h5
  have F5 : Hid (Gr B w w5) := F4.out.trans f5
  clear h5 f5
  go_wp2
  go_ret
  exact ⟨rfl, H5.out, F5.out⟩
end Go.Proofs.YtdfpmhdgebajfaaDoor
