/-
  sym.PutBelow: what a coder codes.
-/
import Derived.Test.YtdfpmhdgebajfaaDoorU5
namespace Go.Proofs.YtdfpmhdgebajfaaDoor
open Go.ChangeShapes Go.WideShapes Go.ChangeAt Go.RowKit
set_option linter.unusedVariables false
set_option maxRecDepth 100000

theorem putbelow_not (c : Value) (v n : Int) (w : World) (h : okW v n = false) :
    Calls Tryd.prog 22 #[c, .int .i64 v, .int .i64 n] w fun e w' => e = .returned (.bool false) ∧ w' = w := by
  cases hb : boundB n with
  | false =>
    go_enter Tryd.func22, Tryd.ntmps22
    go_wp2_with (go_at_call 34; refine (isbound_any n _).mono ?_; rintro e w' ⟨rfl, rfl⟩; rw [hb])
    go_ret
    exact ⟨rfl, rfl⟩
  | true =>
    by_cases hv : v < 0
    · clear h
      go_enter Tryd.func22, Tryd.ntmps22
      go_wp2_with (go_at_call 34; refine (isbound_any n _).mono ?_; rintro e w' ⟨rfl, rfl⟩; rw [hb])
      go_ret
      exact ⟨rfl, rfl⟩
    · have hn : n ≤ v := by
        obtain ⟨n1, n2⟩ := boundB_yes hb
        simp [okW] at h
        omega
      clear h
      go_enter Tryd.func22, Tryd.ntmps22
      go_wp2_with (go_at_call 34; refine (isbound_any _ _).mono ?_; rintro e w' ⟨rfl, rfl⟩; rw [hb])
      go_ret
      exact ⟨rfl, rfl⟩
theorem shr_nat (a s : Nat) : (a : Int) / 2 ^ s = ((a / 2 ^ s : Nat) : Int) := by simp
set_option maxHeartbeats 1000000 in
theorem putbelow_at (B g : Nat) (s : Co) (v n : Nat) (w : World) (h : CoAt B g s w) (ok : s.Ok) (hB : B ≤ w.heap.size) (h1 : 1 ≤ n) (h2 : n ≤ 2147483648) (hv : v < n) (hl : s.T.length ≤ 1800) :
    Calls Tryd.prog 22 #[.pointer (some ⟨g, 0, none⟩), .int .i64 (v : Int), .int .i64 (n : Int)] w fun e w' => e = .returned (.bool true) ∧ CoAt B g (codesC s (belowP v n)) w' ∧ Fr B w w' := by
  have HB : Hid (boundB (n : Int) = true) := by show boundB _ = _; simp [boundB]; omega
  have HI : Hid (CoAt B g s w.drew) := h.below (below_drewN (Below.refl _ w) 1)
  have FI : Hid (Fr B w w.drew) := (Fr.refl B w).drew
  have c1 : (1 : Int) ≤ (n : Int) := by omega
  have c3 : (v : Int) < (n : Int) := by omega
  have c4 : ¬ (n : Int) ≤ (v : Int) := by omega
  have c5 : ¬ (v : Int) < 0 := by omega
  have HL := low_any n h1 h2
  obtain ⟨s1, s2⟩ := sh_bd n h1 h2
  have SH : ((n : Int) - 1) / 2 ^ sh n = (((n - 1) / 2 ^ sh n : Nat) : Int) := by
    rw [show (n : Int) - 1 = ((n - 1 : Nat) : Int) by omega]
    simp
  have SV := shr_nat v (sh n)
  have hd : v / 2 ^ sh n ≤ (n - 1) / 2 ^ sh n := Nat.div_le_div_right (by omega)
  have HP : Hid (IsPart (v / 2 ^ sh n) (v / 2 ^ sh n + 1) ((n - 1) / 2 ^ sh n + 1)) := high_part hd s2
  have OK2 := code_ok ok HP.out
  have LE2 := code_len ok HP.out
  have W1 : wrap64 (2 ^ sh n) = ((2 ^ sh n : Nat) : Int) := wrap_pow64 (sh n) (by omega)
  have AN := and_mask v (sh n) (by omega) (by omega)
  have hm := Nat.mod_lt v (two_pos (sh n))
  have t1 := two_pos (sh n)
  have t2 : 2 ^ sh n ≤ 2 ^ 24 := Nat.pow_le_pow_right (by decide) s1
  have HM : Hid (∀ w1, CoAt B g (codeC s (v / 2 ^ sh n) (v / 2 ^ sh n + 1) ((n - 1) / 2 ^ sh n + 1)) w1 → B ≤ w1.heap.size → Calls Tryd.prog 23 #[.pointer (some ⟨g, 0, none⟩), .int .i64 ((v % 2 ^ sh n : Nat) : Int), .int .i64 (sh n : Int)] w1 fun e w' => e = .returned (.bool true) ∧ CoAt B g (codesC s (belowP v n)) w' ∧ Fr B w1 w') :=
    fun w1 k kB => putbits_at B g _ (v % 2 ^ sh n) (sh n) w1 k OK2 kB (by omega) hm (Nat.le_trans LE2 (by omega))
  have t24 : (2 : Nat) ^ 24 = 16777216 := rfl
  rw [t24] at t2
  clear h hm t24
  generalize v % 2 ^ sh n = Y at *
  generalize v / 2 ^ sh n = X at *
  generalize (n - 1) / 2 ^ sh n = T at *
  generalize 2 ^ sh n = t at *
  have c0 : (0 : Int) ≤ (T : Int) := by omega
  have c2 : (T : Int) ≤ 4095 := by omega
  have x0 : (0 : Int) ≤ (X : Int) := by omega
  have x1 : (X : Int) ≤ 65536 := by omega
  have t4 : (1 : Int) ≤ (t : Int) := by omega
  have t5 : (t : Int) ≤ 16777216 := by omega
  clear hd s2 t2 t1
  generalize sh n = sn at *
  have s0 : (0 : Int) ≤ (sn : Int) := by omega
  have W3 : IntKind.i64.wrap ((n : Int) - 1) = (n : Int) - 1 := by
    simp [IntKind.wrap, IntKind.signed, IntKind.bits]; omega
  have W4 : IntKind.i64.wrap ((T : Int) + 1) = (T : Int) + 1 := by
    simp [IntKind.wrap, IntKind.signed, IntKind.bits]; omega
  have W1' : Hid (wrap64 (2 ^ sn) = (t : Int)) := W1
  have AN' : Hid (bits .and .i64 (v : Int) ((t : Int) - 1) = (Y : Int)) := AN
  clear AN W1
  go_enter Tryd.func22, Tryd.ntmps22
  go_wp2_with (first
    | (go_at_call 34; refine (isbound_any _ _).mono ?_; rintro e w' ⟨rfl, e'⟩; obtain rfl := e'.symm; rw [HB.out])
    | (go_at_call 35; refine (HL _).mono ?_; rintro e w' ⟨rfl, e'⟩; obtain rfl := e'.symm))
  have HC : Hid (∀ w1, CoAt B g s w1 → B ≤ w1.heap.size → Calls Tryd.prog 42 #[.pointer (some ⟨g, 0, none⟩), .int .i64 (X : Int), .int .i64 ((X : Int) + 1), .int .i64 ((T : Int) + 1)] w1 fun e w' => e = .returned (.tuple #[]) ∧ CoAt B g (codeC s X (X + 1) (T + 1)) w' ∧ Fr B w1 w') :=
    fun w1 k kB => code_at B g s X (X + 1) (T + 1) w1 k ok HP.out kB (by omega)
  go_region_held3 (fun _ => True) (try trivial) (first
    | (go_at_call 43; refine (even_any ((T : Int) + 1) _).mono ?_; rintro e w2 ⟨rfl, k2, b2⟩)
    | (go_at_call 60; refine (even1_at _ ((T : Int) + 1) (X : Int) _ k2 x0 x1).mono ?_; rintro e w3 ⟨rfl, b3⟩)
    | (go_at_call 42; refine (HC.out _ ((HI.out.below b2).below b3) (Nat.le_trans hB (Nat.le_trans FI.out.below.size (Nat.le_trans b2.size b3.size)))).mono ?_; rintro e w4 ⟨rfl, h4, f4⟩))
  have H4 : Hid (CoAt B g (codeC s X (X + 1) (T + 1)) w4) := h4
  have F4 : Hid (Fr B w w4) := ((FI.out.trans (Fr.of_below b2 (Nat.le_trans hB FI.out.below.size))).trans (Fr.of_below b3 (Nat.le_trans hB (Nat.le_trans FI.out.below.size b2.size)))).trans f4
  clear h4 f4 b2 b3 k2 W3 W4 SH SV HL c0 c2 c1 c3 c4 c5 x0 x1 LE2 OK2 HC HP HB h1 h2 hv hl ok
  have AN := AN'.out
  have W1 : ∀ m : Nat, m = sn → wrap64 (2 ^ m) = (t : Int) := fun m e => by rw [e]; exact W1'.out
  go_wp2_with (fail)
  refine (HM.out _ H4.out (Nat.le_trans hB F4.out.below.size)).mono ?_
  rintro e w5 ⟨rfl, h5, f5⟩
  have H5 : Hid (CoAt B g (codesC s (belowP v n)) w5) := h5
  have F5 : Hid (Fr B w w5) := F4.out.trans f5
  clear h5 f5
  go_wp2
  go_ret
  exact ⟨rfl, H5.out, F5.out⟩
end Go.Proofs.YtdfpmhdgebajfaaDoor
