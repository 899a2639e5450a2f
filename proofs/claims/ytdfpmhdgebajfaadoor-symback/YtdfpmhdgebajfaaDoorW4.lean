/-
  The document's PutDelta; an item coded, by the program and by the document.
-/
import Derived.Test.YtdfpmhdgebajfaaDoorW3
namespace Go.Proofs.YtdfpmhdgebajfaaDoor
open Go.ChangeShapes Go.WideShapes Go.ChangeAt Go.RowKit
set_option linter.unusedVariables false
set_option maxRecDepth 100000

theorem edge_lt {j : Nat} (h : j < 7) : edge j < 56 := by
  have : j = 0 ∨ j = 1 ∨ j = 2 ∨ j = 3 ∨ j = 4 ∨ j = 5 ∨ j = 6 := by omega
  rcases this with rfl | rfl | rfl | rfl | rfl | rfl | rfl <;> decide
theorem rputdelta_not (c : Value) (v : Int) (w : World) (h : okD v = false) :
    Calls Tryd.prog 26 #[c, .int .i64 v] w fun e w' => e = .returned (.bool false) ∧ w' = w := by
  by_cases h1 : v < -67
  · clear h
    go_enter Tryd.func26, Tryd.ntmps26
    go_wp2
    go_ret
    exact ⟨rfl, rfl⟩
  · have h2 : 67 < v := by simp [okD] at h; omega
    clear h
    go_enter Tryd.func26, Tryd.ntmps26
    go_wp2
    go_ret
    exact ⟨rfl, rfl⟩
set_option maxHeartbeats 1000000 in
theorem rputdelta_at (B r : Nat) (s : Co) (v : Int) (w : World) (h : DoAt B r s w) (ok : s.Ok) (ft : Fit s) (hB : B ≤ w.heap.size) (hv : okD v = true) (hl : s.T.length ≤ 1700) :
    Calls Tryd.prog 26 #[.pointer (some ⟨r, 0, none⟩), .int .i64 v] w fun e w' => e = .returned (.bool true) ∧ DoAt B r (codesC s (deltaP v)) w' ∧ Gr B w w' := by
  obtain ⟨v1, v2⟩ := okD_bd hv
  have HI : Hid (DoAt B r s w) := h
  have RS := rsmall_any v
  have HP := edge_step (plV v) (plV_le v)
  have HC : Hid (∀ w1, DoAt B r s w1 → B ≤ w1.heap.size → Calls Tryd.prog 44 #[.pointer (some ⟨r, 0, none⟩), .int .i64 (edge (plV v) : Int), .int .i64 (edge (plV v + 1) : Int), .int .i64 64] w1 fun e w' => e = .returned (.tuple #[]) ∧ DoAt B r (codeC s (edge (plV v)) (edge (plV v + 1)) 64) w' ∧ Gr B w1 w') :=
    fun w1 k1 kB => rcode_at B r s _ _ _ w1 k1 ok HP kB (by omega) (fit_carry ft HP)
  clear h
  by_cases hj : plV v < 7
  · have DS : Hid (codeC s (edge (plV v)) (edge (plV v + 1)) 64 = codesC s (deltaP v)) := by show _ = _; unfold deltaP; rw [if_pos hj]; rfl
    have hlo : (edge (plV v) : Int) < 56 := by have := edge_lt hj; omega
    rw [DS.out] at HC
    clear HP DS hj hv
    generalize edge (plV v) = lo at *
    generalize edge (plV v + 1) = hi at *
    go_enter Tryd.func26, Tryd.ntmps26
    go_wp2_with (go_at_call 39; refine (RS _).mono ?_; rintro e w' ⟨rfl, e'⟩; obtain rfl := e'.symm)
    refine (HC.out _ HI.out hB).mono ?_
    rintro e w4 ⟨rfl, i4, f4⟩
    have I4 : Hid (DoAt B r (codesC s (deltaP v)) w4) := i4
    have F4 : Hid (Gr B w w4) := f4
    clear i4 f4
    go_wp2
    go_ret
    exact ⟨rfl, I4.out, F4.out⟩
  · have e7 : plV v = 7 := by have := plV_le v; omega
    have h4 := plV_far hj
    have DS : Hid (codesC s (deltaP v) = codesC (codesC (codeC s 56 64 64) (bitsP (aboveN v) 1)) (belowP (farN v) 64)) := by
      show _ = _
      unfold deltaP
      rw [if_neg hj, codes_cons, codes_append, e7]
      rfl
    rw [e7] at HP HC RS
    have OK1 : (codeC s 56 64 64).Ok := code_ok ok HP
    have FT1 : Fit (codeC s 56 64 64) := code_fit ok ft HP
    have LE1 : (codeC s 56 64 64).T.length ≤ s.T.length + 2 := code_len ok HP
    have BP := bits_part (aboveN v) (bK 1) (bR 1) (bR_le _)
    have OK2 := (codes_ok (bitsP (aboveN v) 1) OK1 BP.1).1
    have FT2 := codes_fit (bitsP (aboveN v) 1) OK1 FT1 BP.1
    have LE2 := (codes_ok (bitsP (aboveN v) 1) OK1 BP.1).2
    have LE3 : (bitsP (aboveN v) 1).length = 1 := BP.2
    have hf : farN v < 64 := by unfold farN; omega
    have av : aboveN v < 2 ^ 1 := by unfold aboveN; split <;> decide
    have HA : Hid (∀ w1, DoAt B r (codeC s 56 64 64) w1 → B ≤ w1.heap.size → Calls Tryd.prog 24 #[.pointer (some ⟨r, 0, none⟩), .int .i64 (aboveN v : Int), .int .i64 1] w1 fun e w' => e = .returned (.bool true) ∧ DoAt B r (codesC (codeC s 56 64 64) (bitsP (aboveN v) 1)) w' ∧ Gr B w1 w') :=
      fun w1 k kB => rputbits_at B r _ (aboveN v) 1 w1 k OK1 FT1 kB (by decide) av (by omega)
    have HM : Hid (∀ w1, DoAt B r (codesC (codeC s 56 64 64) (bitsP (aboveN v) 1)) w1 → B ≤ w1.heap.size → Calls Tryd.prog 25 #[.pointer (some ⟨r, 0, none⟩), .int .i64 (farN v : Int), .int .i64 64] w1 fun e w' => e = .returned (.bool true) ∧ DoAt B r (codesC s (deltaP v)) w' ∧ Gr B w1 w') := by
      show ∀ w1, _
      rw [DS.out]
      exact fun w1 k kB => rputbelow_at B r _ (farN v) 64 w1 k OK2 FT2 kB (by decide) (by decide) hf (by rw [LE3] at LE2; exact Nat.le_trans LE2 (by omega))
    have RS' : Hid (∀ w : World, Calls Tryd.prog 39 #[.int .i64 v] w fun e w' => e = .returned (.tuple #[.int .i64 56, .int .i64 64]) ∧ w' = w) := RS
    have HC' : Hid (∀ w1, DoAt B r s w1 → B ≤ w1.heap.size → Calls Tryd.prog 44 #[.pointer (some ⟨r, 0, none⟩), .int .i64 56, .int .i64 64, .int .i64 64] w1 fun e w' => e = .returned (.tuple #[]) ∧ DoAt B r (codeC s 56 64 64) w' ∧ Gr B w1 w') := HC.out
    clear OK1 LE1 BP OK2 LE2 LE3 av DS hf FT1 FT2 HP HC RS e7 hj hv
    by_cases hp : 0 < v
    · have EA : Hid ((aboveN v : Int) = 1) := by show _ = _; unfold aboveN; rw [if_pos hp]; rfl
      have EF : Hid (v - 4 = (farN v : Int)) := by show _ = _; unfold farN; omega
      rw [EA.out] at HA
      rw [← EF.out] at HM
      clear EA EF
      go_enter Tryd.func26, Tryd.ntmps26
      go_wp2_with (go_at_call 39; refine (RS'.out _).mono ?_; rintro e w' ⟨rfl, e'⟩; obtain rfl := e'.symm)
      refine (HC'.out _ HI.out hB).mono ?_
      rintro e w4 ⟨rfl, i4, f4⟩
      have I4 : Hid (DoAt B r (codeC s 56 64 64) w4) := i4
      have F4 : Hid (Gr B w w4) := f4
      have B4 : Hid (B ≤ w4.heap.size) := Nat.le_trans hB f4.below.size
      clear i4 f4
      go_wp2_with (fail)
      refine (HA.out _ I4.out B4.out).mono ?_
      rintro e w5 ⟨rfl, i5, f5⟩
      have I5 : Hid (DoAt B r (codesC (codeC s 56 64 64) (bitsP (aboveN v) 1)) w5) := i5
      have F5 : Hid (Gr B w w5) := F4.out.trans f5
      have B5 : Hid (B ≤ w5.heap.size) := Nat.le_trans B4.out f5.below.size
      clear i5 f5 I4 F4 B4
      go_wp2_with (fail)
      refine (HM.out _ I5.out B5.out).mono ?_
      rintro e w6 ⟨rfl, i6, f6⟩
      go_wp2
      go_ret
      exact ⟨rfl, i6, F5.out.trans f6⟩
    · have EA : Hid ((aboveN v : Int) = 0) := by show _ = _; unfold aboveN; rw [if_neg hp]; rfl
      have EF : Hid (-v - 4 = (farN v : Int)) := by show _ = _; unfold farN; omega
      rw [EA.out] at HA
      rw [← EF.out] at HM
      clear EA EF
      go_enter Tryd.func26, Tryd.ntmps26
      go_wp2_with (go_at_call 39; refine (RS'.out _).mono ?_; rintro e w' ⟨rfl, e'⟩; obtain rfl := e'.symm)
      refine (HC'.out _ HI.out hB).mono ?_
      rintro e w4 ⟨rfl, i4, f4⟩
      have I4 : Hid (DoAt B r (codeC s 56 64 64) w4) := i4
      have F4 : Hid (Gr B w w4) := f4
      have B4 : Hid (B ≤ w4.heap.size) := Nat.le_trans hB f4.below.size
      clear i4 f4
      go_wp2_with (fail)
      refine (HA.out _ I4.out B4.out).mono ?_
      rintro e w5 ⟨rfl, i5, f5⟩
      have I5 : Hid (DoAt B r (codesC (codeC s 56 64 64) (bitsP (aboveN v) 1)) w5) := i5
      have F5 : Hid (Gr B w w5) := F4.out.trans f5
      have B5 : Hid (B ≤ w5.heap.size) := Nat.le_trans B4.out f5.below.size
      clear i5 f5 I4 F4 B4
      go_wp2_with (fail)
      refine (HM.out _ I5.out B5.out).mono ?_
      rintro e w6 ⟨rfl, i6, f6⟩
      go_wp2
      go_ret
      exact ⟨rfl, i6, F5.out.trans f6⟩

/-- A coder's state behind an item. -/
def stI (s : Co) (X : Int × Int × Int) : Co := if okI X then codesC s (partsI X) else s
theorem stI_ok {s : Co} (ok : s.Ok) (ft : Fit s) (X : Int × Int × Int) : (stI s X).Ok ∧ Fit (stI s X) ∧ (stI s X).T.length ≤ s.T.length + 12 := by
  unfold stI
  cases h : okI X with
  | false => exact ⟨ok, ft, by simp⟩
  | true =>
    have p := items_part h
    have c := codes_ok (partsI X) ok p.1
    exact ⟨c.1, codes_fit (partsI X) ok ft p.1, by have := c.2; have := p.2; simp only [if_true]; omega⟩
/-- An item, as a value. -/
def itemV (X : Int × Int × Int) : Value := .agg #[.int .i64 X.1, .int .i64 X.2.1, .int .i64 X.2.2]
set_option maxHeartbeats 1000000 in
theorem iput_at (B g : Nat) (s : Co) (X : Int × Int × Int) (w : World) (h : CoAt B g s w) (ok : s.Ok) (ht : Tab w) (hB : B ≤ w.heap.size) (hl : s.T.length ≤ 1600) :
    Calls Tryd.prog 7 #[.pointer (some ⟨g, 0, none⟩), itemV X] w fun e w' => e = .returned (.bool (okI X)) ∧ CoAt B g (stI s X) w' ∧ Fr B w w' := by
  obtain ⟨K, v, n⟩ := X
  show Calls Tryd.prog 7 #[.pointer (some ⟨g, 0, none⟩), .agg #[.int .i64 K, .int .i64 v, .int .i64 n]] w _
  have H1 : Hid (CoAt B g s (w.alloc (.cells #[.int .i64 K, .int .i64 v, .int .i64 n] 40))) := h.below ((Below.refl _ w).alloc (Nat.le_refl _) _)
  have F1 : Hid (Fr B w (w.alloc (.cells #[.int .i64 K, .int .i64 v, .int .i64 n] 40))) := (Fr.refl B w).alloc hB _
  have B1 : Hid (B ≤ (w.alloc (.cells #[.int .i64 K, .int .i64 v, .int .i64 n] 40)).heap.size) := Nat.le_trans hB F1.out.below.size
  have T1 : Hid (Tab (w.alloc (.cells #[.int .i64 K, .int .i64 v, .int .i64 n] 40))) := ht.below ((Below.refl _ w).alloc (Nat.le_refl _) _)
  clear h
  by_cases h0 : K = 0
  · subst h0
    have EI : okI (0, v, n) = okB v n := rfl
    rw [EI]
    cases hb : okB v n with
    | false =>
      have ES : stI s (0, v, n) = s := by unfold stI; rw [EI, hb]; rfl
      rw [ES]
      go_enter Tryd.func7, Tryd.ntmps7
      go_wp2_with (go_at_call 23; refine (putbits_not _ v n _ hb).mono ?_; rintro e w' ⟨rfl, e'⟩; obtain rfl := e'.symm)
      go_ret
      exact ⟨rfl, H1.out, F1.out⟩
    | true =>
      have ES : stI s (0, v, n) = codesC s (bitsP v.toNat n.toNat) := by unfold stI; rw [EI, hb]; rfl
      rw [ES]
      obtain ⟨a, b, rfl, rfl, b31, ab⟩ := okB_nat hb
      simp only [Int.toNat_natCast]
      go_enter Tryd.func7, Tryd.ntmps7
      go_wp2_with (go_at_call 23; refine (putbits_at B g s a b _ H1.out ok B1.out b31 ab (by omega)).mono ?_; rintro e w' ⟨rfl, i4, f4⟩)
      go_ret
      exact ⟨rfl, i4, F1.out.trans f4⟩
  · by_cases h1 : K = 1
    · subst h1
      have EI : okI (1, v, n) = okW v n := rfl
      rw [EI]
      cases hb : okW v n with
      | false =>
        have ES : stI s (1, v, n) = s := by unfold stI; rw [EI, hb]; rfl
        rw [ES]
        go_enter Tryd.func7, Tryd.ntmps7
        go_wp2_with (go_at_call 22; refine (putbelow_not _ v n _ hb).mono ?_; rintro e w' ⟨rfl, e'⟩; obtain rfl := e'.symm)
        go_ret
        exact ⟨rfl, H1.out, F1.out⟩
      | true =>
        have ES : stI s (1, v, n) = codesC s (belowP v.toNat n.toNat) := by unfold stI; rw [EI, hb]; rfl
        rw [ES]
        obtain ⟨a, b, rfl, rfl, b1, b2, ab⟩ := okW_nat hb
        simp only [Int.toNat_natCast]
        go_enter Tryd.func7, Tryd.ntmps7
        go_wp2_with (go_at_call 22; refine (putbelow_at B g s a b _ H1.out ok B1.out b1 b2 ab (by omega)).mono ?_; rintro e w' ⟨rfl, i4, f4⟩)
        go_ret
        exact ⟨rfl, i4, F1.out.trans f4⟩
    · have EI : okI (K, v, n) = okD v := by show (if K = 0 then _ else if K = 1 then _ else _) = _; rw [if_neg h0, if_neg h1]
      have EP : partsI (K, v, n) = deltaP v := by show (if K = 0 then _ else if K = 1 then _ else _) = _; rw [if_neg h0, if_neg h1]
      rw [EI]
      cases hb : okD v with
      | false =>
        have ES : stI s (K, v, n) = s := by unfold stI; rw [EI, hb]; rfl
        rw [ES]
        clear EI EP ES
        go_enter Tryd.func7, Tryd.ntmps7
        go_wp2_with (go_at_call 21; refine (putdelta_not _ v _ hb).mono ?_; rintro e w' ⟨rfl, e'⟩; obtain rfl := e'.symm)
        go_ret
        exact ⟨rfl, H1.out, F1.out⟩
      | true =>
        have ES : stI s (K, v, n) = codesC s (deltaP v) := by unfold stI; rw [EI, hb, EP]; rfl
        rw [ES]
        clear EI EP ES
        go_enter Tryd.func7, Tryd.ntmps7
        go_wp2_with (go_at_call 21; refine (putdelta_at B g s v _ H1.out ok B1.out T1.out hb (by omega)).mono ?_; rintro e w' ⟨rfl, i4, f4⟩)
        go_ret
        exact ⟨rfl, i4, F1.out.trans f4⟩
set_option maxHeartbeats 1000000 in
theorem irput_at (B g : Nat) (s : Co) (X : Int × Int × Int) (w : World) (h : DoAt B g s w) (ok : s.Ok) (ft : Fit s) (hB : B ≤ w.heap.size) (hl : s.T.length ≤ 1600) :
    Calls Tryd.prog 8 #[.pointer (some ⟨g, 0, none⟩), itemV X] w fun e w' => e = .returned (.bool (okI X)) ∧ DoAt B g (stI s X) w' ∧ Gr B w w' := by
  obtain ⟨K, v, n⟩ := X
  show Calls Tryd.prog 8 #[.pointer (some ⟨g, 0, none⟩), .agg #[.int .i64 K, .int .i64 v, .int .i64 n]] w _
  have H1 : Hid (DoAt B g s (w.alloc (.cells #[.int .i64 K, .int .i64 v, .int .i64 n] 40))) := h.below ((Below.refl _ w).alloc (Nat.le_refl _) _)
  have F1 : Hid (Gr B w (w.alloc (.cells #[.int .i64 K, .int .i64 v, .int .i64 n] 40))) := (Gr.refl B w).alloc hB _
  have B1 : Hid (B ≤ (w.alloc (.cells #[.int .i64 K, .int .i64 v, .int .i64 n] 40)).heap.size) := Nat.le_trans hB F1.out.below.size
  clear h
  by_cases h0 : K = 0
  · subst h0
    have EI : okI (0, v, n) = okB v n := rfl
    rw [EI]
    cases hb : okB v n with
    | false =>
      have ES : stI s (0, v, n) = s := by unfold stI; rw [EI, hb]; rfl
      rw [ES]
      go_enter Tryd.func8, Tryd.ntmps8
      go_wp2_with (go_at_call 24; refine (rputbits_not _ v n _ hb).mono ?_; rintro e w' ⟨rfl, e'⟩; obtain rfl := e'.symm)
      go_ret
      exact ⟨rfl, H1.out, F1.out⟩
    | true =>
      have ES : stI s (0, v, n) = codesC s (bitsP v.toNat n.toNat) := by unfold stI; rw [EI, hb]; rfl
      rw [ES]
      obtain ⟨a, b, rfl, rfl, b31, ab⟩ := okB_nat hb
      simp only [Int.toNat_natCast]
      go_enter Tryd.func8, Tryd.ntmps8
      go_wp2_with (go_at_call 24; refine (rputbits_at B g s a b _ H1.out ok ft B1.out b31 ab (by omega)).mono ?_; rintro e w' ⟨rfl, i4, f4⟩)
      go_ret
      exact ⟨rfl, i4, F1.out.trans f4⟩
  · by_cases h1 : K = 1
    · subst h1
      have EI : okI (1, v, n) = okW v n := rfl
      rw [EI]
      cases hb : okW v n with
      | false =>
        have ES : stI s (1, v, n) = s := by unfold stI; rw [EI, hb]; rfl
        rw [ES]
        go_enter Tryd.func8, Tryd.ntmps8
        go_wp2_with (go_at_call 25; refine (rputbelow_not _ v n _ hb).mono ?_; rintro e w' ⟨rfl, e'⟩; obtain rfl := e'.symm)
        go_ret
        exact ⟨rfl, H1.out, F1.out⟩
      | true =>
        have ES : stI s (1, v, n) = codesC s (belowP v.toNat n.toNat) := by unfold stI; rw [EI, hb]; rfl
        rw [ES]
        obtain ⟨a, b, rfl, rfl, b1, b2, ab⟩ := okW_nat hb
        simp only [Int.toNat_natCast]
        go_enter Tryd.func8, Tryd.ntmps8
        go_wp2_with (go_at_call 25; refine (rputbelow_at B g s a b _ H1.out ok ft B1.out b1 b2 ab (by omega)).mono ?_; rintro e w' ⟨rfl, i4, f4⟩)
        go_ret
        exact ⟨rfl, i4, F1.out.trans f4⟩
    · have EI : okI (K, v, n) = okD v := by show (if K = 0 then _ else if K = 1 then _ else _) = _; rw [if_neg h0, if_neg h1]
      have EP : partsI (K, v, n) = deltaP v := by show (if K = 0 then _ else if K = 1 then _ else _) = _; rw [if_neg h0, if_neg h1]
      rw [EI]
      cases hb : okD v with
      | false =>
        have ES : stI s (K, v, n) = s := by unfold stI; rw [EI, hb]; rfl
        rw [ES]
        clear EI EP ES
        go_enter Tryd.func8, Tryd.ntmps8
        go_wp2_with (go_at_call 26; refine (rputdelta_not _ v _ hb).mono ?_; rintro e w' ⟨rfl, e'⟩; obtain rfl := e'.symm)
        go_ret
        exact ⟨rfl, H1.out, F1.out⟩
      | true =>
        have ES : stI s (K, v, n) = codesC s (deltaP v) := by unfold stI; rw [EI, hb, EP]; rfl
        rw [ES]
        clear EI EP ES
        go_enter Tryd.func8, Tryd.ntmps8
        go_wp2_with (go_at_call 26; refine (rputdelta_at B g s v _ H1.out ok ft B1.out hb (by omega)).mono ?_; rintro e w' ⟨rfl, i4, f4⟩)
        go_ret
        exact ⟨rfl, i4, F1.out.trans f4⟩
end Go.Proofs.YtdfpmhdgebajfaaDoor
