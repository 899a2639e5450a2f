/-
  The document's slope, Block, Left and Right.
-/
import Derived.Test.YtfhcfdepjhdhfaaDoorZL
import Derived.Test.YtfhcfdepjhdhfaaDoorZA
namespace Go.Proofs.YtfhcfdepjhdhfaaDoor
open Go.ChangeShapes Go.WideShapes Go.ChangeAt Go.RowKit
set_option linter.unusedVariables false

/-- The document's slope: a new row. -/
theorem rW_any (w : World) : Calls Tryd.prog 37 #[] w fun e w' => e = .returned (.slice (some ⟨w.heap.size, 0, none⟩) 8 8) ∧ w' = w.alloc (.cells (rowA 8 wF) 3) := by
  go_enter Tryd.func37, Tryd.ntmps37
  go_wp2
  go_ret
  exact ⟨rfl, rfl⟩
theorem rblock_any (a : Option Addr) (n cap : Nat) (X : Nat → Int) (hl : n ≤ 1000) (w : World) (h : IsInts w a n cap X) :
    Calls Tryd.prog 53 #[.slice a n cap] w fun e w' => e = .returned (.bool (blk30 X n)) ∧ w' = w := by
  have K2 := hid (rwithin_g (-1073741824) 1073741824 a n cap X hl w h)
  clear h
  by_cases h8 : n = 8
  · subst h8
    go_enter Tryd.func53, Tryd.ntmps53
    go_wp2_with (go_at_call 29; (with_reducible refine K2.out.mono ?_); rintro e w1 ⟨rfl, rfl⟩)
    go_ret
    exact ⟨ret_bool (by simp [blk30]), rfl⟩
  · have h8' : (((n : Nat) : Int) == 8) = false := by simp; omega
    by_cases h64 : n = 64
    · subst h64
      go_enter Tryd.func53, Tryd.ntmps53
      go_wp2_with (go_at_call 29; (with_reducible refine K2.out.mono ?_); rintro e w1 ⟨rfl, rfl⟩)
      go_ret
      exact ⟨ret_bool (by simp [blk30]), rfl⟩
    · have h64' : (((n : Nat) : Int) == 64) = false := by simp; omega
      have hb : blk30 X n = false := by simp [blk30, h8, h64]
      rw [hb]
      go_enter Tryd.func53, Tryd.ntmps53
      go_wp2
      go_ret
      exact ⟨rfl, rfl⟩
/-- Two arrays of one's own beside the document's slope. -/
structure TwinW (B r q v : Nat) (Z X : Nat → Int) (w0 w : World) : Prop where
  t : Twin B r q Z X w0 w
  ne : v ≠ q
  s : RowAt v 8 wF w
theorem TwinW.set {B r q v : Nat} {Z X Y : Nat → Int} {w0 w : World} (h : TwinW B r q v Z X w0 w) {j : Nat} (hj : j < 8) (x : Int) (e : ∀ i, upd X j x i = Y i) : TwinW B r q v Z Y w0 (w.setCell ⟨q, j, none⟩ (.int .i64 x)) :=
  ⟨(h.t.set hj x).congr fun i _ => e i, h.ne, IsAt.other h.s h.ne _⟩
theorem TwinW.drew {B r q v : Nat} {Z X : Nat → Int} {w0 w : World} (h : TwinW B r q v Z X w0 w) : TwinW B r q v Z X w0 w.drew := ⟨h.t.drew, h.ne, h.s⟩
theorem TwinW.tr {B r q v : Nat} {Z X : Nat → Int} {w0 w w' : World} (h : TwinW B r q v Z X w0 w) (hb : Below w.heap.size w w') : TwinW B r q v Z X w0 w' := ⟨h.t.tr hb, h.ne, h.s.below hb⟩
theorem Twin.slope {B r q : Nat} {Z X : Nat → Int} {w0 w : World} (h : Twin B r q Z X w0 w) : TwinW B r q w.heap.size Z X w0 (w.alloc (.cells (rowA 8 wF) 3)) :=
  ⟨h.tr ((Below.refl _ w).alloc (Nat.le_refl _) _), Nat.ne_of_gt h.b.lt, al_new w _⟩
theorem rleft_yes (n : Nat) (hn : n = 8 ∨ n = 64) (a : Option Addr) (cap : Nat) (X : Nat → Int) (hX : Fit30 X n) (w : World) (h : IsInts w a n cap X) :
    Calls Tryd.prog 32 #[.slice a n cap] w fun e w' => e = .returned (arr8 (wLeftF X)) ∧ Below w.heap.size w w' := by
  have K1 : Hid (∀ W, Below w.heap.size w W → Calls Tryd.prog 53 #[.slice a n cap] W fun e w' => e = .returned (.bool true) ∧ w' = W) := fun W hW => by
    have := rblock_any a n cap X (by omega) W (h.below hW)
    rwa [blk30_iff.2 ⟨hn, hX⟩] at this
  obtain ⟨b, off, rfl, hc⟩ := h.cells (by omega)
  obtain ⟨B, hB, HT⟩ : ∃ B, B = w.heap.size ∧ Hid (Twin B w.heap.size (w.heap.size + 1) (fun _ => 0) (fun _ => 0) w ((w.alloc (.cells #[Value.int .i64 0, Value.int .i64 0, Value.int .i64 0, Value.int .i64 0, Value.int .i64 0, Value.int .i64 0, Value.int .i64 0, Value.int .i64 0] 22)).alloc (.cells #[Value.int .i64 0, Value.int .i64 0, Value.int .i64 0, Value.int .i64 0, Value.int .i64 0, Value.int .i64 0, Value.int .i64 0, Value.int .i64 0] 22))) := ⟨_, rfl, made_twin w⟩
  rw [← hB] at hc K1
  have HB := hid hB
  have HC := hid hc
  have HX := hid hX
  clear hc h hB hX
  go_enter Tryd.func32, Tryd.ntmps32
  go_wp2_with (go_at_call 53; (with_reducible refine (K1.out _ HT.out.bel).mono ?_); rintro e w1 ⟨rfl, rfl⟩)
  refine (rW_any _).mono ?_
  rintro e w1 ⟨rfl, rfl⟩
  generalize ((w.alloc (.cells #[Value.int .i64 0, Value.int .i64 0, Value.int .i64 0, Value.int .i64 0, Value.int .i64 0, Value.int .i64 0, Value.int .i64 0, Value.int .i64 0] 22)).alloc (.cells #[Value.int .i64 0, Value.int .i64 0, Value.int .i64 0, Value.int .i64 0, Value.int .i64 0, Value.int .i64 0, Value.int .i64 0, Value.int .i64 0] 22)) = W0 at HT ⊢
  have HT := hid HT.out.slope
  generalize W0.alloc (.cells (rowA 8 wF) 3) = W at HT ⊢
  generalize W0.heap.size = v at HT ⊢
  generalize w.heap.size + 1 = q at HT ⊢
  generalize w.heap.size = r at HT ⊢
  go_wp2
  go_loopw [5] (fun i wr => ∃ k : Nat, k ≤ 8 ∧ i = .int .i64 k ∧ Hid (TwinW B r q v (fun _ => 0) (upto k (wLeftF X)) w wr)) (fun i _ => 8 - (intOf i).toNat)
  case atStart => exact ⟨0, Nat.zero_le _, rfl, HT⟩
  case round =>
    clear HT
    obtain ⟨k, hk, rfl, HT⟩ := hrel
    by_cases hlt : k < 8
    · have HN := hid (HT.out.set hlt (wLeftF X k) (upto_next (wLeftF X)))
      have hs := HT.out.s.get hlt
      have hcq := HT.out.t.b.get hlt
      have hfq := HT.out.t.b.frozen k
      by_cases h4 : k < 4
      · have hcx := HC.out _ HT.out.t.bel (3 - k) (by omega)
        have m1 : wrap64 (wF k * X (3 - k)) = wF k * X (3 - k) := wwr_in (by have bx := HX.out (3 - k) (by omega); have bv := wF_bd k; have := mul_bd' bv.1 bv.2 bx.1 bx.2; omega)
        have HN' : Hid (TwinW B r q v (fun _ => 0) (upto (k + 1) (wLeftF X)) w (wr.setCell ⟨q, k, none⟩ (.int .i64 (wF k * X (3 - k))))) := by
          have := HN.out
          rw [show wLeftF X k = wF k * X (3 - k) by rw [wLeftF, if_pos h4]] at this
          exact this
        have hij : (3 : Int) - (k : Int) = ((3 - k : Nat) : Int) := by omega
        have hz : 3 - k < n := by omega
        clear HN
        generalize 3 - k = z at *
        generalize X z = x at *
        generalize wF k = s at *
        go_wp2
        go_region
        have HZ := hid HN'.out.drew
        generalize (wr.setCell ⟨q, k, none⟩ (.int .i64 (s * x))).drew = W2 at HZ ⊢
        go_wp2
        exact ⟨⟨k + 1, by omega, by go_num, HZ⟩, by simp [intOf]; omega⟩
      · have hcx := HC.out _ HT.out.t.bel (k - 4) (by omega)
        have m1 : wrap64 (wF k * X (k - 4)) = wF k * X (k - 4) := wwr_in (by have bx := HX.out (k - 4) (by omega); have bv := wF_bd k; have := mul_bd' bv.1 bv.2 bx.1 bx.2; omega)
        have HN' : Hid (TwinW B r q v (fun _ => 0) (upto (k + 1) (wLeftF X)) w (wr.setCell ⟨q, k, none⟩ (.int .i64 (wF k * X (k - 4))))) := by
          have := HN.out
          rw [show wLeftF X k = wF k * X (k - 4) by rw [wLeftF, if_neg h4]] at this
          exact this
        have hij : (k : Int) - 4 = ((k - 4 : Nat) : Int) := by omega
        have hz : k - 4 < n := by omega
        clear HN
        generalize k - 4 = z at *
        generalize X z = x at *
        generalize wF k = s at *
        go_wp2
        go_region
        have HZ := hid HN'.out.drew
        generalize (wr.setCell ⟨q, k, none⟩ (.int .i64 (s * x))).drew = W2 at HZ ⊢
        go_wp2
        exact ⟨⟨k + 1, by omega, by go_num, HZ⟩, by simp [intOf]; omega⟩
    · obtain rfl : k = 8 := by omega
      have HL := HT.out.t.last
      go_wp2_with (first | (refine wp_load8 rfl rfl rfl HT.out.t.b ?_) | (refine wp_store8 rfl rfl rfl rfl HT.out.t.a ?_))
      refine bodyPost_ret (ret8 rfl _ rfl HL.1) rfl ⟨by rw [arr8_congr (upto_all (wLeftF X))], ?_⟩
      rw [← HB.out]; exact HL.2
theorem rleft_no (n : Nat) (a : Option Addr) (cap : Nat) (X : Nat → Int) (hl : n ≤ 1000) (hX : blk30 X n = false) (w : World) (h : IsInts w a n cap X) :
    Calls Tryd.prog 32 #[.slice a n cap] w fun e w' => e = .returned (arr8 fun _ => 0) ∧ Below w.heap.size w w' := by
  have K1 : Hid (∀ W, Below w.heap.size w W → Calls Tryd.prog 53 #[.slice a n cap] W fun e w' => e = .returned (.bool false) ∧ w' = W) := fun W hW => by
    have := rblock_any a n cap X hl W (h.below hW)
    rwa [hX] at this
  obtain ⟨B, hB, HT⟩ : ∃ B, B = w.heap.size ∧ Hid (Twin B w.heap.size (w.heap.size + 1) (fun _ => 0) (fun _ => 0) w ((w.alloc (.cells #[Value.int .i64 0, Value.int .i64 0, Value.int .i64 0, Value.int .i64 0, Value.int .i64 0, Value.int .i64 0, Value.int .i64 0, Value.int .i64 0] 22)).alloc (.cells #[Value.int .i64 0, Value.int .i64 0, Value.int .i64 0, Value.int .i64 0, Value.int .i64 0, Value.int .i64 0, Value.int .i64 0, Value.int .i64 0] 22))) := ⟨_, rfl, made_twin w⟩
  rw [← hB] at K1
  have HB := hid hB
  have HL := HT.out.last
  clear h hB hX
  go_enter Tryd.func32, Tryd.ntmps32
  go_wp2_with (first
    | (go_at_call 53; (with_reducible refine (K1.out _ HT.out.bel).mono ?_); rintro e w1 ⟨rfl, rfl⟩)
    | (refine wp_load8 rfl rfl rfl HT.out.b ?_) | (refine wp_store8 rfl rfl rfl rfl HT.out.a ?_))
  refine bodyPost_ret (ret8 rfl _ rfl HL.1) rfl ⟨rfl, ?_⟩
  have e := HL.2; rw [HB.out] at e; exact e
end Go.Proofs.YtfhcfdepjhdhfaaDoor
/-
  The document's Right.
-/
namespace Go.Proofs.YtfhcfdepjhdhfaaDoor
open Go.ChangeShapes Go.WideShapes Go.ChangeAt Go.RowKit
set_option linter.unusedVariables false

theorem rright_yes (n : Nat) (hn : n = 8 ∨ n = 64) (a : Option Addr) (cap : Nat) (X : Nat → Int) (hX : Fit30 X n) (w : World) (h : IsInts w a n cap X) :
    Calls Tryd.prog 34 #[.slice a n cap] w fun e w' => e = .returned (arr8 (wRightF n X)) ∧ Below w.heap.size w w' := by
  have K1 : Hid (∀ W, Below w.heap.size w W → Calls Tryd.prog 53 #[.slice a n cap] W fun e w' => e = .returned (.bool true) ∧ w' = W) := fun W hW => by
    have := rblock_any a n cap X (by omega) W (h.below hW)
    rwa [blk30_iff.2 ⟨hn, hX⟩] at this
  obtain ⟨b, off, rfl, hc⟩ := h.cells (by omega)
  obtain ⟨B, hB, HT⟩ : ∃ B, B = w.heap.size ∧ Hid (Twin B w.heap.size (w.heap.size + 1) (fun _ => 0) (fun _ => 0) w ((w.alloc (.cells #[Value.int .i64 0, Value.int .i64 0, Value.int .i64 0, Value.int .i64 0, Value.int .i64 0, Value.int .i64 0, Value.int .i64 0, Value.int .i64 0] 22)).alloc (.cells #[Value.int .i64 0, Value.int .i64 0, Value.int .i64 0, Value.int .i64 0, Value.int .i64 0, Value.int .i64 0, Value.int .i64 0, Value.int .i64 0] 22))) := ⟨_, rfl, made_twin w⟩
  rw [← hB] at hc K1
  have HB := hid hB
  have HC := hid hc
  have HX := hid hX
  clear hc h hB hX
  go_enter Tryd.func34, Tryd.ntmps34
  go_wp2_with (go_at_call 53; (with_reducible refine (K1.out _ HT.out.bel).mono ?_); rintro e w1 ⟨rfl, rfl⟩)
  refine (rW_any _).mono ?_
  rintro e w1 ⟨rfl, rfl⟩
  generalize ((w.alloc (.cells #[Value.int .i64 0, Value.int .i64 0, Value.int .i64 0, Value.int .i64 0, Value.int .i64 0, Value.int .i64 0, Value.int .i64 0, Value.int .i64 0] 22)).alloc (.cells #[Value.int .i64 0, Value.int .i64 0, Value.int .i64 0, Value.int .i64 0, Value.int .i64 0, Value.int .i64 0, Value.int .i64 0, Value.int .i64 0] 22)) = W0 at HT ⊢
  have HT := hid HT.out.slope
  generalize W0.alloc (.cells (rowA 8 wF) 3) = W at HT ⊢
  generalize W0.heap.size = v at HT ⊢
  generalize w.heap.size + 1 = q at HT ⊢
  generalize w.heap.size = r at HT ⊢
  go_wp2
  go_loopw [5] (fun i wr => ∃ k : Nat, k ≤ 8 ∧ i = .int .i64 k ∧ Hid (TwinW B r q v (fun _ => 0) (upto k (wRightF n X)) w wr)) (fun i _ => 8 - (intOf i).toNat)
  case atStart => exact ⟨0, Nat.zero_le _, rfl, HT⟩
  case round =>
    clear HT
    obtain ⟨k, hk, rfl, HT⟩ := hrel
    by_cases hlt : k < 8
    · have HN := hid (HT.out.set hlt (wRightF n X k) (upto_next (wRightF n X)))
      have hcq := HT.out.t.b.get hlt
      have hfq := HT.out.t.b.frozen k
      by_cases h4 : k < 4
      · have hs := HT.out.s.get (j := 7 - k) (by omega)
        have hcx := HC.out _ HT.out.t.bel (n - 4 + k) (by omega)
        have m1 : wrap64 (wF (7 - k) * X (n - 4 + k)) = wF (7 - k) * X (n - 4 + k) := wwr_in (by have bx := HX.out (n - 4 + k) (by omega); have bv := wF_bd (7 - k); have := mul_bd' bv.1 bv.2 bx.1 bx.2; omega)
        have HN' : Hid (TwinW B r q v (fun _ => 0) (upto (k + 1) (wRightF n X)) w (wr.setCell ⟨q, k, none⟩ (.int .i64 (wF (7 - k) * X (n - 4 + k))))) := by
          have := HN.out
          rw [show wRightF n X k = wF (7 - k) * X (n - 4 + k) by rw [wRightF, if_pos h4]] at this
          exact this
        have hij : (7 : Int) - (k : Int) = ((7 - k : Nat) : Int) := by omega
        have hzj : (n : Int) - 4 + (k : Int) = ((n - 4 + k : Nat) : Int) := by omega
        have hz : n - 4 + k < n := by omega
        have hu : 7 - k < 8 := by omega
        clear HN
        generalize n - 4 + k = z at *
        generalize X z = x at *
        generalize wF (7 - k) = s at *
        generalize 7 - k = u at *
        go_wp2
        go_region
        have HZ := hid HN'.out.drew
        generalize (wr.setCell ⟨q, k, none⟩ (.int .i64 (s * x))).drew = W2 at HZ ⊢
        go_wp2
        exact ⟨⟨k + 1, by omega, by go_num, HZ⟩, by simp [intOf]; omega⟩
      · have hs := HT.out.s.get (j := 7 - k) (by omega)
        have hcx := HC.out _ HT.out.t.bel (n + 3 - k) (by omega)
        have m0 : wrap64 (-wF (7 - k)) = -wF (7 - k) := wwr_in (by have bv := wF_bd (7 - k); omega)
        have m1 : wrap64 (-wF (7 - k) * X (n + 3 - k)) = -wF (7 - k) * X (n + 3 - k) := wwr_in (by have bx := HX.out (n + 3 - k) (by omega); have bv := wF_bd (7 - k); have := mul_bd' bv.1 bv.2 bx.1 bx.2; rw [Int.neg_mul]; omega)
        have HN' : Hid (TwinW B r q v (fun _ => 0) (upto (k + 1) (wRightF n X)) w (wr.setCell ⟨q, k, none⟩ (.int .i64 (-wF (7 - k) * X (n + 3 - k))))) := by
          have := HN.out
          rw [show wRightF n X k = -wF (7 - k) * X (n + 3 - k) by rw [wRightF, if_neg h4]] at this
          exact this
        have hij : (7 : Int) - (k : Int) = ((7 - k : Nat) : Int) := by omega
        have hzj : (n : Int) + 3 - (k : Int) = ((n + 3 - k : Nat) : Int) := by omega
        have hz : n + 3 - k < n := by omega
        have hu : 7 - k < 8 := by omega
        clear HN
        generalize n + 3 - k = z at *
        generalize X z = x at *
        generalize wF (7 - k) = s at *
        generalize 7 - k = u at *
        go_wp2
        go_region
        have HZ := hid HN'.out.drew
        generalize (wr.setCell ⟨q, k, none⟩ (.int .i64 (-s * x))).drew = W2 at HZ ⊢
        go_wp2
        exact ⟨⟨k + 1, by omega, by go_num, HZ⟩, by simp [intOf]; omega⟩
    · obtain rfl : k = 8 := by omega
      have HL := HT.out.t.last
      go_wp2_with (first | (refine wp_load8 rfl rfl rfl HT.out.t.b ?_) | (refine wp_store8 rfl rfl rfl rfl HT.out.t.a ?_))
      refine bodyPost_ret (ret8 rfl _ rfl HL.1) rfl ⟨by rw [arr8_congr (upto_all (wRightF n X))], ?_⟩
      rw [← HB.out]; exact HL.2
theorem rright_no (n : Nat) (a : Option Addr) (cap : Nat) (X : Nat → Int) (hl : n ≤ 1000) (hX : blk30 X n = false) (w : World) (h : IsInts w a n cap X) :
    Calls Tryd.prog 34 #[.slice a n cap] w fun e w' => e = .returned (arr8 fun _ => 0) ∧ Below w.heap.size w w' := by
  have K1 : Hid (∀ W, Below w.heap.size w W → Calls Tryd.prog 53 #[.slice a n cap] W fun e w' => e = .returned (.bool false) ∧ w' = W) := fun W hW => by
    have := rblock_any a n cap X hl W (h.below hW)
    rwa [hX] at this
  obtain ⟨B, hB, HT⟩ : ∃ B, B = w.heap.size ∧ Hid (Twin B w.heap.size (w.heap.size + 1) (fun _ => 0) (fun _ => 0) w ((w.alloc (.cells #[Value.int .i64 0, Value.int .i64 0, Value.int .i64 0, Value.int .i64 0, Value.int .i64 0, Value.int .i64 0, Value.int .i64 0, Value.int .i64 0] 22)).alloc (.cells #[Value.int .i64 0, Value.int .i64 0, Value.int .i64 0, Value.int .i64 0, Value.int .i64 0, Value.int .i64 0, Value.int .i64 0, Value.int .i64 0] 22))) := ⟨_, rfl, made_twin w⟩
  rw [← hB] at K1
  have HB := hid hB
  have HL := HT.out.last
  clear h hB hX
  go_enter Tryd.func34, Tryd.ntmps34
  go_wp2_with (first
    | (go_at_call 53; (with_reducible refine (K1.out _ HT.out.bel).mono ?_); rintro e w1 ⟨rfl, rfl⟩)
    | (refine wp_load8 rfl rfl rfl HT.out.b ?_) | (refine wp_store8 rfl rfl rfl rfl HT.out.a ?_))
  refine bodyPost_ret (ret8 rfl _ rfl HL.1) rfl ⟨rfl, ?_⟩
  have e := HL.2; rw [HB.out] at e; exact e
end Go.Proofs.YtfhcfdepjhdhfaaDoor
/-
  The document's Meet.
-/
namespace Go.Proofs.YtfhcfdepjhdhfaaDoor
open Go.ChangeShapes Go.WideShapes Go.ChangeAt Go.RowKit
set_option linter.unusedVariables false

theorem rmeet_any (L R : Nat → Int) (w : World) :
    Calls Tryd.prog 31 #[arr8 L, arr8 R] w fun e w' => e = .returned (arr8 fun j => wMeetF (L j) (R j)) ∧ Below w.heap.size w w' := by
  obtain ⟨w2, hw⟩ : ∃ w2, w2 = (w.alloc (.cells (rowA 8 L) 22)).alloc (.cells (rowA 8 R) 22) := ⟨_, rfl⟩
  have hq := made_quad L R w w2 hw
  have HQ := hid hq.1
  have HE := hid hq.2
  have hw' := hid hw
  clear hq hw
  go_enter Tryd.func31, Tryd.ntmps31
  go_wp2
  have hw := hw'.out
  clear hw'
  rw [← hw]
  clear hw
  obtain ⟨B, hB⟩ : ∃ B, B = w.heap.size + 1 + 1 := ⟨_, rfl⟩
  generalize (w2.alloc (.cells #[Value.int .i64 0, Value.int .i64 0, Value.int .i64 0, Value.int .i64 0, Value.int .i64 0, Value.int .i64 0, Value.int .i64 0, Value.int .i64 0] 22)).alloc (.cells #[Value.int .i64 0, Value.int .i64 0, Value.int .i64 0, Value.int .i64 0, Value.int .i64 0, Value.int .i64 0, Value.int .i64 0, Value.int .i64 0] 22) = W at HQ ⊢
  generalize w.heap.size + 1 + 1 + 1 = q at HQ ⊢
  rw [← hB] at HE
  have HQ' : Hid (Quad B w.heap.size (w.heap.size + 1) (w.heap.size + 1 + 1) q L R (fun _ => 0) (fun _ => 0) w2 W) := by rw [hB]; exact HQ
  clear HQ hB
  have HQ := HQ'
  clear HQ'
  generalize w.heap.size + 1 + 1 = r at HQ ⊢
  generalize w.heap.size + 1 = lb at HQ ⊢
  generalize hla : w.heap.size = la at HQ ⊢
  have HLA := hid hla
  clear hla
  go_loopw [6] (fun i wr => ∃ k : Nat, k ≤ 8 ∧ i = .int .i64 k ∧ Hid (Quad B la lb r q L R (fun _ => 0) (upto k fun j => wMeetF (L j) (R j)) w2 wr)) (fun i _ => 8 - (intOf i).toNat)
  case atStart => exact ⟨0, Nat.zero_le _, rfl, HQ⟩
  case round =>
    clear HQ
    obtain ⟨k, hk, rfl, HQ⟩ := hrel
    by_cases hlt : k < 8
    · have hcl := HQ.out.lc _ HQ.out.t.bel k hlt
      have hcr := HQ.out.rc _ HQ.out.t.bel k hlt
      have HY : Hid (∀ i, upd (upto k fun j => wMeetF (L j) (R j)) k (wMeetF (L k) (R k)) i = upto (k + 1) (fun j => wMeetF (L j) (R j)) i) := fun i => upto_next (fun j => wMeetF (L j) (R j)) i
      obtain ⟨x, hx⟩ : ∃ x, L k = x := ⟨_, rfl⟩
      obtain ⟨y, hy⟩ : ∃ y, R k = y := ⟨_, rfl⟩
      rw [hx] at hcl HY
      rw [hy] at hcr HY
      have HX1 := hid hx
      have HX2 := hid hy
      clear hx hy
      by_cases hin : in46 x y = true
      · have HM : Hid (wMeetF x y = shrF (x + y) 15) := by
          obtain ⟨u1, u2, u3, u4⟩ := in46_iff.1 hin
          show wMeetF x y = _
          rw [meetF_in hin, shr_sh15 (by omega) (by omega)]
        obtain ⟨u1, u2, u3, u4⟩ := in46_iff.1 hin
        have m1 : wrap64 (x + y) = x + y := wwr_in (by omega)
        clear hin
        go_wp2
        have HQ1 := HQ
        clear HQ hcl hcr
        have d4 : ∀ W', Below wr.heap.size wr W' → W'.cell? ⟨la, k, none⟩ = some (.int .i64 x) := fun W' hq => by rw [← HX1.out]; exact (HQ1.out.tr hq).lc _ (HQ1.out.tr hq).t.bel k hlt
        have d5 : ∀ W', Below wr.heap.size wr W' → W'.cell? ⟨lb, k, none⟩ = some (.int .i64 y) := fun W' hq => by rw [← HX2.out]; exact (HQ1.out.tr hq).rc _ (HQ1.out.tr hq).t.bel k hlt
        have K1 : Hid (∀ W, Below wr.heap.size wr W → Calls Tryd.prog 52 #[.int .i64 (x + y), .int .i64 15] W fun e w' => e = .returned (.int .i64 (wMeetF x y)) ∧ Below wr.heap.size wr w') := fun W hW => by
          have h := shrR_any (x + y) 15 W
          rw [← HM.out] at h
          exact h.mono fun e w' ⟨he, hb⟩ => ⟨he, below_then hW hb⟩
        have hg1 : decide (k < 8) = true := decide_eq_true hlt
        clear HX1 HX2 HM u1 u2 u3 u4
        refine' region_last_plain (C := Below wr.heap.size wr) (m := 10) (by kernel_rfl) (by kernel_rfl) (by kernel_rfl) rfl rfl rfl rfl (Below.refl _ _).drew
          (Qa := fun a' => a' = _) ?_ ?_
        rotate_left
        · dsimp only [idleLast, idle]
          repeat (go_big_quiet_step (first
            | (intro hq; rfl)
            | (intro hq; rw [d4 _ hq]; exact ⟨rfl, rfl⟩)
            | (intro hq; rw [d5 _ hq]; exact ⟨rfl, rfl⟩)
            | (intro hq; go_at_call 52; (with_reducible exact K1.out _ hq))))
          refine wpQuiet_nil ?_
          exact rfl
        · rintro a' W' hq rfl
          have HQ2 := HQ1.out.tr hq
          refine exec_store (fun _ => trivial) Tryd.sizeOf3 rfl rfl rfl rfl (HQ2.t.b.get hlt) (HQ2.t.b.frozen k) ?_
          have HQ3 := hid (HQ2.set hlt (wMeetF x y) HY.out)
          generalize W'.setCell ⟨q, k, none⟩ (.int .i64 (wMeetF x y)) = W3 at HQ3 ⊢
          clear hq HQ2 d4 d5 K1
          go_wp2
          exact ⟨⟨k + 1, by omega, by go_num, HQ3⟩, by simp [intOf]; omega⟩
      · have HM : Hid (∀ i, upto k (fun j => wMeetF (L j) (R j)) i = upto (k + 1) (fun j => wMeetF (L j) (R j)) i) := fun i => by
          rw [← HY.out i, meetF_out hin]
          unfold upd upto
          by_cases e : i = k
          · subst e; rw [if_pos rfl, if_neg (by omega)]
          · rw [if_neg e]
        have hno := fun h => hin (in46_iff.2 h)
        have HNO : Hid (¬ (-70368744177664 ≤ x ∧ x ≤ 70368744177664 ∧ -70368744177664 ≤ y ∧ y ≤ 70368744177664)) := hno
        clear hin hno HX1 HX2
        by_cases u1 : -70368744177664 ≤ x
        · by_cases u2 : x ≤ 70368744177664
          · by_cases u3 : -70368744177664 ≤ y
            · have u4 : ¬ y ≤ 70368744177664 := fun u4 => HNO.out ⟨u1, u2, u3, u4⟩
              clear HNO
              have HQ2 : Hid (Quad B la lb r q L R (fun _ => 0) (upto (k + 1) fun j => wMeetF (L j) (R j)) w2 wr) := ⟨HQ.out.lc, HQ.out.rc, HQ.out.t.congr fun i _ => HM.out i⟩
              clear HQ HM
              go_wp2
              exact ⟨⟨k + 1, by omega, by go_num, HQ2⟩, by simp [intOf]; omega⟩
            · clear HNO
              have HQ2 : Hid (Quad B la lb r q L R (fun _ => 0) (upto (k + 1) fun j => wMeetF (L j) (R j)) w2 wr) := ⟨HQ.out.lc, HQ.out.rc, HQ.out.t.congr fun i _ => HM.out i⟩
              clear HQ HM
              go_wp2
              exact ⟨⟨k + 1, by omega, by go_num, HQ2⟩, by simp [intOf]; omega⟩
          · clear HNO
            have HQ2 : Hid (Quad B la lb r q L R (fun _ => 0) (upto (k + 1) fun j => wMeetF (L j) (R j)) w2 wr) := ⟨HQ.out.lc, HQ.out.rc, HQ.out.t.congr fun i _ => HM.out i⟩
            clear HQ HM
            go_wp2
            exact ⟨⟨k + 1, by omega, by go_num, HQ2⟩, by simp [intOf]; omega⟩
        · clear HNO
          have HQ2 : Hid (Quad B la lb r q L R (fun _ => 0) (upto (k + 1) fun j => wMeetF (L j) (R j)) w2 wr) := ⟨HQ.out.lc, HQ.out.rc, HQ.out.t.congr fun i _ => HM.out i⟩
          clear HQ HM
          go_wp2
          exact ⟨⟨k + 1, by omega, by go_num, HQ2⟩, by simp [intOf]; omega⟩
    · obtain rfl : k = 8 := by omega
      have HL := HQ.out.t.last
      go_wp2_with (first | (refine wp_load8 rfl rfl rfl HQ.out.t.b ?_) | (refine wp_store8 rfl rfl rfl rfl HQ.out.t.a ?_))
      refine bodyPost_ret (ret8 rfl _ rfl HL.1) rfl ⟨by rw [arr8_congr (upto_all fun j => wMeetF (L j) (R j))], ?_⟩
      exact HE.out _ HL.2
end Go.Proofs.YtfhcfdepjhdhfaaDoor
