/-
  The contract of window.Right.
-/
import Derived.Test.YtjeglfhdgabdoaaDoorWB
namespace Go.Proofs.YtjeglfhdgabdoaaDoor
open Go.ChangeShapes Go.WideShapes Go.ChangeAt Go.RowKit
set_option linter.unusedVariables false

theorem right_up {n : Nat} {X : Nat → Int} {k : Nat} (hk : k < 4) (hn : 8 ≤ n) : rightF n X (4 + k) = -wF (3 - k) * X (n - 1 - k) := by
  rw [rightF, if_neg (by omega), show 7 - (4 + k) = 3 - k by omega, show n + 3 - (4 + k) = n - 1 - k by omega]
theorem right_dn {n : Nat} {X : Nat → Int} {k : Nat} (hk : k < 4) (hn : 8 ≤ n) : rightF n X (3 - k) = wF (4 + k) * X (n - 1 - k) := by
  rw [rightF, if_pos (by omega), show 7 - (3 - k) = 4 + k by omega, show n - 4 + (3 - k) = n - 1 - k by omega]
theorem right_yes (n : Nat) (hn : n = 8 ∨ n = 64) (a : Option Addr) (cap : Nat) (X : Nat → Int) (hX : Fit30 X n) (w : World) (ht : STab w) (h : IsInts w a n cap X) :
    Calls Tryd.prog 14 #[.slice a n cap] w fun e w' => e = .returned (arr8 (rightF n X)) ∧ Below w.heap.size w w' := by
  have K1 : Hid (∀ W, Calls Tryd.prog 18 #[.int .i64 (n : Int)] W fun e w' => e = .returned (.bool true) ∧ w' = W) := fun W => by
    have := isBlock_any (n : Int) W
    rwa [show (((n : Int) == 8 || (n : Int) == 64) = true) by rcases hn with rfl | rfl <;> rfl] at this
  have K2 : Hid (∀ W, Below w.heap.size w W → Calls Tryd.prog 19 #[.int .i64 1073741824, .slice a n cap] W fun e w' => e = .returned (.bool true) ∧ w' = W) := fun W hW => by
    have := wwithin_any 1073741824 (by omega) a n cap X (by omega) W (h.below hW)
    rwa [(allIn_iff (-1073741824) 1073741824 X n).2 hX] at this
  have K3 := hid facing_any
  obtain ⟨b, off, rfl, hc⟩ := h.cells (by omega)
  obtain ⟨B, hB, HT⟩ : ∃ B, B = w.heap.size ∧ Hid (Twin B w.heap.size (w.heap.size + 1) (fun _ => 0) (fun _ => 0) w ((w.alloc (.cells #[Value.int .i64 0, Value.int .i64 0, Value.int .i64 0, Value.int .i64 0, Value.int .i64 0, Value.int .i64 0, Value.int .i64 0, Value.int .i64 0] 24)).alloc (.cells #[Value.int .i64 0, Value.int .i64 0, Value.int .i64 0, Value.int .i64 0, Value.int .i64 0, Value.int .i64 0, Value.int .i64 0, Value.int .i64 0] 24))) := ⟨_, rfl, made_twin w⟩
  rw [← hB] at hc K2
  have HS := hid (fun W (hW : Below B w W) => ht.frame hW (by rw [hB]; exact ht.lt))
  have HB := hid hB
  have HC := hid hc
  have HX := hid hX
  clear hc h hB ht hX
  go_enter Tryd.func14, Tryd.ntmps14
  go_wp2_with (first
    | (go_at_call 18; (with_reducible refine (K1.out _).mono ?_); rintro e w1 ⟨rfl, rfl⟩)
    | (go_at_call 19; (with_reducible refine (K2.out _ HT.out.bel).mono ?_); rintro e w1 ⟨rfl, rfl⟩))
  generalize ((w.alloc (.cells #[Value.int .i64 0, Value.int .i64 0, Value.int .i64 0, Value.int .i64 0, Value.int .i64 0, Value.int .i64 0, Value.int .i64 0, Value.int .i64 0] 24)).alloc (.cells #[Value.int .i64 0, Value.int .i64 0, Value.int .i64 0, Value.int .i64 0, Value.int .i64 0, Value.int .i64 0, Value.int .i64 0, Value.int .i64 0] 24)) = W at HT ⊢
  generalize w.heap.size + 1 = q at HT ⊢
  generalize w.heap.size = r at HT ⊢
  go_loopw [18] (fun i wr => ∃ k : Nat, k ≤ 4 ∧ i = .int .i64 k ∧ Hid (Twin B r q (fun _ => 0) (mid k (rightF n X)) w wr)) (fun i _ => 4 - (intOf i).toNat)
  case atStart => exact ⟨0, Nat.zero_le _, rfl, HT.out.congr fun i _ => mid_zero _ i⟩
  case round =>
    clear HT
    obtain ⟨k, hk, rfl, HT⟩ := hrel
    by_cases hlt : k < 4
    · have hcx := HC.out _ HT.out.bel (n - 1 - k) (by omega)
      have hsu := (HS.out _ HT.out.bel).cell (j := 4 + k) (by omega)
      have HW := hid (HT.out.set (j := 3 - k) (by omega) (wF (4 + k) * X (n - 1 - k)))
      have hsv := (HS.out _ HW.out.bel).cell (j := 3 - k) (by omega)
      have hcu := HW.out.b.get (j := 4 + k) (by omega)
      have hfu := HW.out.b.frozen (4 + k)
      have hcv := HT.out.b.get (j := 3 - k) (by omega)
      have hfv := HT.out.b.frozen (3 - k)
      have HF := hid (K3.out k hlt wr)
      have bx := HX.out (n - 1 - k) (by omega)
      have bu := wF_bd (4 + k)
      have bv := wF_bd (3 - k)
      have m1 := wwr_in (x := wF (4 + k) * X (n - 1 - k)) (by have := mul_bd' bu.1 bu.2 bx.1 bx.2; omega)
      have m0 := wwr_in (x := -wF (3 - k)) (by omega)
      have m2 := wwr_in (x := -wF (3 - k) * X (n - 1 - k)) (by have := mul_bd' bv.1 bv.2 bx.1 bx.2; rw [Int.neg_mul]; omega)
      have HN : Hid (∀ W1, Twin B r q (fun _ => 0) (upd (mid k (rightF n X)) (3 - k) (wF (4 + k) * X (n - 1 - k))) w W1 → Twin B r q (fun _ => 0) (mid (k + 1) (rightF n X)) w (W1.setCell ⟨q, 4 + k, none⟩ (.int .i64 (-wF (3 - k) * X (n - 1 - k))))) := fun W1 h1 =>
        (h1.set (j := 4 + k) (by omega) _).congr (fun i _ => by rw [← right_up (n := n) hlt (by omega), ← right_dn (n := n) hlt (by omega)]; exact mid_next' hlt (rightF n X) i)
      have hu8 : 4 + k < 8 := by omega
      have hv8 : 3 - k < 8 := by omega
      have hzx : n - 1 - k < n := by omega
      have hix : ((n : Int) - 1 - (k : Int)) = ((n - 1 - k : Nat) : Int) := by omega
      clear bx bu bv
      generalize n - 1 - k = z at *
      generalize X z = x at *
      generalize wF (4 + k) = su at *
      have HN1 := hid (HN.out _ HW.out)
      clear HN HW
      generalize wF (3 - k) = sv at *
      generalize 3 - k = v at *
      generalize 4 + k = u at *
      go_wp2_with (go_at_call 21; (with_reducible refine HF.out.mono ?_); rintro e w1 ⟨rfl, rfl⟩)
      exact ⟨⟨k + 1, by omega, by go_num, HN1⟩, by simp [intOf]; omega⟩
    · obtain rfl : k = 4 := by omega
      have HL := HT.out.last
      go_wp2_with (first | (refine wp_load8 rfl rfl rfl HT.out.b ?_) | (refine wp_store8 rfl rfl rfl rfl HT.out.a ?_))
      refine bodyPost_ret (ret8 rfl _ rfl HL.1) rfl ⟨by rw [arr8_congr (mid_all (rightF n X))], ?_⟩
      rw [← HB.out]; exact HL.2
theorem right_no (n : Nat) (a : Option Addr) (cap : Nat) (X : Nat → Int) (hl : n ≤ 1000) (hX : blk30 X n = false) (w : World) (h : IsInts w a n cap X) :
    Calls Tryd.prog 14 #[.slice a n cap] w fun e w' => e = .returned (arr8 fun _ => 0) ∧ Below w.heap.size w w' := by
  have K1 := hid (isBlock_nat n)
  have K2 : Hid (∀ W, Below w.heap.size w W → Calls Tryd.prog 19 #[.int .i64 1073741824, .slice a n cap] W fun e w' => e = .returned (.bool (allIn (-1073741824) 1073741824 X n)) ∧ w' = W) := fun W hW =>
    wwithin_any 1073741824 (by omega) a n cap X hl W (h.below hW)
  obtain ⟨B, hB, HT⟩ : ∃ B, B = w.heap.size ∧ Hid (Twin B w.heap.size (w.heap.size + 1) (fun _ => 0) (fun _ => 0) w ((w.alloc (.cells #[Value.int .i64 0, Value.int .i64 0, Value.int .i64 0, Value.int .i64 0, Value.int .i64 0, Value.int .i64 0, Value.int .i64 0, Value.int .i64 0] 24)).alloc (.cells #[Value.int .i64 0, Value.int .i64 0, Value.int .i64 0, Value.int .i64 0, Value.int .i64 0, Value.int .i64 0, Value.int .i64 0, Value.int .i64 0] 24))) := ⟨_, rfl, made_twin w⟩
  rw [← hB] at K2
  have HB := hid hB
  have HL := HT.out.last
  clear h hB
  unfold blk30 at hX
  by_cases hn : (n == 8 || n == 64) = true
  · rw [hn, Bool.true_and] at hX
    rw [hX] at K2
    rw [hn] at K1
    clear hn hX
    go_enter Tryd.func14, Tryd.ntmps14
    go_wp2_with (first
      | (go_at_call 18; (with_reducible refine (K1.out _).mono ?_); rintro e w1 ⟨rfl, rfl⟩)
      | (go_at_call 19; (with_reducible refine (K2.out _ HT.out.bel).mono ?_); rintro e w1 ⟨rfl, rfl⟩)
      | (refine wp_load8 rfl rfl rfl HT.out.b ?_) | (refine wp_store8 rfl rfl rfl rfl HT.out.a ?_))
    refine bodyPost_ret (ret8 rfl _ rfl HL.1) rfl ⟨rfl, ?_⟩
    have e := HL.2; rw [HB.out] at e; exact e
  · have hn' : (n == 8 || n == 64) = false := by simpa using hn
    rw [hn'] at K1
    clear hn hn' hX
    go_enter Tryd.func14, Tryd.ntmps14
    go_wp2_with (first
      | (go_at_call 18; (with_reducible refine (K1.out _).mono ?_); rintro e w1 ⟨rfl, rfl⟩)
      | (refine wp_load8 rfl rfl rfl HT.out.b ?_) | (refine wp_store8 rfl rfl rfl rfl HT.out.a ?_))
    refine bodyPost_ret (ret8 rfl _ rfl HL.1) rfl ⟨rfl, ?_⟩
    have e := HL.2; rw [HB.out] at e; exact e
end Go.Proofs.YtjeglfhdgabdoaaDoor
