/-
  The document's Right.
-/
import Derived.Test.YtjeglfhdgabdoaaDoorWE
namespace Go.Proofs.YtjeglfhdgabdoaaDoor
open Go.ChangeShapes Go.WideShapes Go.ChangeAt Go.RowKit
set_option linter.unusedVariables false

theorem rright_yes (n : Nat) (hn : n = 8 ∨ n = 64) (a : Option Addr) (cap : Nat) (X : Nat → Int) (hX : Fit30 X n) (w : World) (h : IsInts w a n cap X) :
    Calls Tryd.prog 15 #[.slice a n cap] w fun e w' => e = .returned (arr8 (rightF n X)) ∧ Below w.heap.size w w' := by
  have K1 : Hid (∀ W, Below w.heap.size w W → Calls Tryd.prog 25 #[.slice a n cap] W fun e w' => e = .returned (.bool true) ∧ w' = W) := fun W hW => by
    have := rblock_any a n cap X (by omega) W (h.below hW)
    rwa [blk30_iff.2 ⟨hn, hX⟩] at this
  obtain ⟨b, off, rfl, hc⟩ := h.cells (by omega)
  obtain ⟨B, hB, HT⟩ : ∃ B, B = w.heap.size ∧ Hid (Twin B w.heap.size (w.heap.size + 1) (fun _ => 0) (fun _ => 0) w ((w.alloc (.cells #[Value.int .i64 0, Value.int .i64 0, Value.int .i64 0, Value.int .i64 0, Value.int .i64 0, Value.int .i64 0, Value.int .i64 0, Value.int .i64 0] 24)).alloc (.cells #[Value.int .i64 0, Value.int .i64 0, Value.int .i64 0, Value.int .i64 0, Value.int .i64 0, Value.int .i64 0, Value.int .i64 0, Value.int .i64 0] 24))) := ⟨_, rfl, made_twin w⟩
  rw [← hB] at hc K1
  have HB := hid hB
  have HC := hid hc
  have HX := hid hX
  clear hc h hB hX
  go_enter Tryd.func15, Tryd.ntmps15
  go_wp2_with (go_at_call 25; (with_reducible refine (K1.out _ HT.out.bel).mono ?_); rintro e w1 ⟨rfl, rfl⟩)
  refine (rW_any _).mono ?_
  rintro e w1 ⟨rfl, rfl⟩
  generalize ((w.alloc (.cells #[Value.int .i64 0, Value.int .i64 0, Value.int .i64 0, Value.int .i64 0, Value.int .i64 0, Value.int .i64 0, Value.int .i64 0, Value.int .i64 0] 24)).alloc (.cells #[Value.int .i64 0, Value.int .i64 0, Value.int .i64 0, Value.int .i64 0, Value.int .i64 0, Value.int .i64 0, Value.int .i64 0, Value.int .i64 0] 24)) = W0 at HT ⊢
  have HT := hid HT.out.slope
  generalize W0.alloc (.cells (rowA 8 wF) 3) = W at HT ⊢
  generalize W0.heap.size = v at HT ⊢
  generalize w.heap.size + 1 = q at HT ⊢
  generalize w.heap.size = r at HT ⊢
  go_wp2
  go_loopw [5] (fun i wr => ∃ k : Nat, k ≤ 8 ∧ i = .int .i64 k ∧ Hid (TwinW B r q v (fun _ => 0) (upto k (rightF n X)) w wr)) (fun i _ => 8 - (intOf i).toNat)
  case atStart => exact ⟨0, Nat.zero_le _, rfl, HT⟩
  case round =>
    clear HT
    obtain ⟨k, hk, rfl, HT⟩ := hrel
    by_cases hlt : k < 8
    · have HN := hid (HT.out.set hlt (rightF n X k) (upto_next (rightF n X)))
      have hcq := HT.out.t.b.get hlt
      have hfq := HT.out.t.b.frozen k
      by_cases h4 : k < 4
      · have hs := HT.out.s.get (j := 7 - k) (by omega)
        have hcx := HC.out _ HT.out.t.bel (n - 4 + k) (by omega)
        have m1 : wrap64 (wF (7 - k) * X (n - 4 + k)) = wF (7 - k) * X (n - 4 + k) := wwr_in (by have bx := HX.out (n - 4 + k) (by omega); have bv := wF_bd (7 - k); have := mul_bd' bv.1 bv.2 bx.1 bx.2; omega)
        have HN' : Hid (TwinW B r q v (fun _ => 0) (upto (k + 1) (rightF n X)) w (wr.setCell ⟨q, k, none⟩ (.int .i64 (wF (7 - k) * X (n - 4 + k))))) := by
          have := HN.out
          rw [show rightF n X k = wF (7 - k) * X (n - 4 + k) by rw [rightF, if_pos h4]] at this
          exact this
        have hij : (7 : Int) - (k : Int) = ((7 - k : Nat) : Int) := by omega
        have hzj : (n : Int) - 4 + (k : Int) = ((n - 4 + k : Nat) : Int) := by omega
        have hz : n - 4 + k < n := by omega
        have hu : 7 - k < 8 := by omega
        clear HN
        generalize n - 4 + k = z at *
        generalize X z = x at *
        generalize wF (7 - k) = s at *
        generalize 7 - k = u at *
        go_wp2
        go_region
        have HZ := hid HN'.out.drew
        generalize (wr.setCell ⟨q, k, none⟩ (.int .i64 (s * x))).drew = W2 at HZ ⊢
        go_wp2
        exact ⟨⟨k + 1, by omega, by go_num, HZ⟩, by simp [intOf]; omega⟩
      · have hs := HT.out.s.get (j := 7 - k) (by omega)
        have hcx := HC.out _ HT.out.t.bel (n + 3 - k) (by omega)
        have m0 : wrap64 (-wF (7 - k)) = -wF (7 - k) := wwr_in (by have bv := wF_bd (7 - k); omega)
        have m1 : wrap64 (-wF (7 - k) * X (n + 3 - k)) = -wF (7 - k) * X (n + 3 - k) := wwr_in (by have bx := HX.out (n + 3 - k) (by omega); have bv := wF_bd (7 - k); have := mul_bd' bv.1 bv.2 bx.1 bx.2; rw [Int.neg_mul]; omega)
        have HN' : Hid (TwinW B r q v (fun _ => 0) (upto (k + 1) (rightF n X)) w (wr.setCell ⟨q, k, none⟩ (.int .i64 (-wF (7 - k) * X (n + 3 - k))))) := by
          have := HN.out
          rw [show rightF n X k = -wF (7 - k) * X (n + 3 - k) by rw [rightF, if_neg h4]] at this
          exact this
        have hij : (7 : Int) - (k : Int) = ((7 - k : Nat) : Int) := by omega
        have hzj : (n : Int) + 3 - (k : Int) = ((n + 3 - k : Nat) : Int) := by omega
        have hz : n + 3 - k < n := by omega
        have hu : 7 - k < 8 := by omega
        clear HN
        generalize n + 3 - k = z at *
        generalize X z = x at *
        generalize wF (7 - k) = s at *
        generalize 7 - k = u at *
        go_wp2
        go_region
        have HZ := hid HN'.out.drew
        generalize (wr.setCell ⟨q, k, none⟩ (.int .i64 (-s * x))).drew = W2 at HZ ⊢
        go_wp2
        exact ⟨⟨k + 1, by omega, by go_num, HZ⟩, by simp [intOf]; omega⟩
    · obtain rfl : k = 8 := by omega
      have HL := HT.out.t.last
      go_wp2_with (first | (refine wp_load8 rfl rfl rfl HT.out.t.b ?_) | (refine wp_store8 rfl rfl rfl rfl HT.out.t.a ?_))
      refine bodyPost_ret (ret8 rfl _ rfl HL.1) rfl ⟨by rw [arr8_congr (upto_all (rightF n X))], ?_⟩
      rw [← HB.out]; exact HL.2
theorem rright_no (n : Nat) (a : Option Addr) (cap : Nat) (X : Nat → Int) (hl : n ≤ 1000) (hX : blk30 X n = false) (w : World) (h : IsInts w a n cap X) :
    Calls Tryd.prog 15 #[.slice a n cap] w fun e w' => e = .returned (arr8 fun _ => 0) ∧ Below w.heap.size w w' := by
  have K1 : Hid (∀ W, Below w.heap.size w W → Calls Tryd.prog 25 #[.slice a n cap] W fun e w' => e = .returned (.bool false) ∧ w' = W) := fun W hW => by
    have := rblock_any a n cap X hl W (h.below hW)
    rwa [hX] at this
  obtain ⟨B, hB, HT⟩ : ∃ B, B = w.heap.size ∧ Hid (Twin B w.heap.size (w.heap.size + 1) (fun _ => 0) (fun _ => 0) w ((w.alloc (.cells #[Value.int .i64 0, Value.int .i64 0, Value.int .i64 0, Value.int .i64 0, Value.int .i64 0, Value.int .i64 0, Value.int .i64 0, Value.int .i64 0] 24)).alloc (.cells #[Value.int .i64 0, Value.int .i64 0, Value.int .i64 0, Value.int .i64 0, Value.int .i64 0, Value.int .i64 0, Value.int .i64 0, Value.int .i64 0] 24))) := ⟨_, rfl, made_twin w⟩
  rw [← hB] at K1
  have HB := hid hB
  have HL := HT.out.last
  clear h hB hX
  go_enter Tryd.func15, Tryd.ntmps15
  go_wp2_with (first
    | (go_at_call 25; (with_reducible refine (K1.out _ HT.out.bel).mono ?_); rintro e w1 ⟨rfl, rfl⟩)
    | (refine wp_load8 rfl rfl rfl HT.out.b ?_) | (refine wp_store8 rfl rfl rfl rfl HT.out.a ?_))
  refine bodyPost_ret (ret8 rfl _ rfl HL.1) rfl ⟨rfl, ?_⟩
  have e := HL.2; rw [HB.out] at e; exact e
end Go.Proofs.YtjeglfhdgabdoaaDoor
