/-
  Both sides together; the chapter's example.
-/
import Derived.Test.YtcjdgcfblilneaaPVH
import Derived.Test.YtcjdgcfblilneaaSM
namespace Go.Proofs.Ytcjdgcfblilneaa
open Go.ChangeShapes Go.WideShapes Go.ChangeAt Go.RowKit
set_option linter.unusedVariables false

theorem pvCnt_in {n k i : Int} (h0 : 0 ≤ i) (h : i < pvCnt n k) : ∃ m j l : Nat, n = (m : Int) ∧ k = (j : Int) ∧ i = (l : Int) ∧ m ≤ 8 ∧ j ≤ 24 ∧ l < pvC m j := by
  by_cases c : 0 ≤ n ∧ n ≤ 8 ∧ 0 ≤ k ∧ k ≤ 24
  · obtain ⟨m, rfl⟩ : ∃ m : Nat, n = (m : Int) := ⟨n.toNat, by omega⟩
    obtain ⟨j, rfl⟩ : ∃ j : Nat, k = (j : Int) := ⟨k.toNat, by omega⟩
    rw [pvCnt_nat (by omega) (by omega)] at h
    exact ⟨m, j, i.toNat, rfl, rfl, by omega, by omega, by omega, by omega⟩
  · rw [pvCnt, if_neg c] at h; omega
theorem pvq_vecs (n k i : Int) : ∃ (m : Nat) (F : Nat → Int) (b : Bool), m ≤ 8 ∧ (∀ W, Calls Try.prog 14 #[.int .i64 n, .int .i64 k, .int .i64 i] W (VPost m F b W)) ∧ (∀ W, Calls Try.prog 15 #[.int .i64 n, .int .i64 k, .int .i64 i] W (VPost m F b W)) := by
  by_cases h : n < 1 ∨ i < 0 ∨ pvCnt n k ≤ i
  · exact ⟨0, fun _ => 0, false, by omega, fun W => pvq_vecno n k i h W, fun W => rvector_no n k i h W⟩
  · obtain ⟨m, j, l, rfl, rfl, rfl, h1, h2, h3⟩ := pvCnt_in (n := n) (k := k) (i := i) (by omega) (by omega)
    exact ⟨m, pvVec m j l, true, h1, fun W => pvq_vec m j l (by omega) h1 h2 h3 W, fun W => rvector_yes m j l (by omega) h1 h2 h3 W⟩
theorem pvOk_facts {n : Nat} {X : Nat → Int} (h : pvOk n X = true) : 1 ≤ n ∧ n ≤ 8 ∧ pvK X n n ≤ 24 ∧ pvI X n n < pvC n (pvK X n n) ∧ pvSz n X = ((pvK X n n : Nat) : Int) ∧ pvNum n X = ((pvI X n n : Nat) : Int) := by
  obtain ⟨h1, h2, h3⟩ := pvOk_of h
  have h4 := pvF_all h3
  exact ⟨h1, h2, by omega, pvI_lt X n n, by rw [pvSz, if_pos h, h4], by rw [pvNum, if_pos h]⟩
theorem pvOk_vec {n k i : Nat} (h1 : 1 ≤ n) (h8 : n ≤ 8) (hk : k ≤ 24) (hi : i < pvC n k) : pvOk n (pvVec n k i) = true ∧ pvSz n (pvVec n k i) = (k : Int) ∧ pvNum n (pvVec n k i) = (i : Int) := by
  have h2 := pv_far hi
  have h3 := pvF_of (X := pvVec n k i) (n := n) (by omega)
  have ho : pvOk n (pvVec n k i) = true := by simp [pvOk]; omega
  obtain ⟨_, _, _, _, e1, e2⟩ := pvOk_facts ho
  exact ⟨ho, by rw [e1, h2], by rw [e2, pv_num hi]⟩
def lit2F (x y : Int) (i : Nat) : Int := if i = 0 then x else y
theorem lit2_row (w : World) (x y : Int) : IsInts (w.alloc (.cells #[.int .i64 x, .int .i64 y] 3)) (some ⟨w.heap.size, 0, none⟩) 2 2 (lit2F x y) := by
  have h : (rowA 2 (lit2F x y)) = #[.int .i64 x, .int .i64 y] := rfl
  have h2 : RowAt w.heap.size 2 (lit2F x y) (w.alloc (.cells (rowA 2 (lit2F x y)) 3)) := al_new w _
  rw [h] at h2
  exact h2.ints (by decide)
set_option maxRecDepth 100000 in
theorem pvawake_any (w : World) : Calls Try.prog 7 #[] w fun e w' => e = .returned (.bool true) ∧ Below w.heap.size w w' := by
  have K1 : Hid (∀ W, Calls Try.prog 14 #[.int .i64 2, .int .i64 1, .int .i64 1] W (VPost 2 (pvVec 2 1 1) true W)) := fun W => pvq_vec 2 1 1 (by omega) (by omega) (by omega) (by decide) W
  have K2 : Hid (∀ W, Calls Try.prog 14 #[.int .i64 2, .int .i64 1, .int .i64 4] W (VPost 0 (fun _ => 0) false W)) := fun W => pvq_vecno 2 1 4 (.inr (.inr (by decide))) W
  have K3 : Hid (∀ W, Calls Try.prog 10 #[.int .i64 2, .int .i64 1] W fun e w' => e = .returned (.int .i64 4) ∧ Below W.heap.size W w') := fun W => by
    have := pvq_count 2 1 W
    rwa [show pvCnt 2 1 = 4 by decide] at this
  have K4 : Hid (∀ W, Calls Try.prog 12 #[.slice (some ⟨W.heap.size, 0, none⟩) 2 2] (W.alloc (.cells #[.int .i64 (-1), .int .i64 0] 3)) fun e w' => e = .returned (.tuple #[.int .i64 3, .bool true]) ∧ Below W.heap.size W w') := fun W => by
    have := pvq_index _ 2 2 _ (by decide) _ (lit2_row W (-1) 0)
    rw [show pvNum 2 (lit2F (-1) 0) = 3 by decide, show pvOk 2 (lit2F (-1) 0) = true by decide] at this
    exact this.mono fun e w' ⟨he, hb⟩ => ⟨he, ((Below.refl _ W).alloc (Nat.le_refl _) _).trans (hb.mono (by rw [al_size]; omega))⟩
  have hv : ∀ i, i < 2 → lit2F 0 (-1) i = pvVec 2 1 1 i := by decide
  have K5 : Hid (∀ a c W, IsInts W a 2 c (pvVec 2 1 1) → Calls Try.prog 16 #[.slice a 2 c, .slice (some ⟨W.heap.size, 0, none⟩) 2 2] (W.alloc (.cells #[.int .i64 0, .int .i64 (-1)] 3)) fun e w' => e = .returned (.bool true) ∧ Below W.heap.size W w') := fun a c W h => by
    have b : Below W.heap.size W (W.alloc (.cells #[.int .i64 0, .int .i64 (-1)] 3)) := (Below.refl _ W).alloc (Nat.le_refl _) _
    exact (same_yes a _ 2 c 2 (pvVec 2 1 1) (by omega) _ (h.below b) ((lit2_row W 0 (-1)).congr hv)).mono fun e w' ⟨he, hb⟩ => ⟨he, b.trans (hb.mono (by rw [al_size]; omega))⟩
  clear hv
  generalize pvVec 2 1 1 = V at K1 K5
  go_enter Try.func7, Try.ntmps7
  go_wp2_with (fail)
  refine Calls.mono (K1.out _) ?_
  rintro e w1 ⟨a1, c1, rfl, i1, b1, _⟩
  have B1 := hid b1
  have I1 := hid i1
  clear b1 i1 K1
  go_wp2_with (fail)
  refine Calls.mono (K4.out _) ?_
  rintro e w2 ⟨rfl, b2⟩
  have B2 := hid (below_then B1.out b2)
  have I2 := hid (I1.out.below b2)
  clear b2 K4 I1 B1
  go_wp2_with (fail)
  refine Calls.mono (K2.out _) ?_
  rintro e w3 ⟨a3, c3, rfl, i3, b3, _⟩
  have B3 := hid (below_then B2.out b3)
  have I3 := hid (I2.out.below b3)
  clear b3 i3 K2 I2 B2
  go_wp2_with (fail)
  refine Calls.mono (K3.out _) ?_
  rintro e w4 ⟨rfl, b4⟩
  have B4 := hid (below_then B3.out b4)
  have I4 := hid (I3.out.below b4)
  clear b4 K3 I3 B3
  go_wp2_with (fail)
  refine Calls.mono (K5.out _ _ _ I4.out) ?_
  rintro e w5 ⟨rfl, b5⟩
  have B5 := hid (below_then B4.out b5)
  clear b5 K5 I4 B4
  go_wp2
  go_ret
  exact ⟨rfl, B5.out⟩
theorem pvawake_to (w : World) : Hid (∀ W, Below w.heap.size w W → Calls Try.prog 7 #[] W fun e w' => e = .returned (.bool true) ∧ Below w.heap.size w w') := fun W hb =>
  (pvawake_any W).mono fun e w' h => ⟨h.1, below_then hb h.2⟩
end Go.Proofs.Ytcjdgcfblilneaa
