/-
  Both sides together; the chapter's example; what the law on shares asks.
-/
import Derived.Test.YtabgbchogmbofaaSEP
import Derived.Test.YtabgbchogmbofaaSM
import Derived.Test.YtabgbchogmbofaaL2
namespace Go.Proofs.Ytabgbchogmbofaa
open Go.ChangeShapes Go.WideShapes Go.ChangeAt Go.RowKit
set_option linter.unusedVariables false

theorem search_both (a : Option Addr) (len cap : Nat) (X : Nat → Int) (k : Int) (hl : len ≤ maxLen) : ∃ (m : Nat) (F : Nat → Int) (b : Bool), m ≤ 8 ∧
    (∀ W, IsInts W a len cap X → Calls Try.prog 6 #[.slice a len cap, .int .i64 k] W (VPost m F b W)) ∧
    (∀ W, IsInts W a len cap X → Calls Try.prog 7 #[.slice a len cap, .int .i64 k] W (VPost m F b W)) := by
  cases hok : seB len X k with
  | false => exact ⟨0, fun _ => 0, false, by omega, fun W h => search_no a len cap X k hl hok W h, fun W h => rpulses_no a len cap X k hl hok W h⟩
  | true =>
    obtain ⟨h1, h8, _, k0, _⟩ := seB_iff.1 hok
    obtain ⟨j, rfl⟩ : ∃ j : Nat, k = (j : Int) := ⟨k.toNat, by omega⟩
    exact ⟨len, seF X len j, true, h8, fun W h => search_yes a len cap X j hok W h, fun W h => rpulses_yes a len cap X j hok W h⟩
set_option maxRecDepth 100000 in
theorem seawake_any (w : World) : Calls Try.prog 5 #[] w fun e w' => e = .returned (.bool true) ∧ Below w.heap.size w w' := by
  have ba : ∀ (W : World) (o : Obj), Below W.heap.size W (W.alloc o) := fun W o => (Below.refl _ W).alloc (Nat.le_refl _) _
  have K1 : Hid (∀ W : World, Calls Try.prog 6 #[.slice (some ⟨W.heap.size, 0, none⟩) 2 2, .int .i64 2] (W.alloc (.cells #[.int .i64 3, .int .i64 (-1)] 3)) (VPost 2 (seF (two2 3 (-1)) 2 2) true (W.alloc (.cells #[.int .i64 3, .int .i64 (-1)] 3)))) := fun W =>
    search_yes _ 2 2 (two2 3 (-1)) 2 (by decide) _ (two2_row W 3 (-1))
  have K2 : Hid (∀ W : World, Calls Try.prog 6 #[.slice (some ⟨W.heap.size, 0, none⟩) 2 2, .int .i64 2] (W.alloc (.cells #[.int .i64 0, .int .i64 0] 3)) (VPost 2 (seF (two2 0 0) 2 2) true (W.alloc (.cells #[.int .i64 0, .int .i64 0] 3)))) := fun W =>
    search_yes _ 2 2 (two2 0 0) 2 (by decide) _ (two2_row W 0 0)
  have K3 : Hid (∀ W : World, Calls Try.prog 6 #[.slice none 0 0, .int .i64 2] W (VPost 0 (fun _ => 0) false W)) := fun W =>
    search_no none 0 0 (fun _ => 0) 2 (by decide) (by decide) W (.inl rfl)
  have hv1 : ∀ i, i < 2 → two2 2 0 i = seF (two2 3 (-1)) 2 2 i := by decide +kernel
  have hv2 : ∀ i, i < 2 → two2 2 0 i = seF (two2 0 0) 2 2 i := by decide +kernel
  have K5 : Hid (∀ (V : Nat → Int), (∀ i, i < 2 → two2 2 0 i = V i) → ∀ a c W, IsInts W a 2 c V → Calls Try.prog 8 #[.slice a 2 c, .slice (some ⟨W.heap.size, 0, none⟩) 2 2] (W.alloc (.cells #[.int .i64 2, .int .i64 0] 3)) fun e w' => e = .returned (.bool true) ∧ Below W.heap.size W w') := fun V hV a c W h =>
    (same_yes a _ 2 c 2 V (by omega) _ (h.below (ba _ _)) ((two2_row W 2 0).congr hV)).mono fun e w' ⟨he, hb⟩ => ⟨he, ret_bel hb⟩
  have K6 := hid (K5.out _ hv1)
  have K7 := hid (K5.out _ hv2)
  clear ba hv1 hv2 K5
  generalize seF (two2 3 (-1)) 2 2 = V1 at K1 K6
  generalize seF (two2 0 0) 2 2 = V2 at K2 K7
  go_enter Try.func5, Try.ntmps5
  go_wp2_with (fail)
  refine Calls.mono (K1.out _) ?_
  rintro e w1 ⟨a1, c1, rfl, i1, b1, _⟩
  have B1 := hid (ret_bel b1)
  have I1 := hid i1
  clear b1 i1 K1
  go_wp2_with (fail)
  refine Calls.mono (K2.out _) ?_
  rintro e w2 ⟨a2, c2, rfl, i2, b2, _⟩
  have B2 := hid (below_then B1.out (ret_bel b2))
  have I2 := hid (And.intro (I1.out.below (ret_bel b2)) i2)
  clear b2 i2 K2 I1 B1
  go_wp2_with (fail)
  refine Calls.mono (K3.out _) ?_
  rintro e w3 ⟨a3, c3, rfl, i3, b3, _⟩
  have B3 := hid (below_then B2.out b3)
  have I3 := hid (And.intro (I2.out.1.below b3) (I2.out.2.below b3))
  clear b3 i3 K3 I2 B2
  go_wp2_with (fail)
  refine Calls.mono (K6.out _ _ _ I3.out.1) ?_
  rintro e w4 ⟨rfl, b4⟩
  have B4 := hid (below_then B3.out b4)
  have I4 := hid (I3.out.2.below b4)
  clear b4 K6 I3 B3
  go_wp2_with (fail)
  refine Calls.mono (K7.out _ _ _ I4.out) ?_
  rintro e w5 ⟨rfl, b5⟩
  have B5 := hid (below_then B4.out b5)
  clear b5 K7 I4 B4
  go_wp2
  go_ret
  exact ⟨rfl, B5.out⟩
theorem seawake_to (w : World) : Hid (∀ W, Below w.heap.size w W → Calls Try.prog 5 #[] W fun e w' => e = .returned (.bool true) ∧ Below w.heap.size w w') := fun W hb =>
  (seawake_any W).mono fun e w' h => ⟨h.1, below_then hb h.2⟩
/-- What the law asks, in letters. -/
structure Shares (n : Nat) (X V : Nat → Int) (k s : Int) : Prop where
  n1 : 1 ≤ n
  n8 : n ≤ 8
  k0 : 0 ≤ k
  k24 : k ≤ 24
  s0 : 0 ≤ s
  s31 : s ≤ 2147483648
  x28 : ∀ i, i < n → (X i).natAbs ≤ 268435456
  v24 : ∀ i, i < n → (V i).natAbs ≤ 24
  off : 0 < s → ∀ i, i < n → (((V i).natAbs : Nat) : Int) * s - (((X i).natAbs : Nat) : Int) * k < s ∧ -s < (((V i).natAbs : Nat) : Int) * s - (((X i).natAbs : Nat) : Int) * k
  side : 0 < s → ∀ i, i < n → (0 < X i → 0 ≤ V i) ∧ (X i < 0 → V i ≤ 0)
  more : ∀ i, i < n → ∀ j, j < n → (X i).natAbs < (X j).natAbs → (V i).natAbs ≤ (V j).natAbs
theorem SeIn.law {n : Nat} {X : Nat → Int} {k : Nat} (h : SeIn n X k) : Shares n X (seF X n k) (k : Int) ((seSum (seA X) n : Nat) : Int) := by
  have hf := seF_far (X := X) h.n1 h.k24
  have hs := h.sum n (Nat.le_refl _)
  have n8 := h.n8
  have k24 := h.k24
  refine ⟨h.n1, h.n8, by omega, by omega, by omega, by omega, h.x28, hf.1, fun hs0 i hi => ?_, fun hs0 i hi => ?_, fun i hi j hj hx => ?_⟩
  · have h1 := seN_off (X := X) (n := n) (by omega) k i
    rw [seF_abs (by omega)]
    show _ * _ - ((seA X i : Nat) : Int) * _ < _ ∧ _ < _ * _ - ((seA X i : Nat) : Int) * _
    generalize hA : seN X n k (seL X n k) i * seSum (seA X) n = A at h1
    generalize hB : seA X i * k = B at h1
    have e1 : ((seN X n k (seL X n k) i : Nat) : Int) * ((seSum (seA X) n : Nat) : Int) = (A : Int) := by rw [← hA, Int.natCast_mul]
    have e2 : ((seA X i : Nat) : Int) * (k : Int) = (B : Int) := by rw [← hB, Int.natCast_mul]
    rw [e1, e2]; omega
  · rw [seF, if_neg (by omega)]
    refine ⟨fun hx => ?_, fun hx => ?_⟩
    · rw [if_neg (by omega)]; omega
    · rw [if_pos hx]; omega
  · have hs1 : 1 ≤ seSum (seA X) n := by have h1 := seSum_at (seA X) n j hj; have h2 : seA X j = (X j).natAbs := rfl; omega
    rw [seF_abs hs1, seF_abs hs1]
    exact seN_mono hs1 hi hj hx
end Go.Proofs.Ytabgbchogmbofaa
