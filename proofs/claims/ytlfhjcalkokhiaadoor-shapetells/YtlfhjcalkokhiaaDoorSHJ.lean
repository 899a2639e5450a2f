/-
  Both sides together; the chapter's example.
-/
import Derived.Test.YtlfhjcalkokhiaaDoorSHP
import Derived.Test.YtlfhjcalkokhiaaDoorSM
import Derived.Test.YtlfhjcalkokhiaaDoorL2
namespace Go.Proofs.YtlfhjcalkokhiaaDoor
open Go.ChangeShapes Go.WideShapes Go.ChangeAt Go.RowKit
set_option linter.unusedVariables false

theorem shape_vals (a : Option Addr) (len cap : Nat) (X : Nat → Int) (c f : Int) (hl : len ≤ maxLen) : ∃ (m : Nat) (F : Nat → Int) (b : Bool), m ≤ 8 ∧
    (∀ W, ShTab W → IsInts W a len cap X → Calls Tryd.prog 6 #[.slice a len cap, .int .i64 c, .int .i64 f] W (VPost m F b W)) ∧
    (∀ W, IsInts W a len cap X → Calls Tryd.prog 7 #[.slice a len cap, .int .i64 c, .int .i64 f] W (VPost m F b W)) := by
  cases hok : shOk len X c f with
  | false => exact ⟨0, fun _ => 0, false, by omega, fun W ht h => shape_values_no a len cap X c f hl hok W ht h, fun W h => rvalues_no a len cap X c f hl hok W h⟩
  | true =>
    have h8 := (pvOk_iff.1 (shOk_iff.1 hok).1).2.1
    exact ⟨len, shV len X c f, true, h8, fun W ht h => shape_values_yes a len cap X c f hok W ht h, fun W h => rvalues_yes a len cap X c f hok W h⟩
theorem shEx : ∀ i, i < 2 → two2 16 0 i = shV 2 (two2 1 0) 4 0 i := by
  have hr : rootF (sqS (two2 1 0) 2 * 1048576) = 1024 := rootF_eq (by decide) (by decide) (by decide) (by decide)
  intro i hi
  rw [shV, if_neg (by decide), hr]
  have h4 : ampF 4 0 = 16 := by decide +kernel
  rw [h4]
  rcases (by omega : i = 0 ∨ i = 1) with rfl | rfl
  · decide +kernel
  · decide +kernel
theorem shPow : powF 2 (two2 3 (-4)) = 5 := by
  have h : SqIn 2 (two2 3 (-4)) := ⟨by omega, fun i hi => by rcases (by omega : i = 0 ∨ i = 1) with rfl | rfl <;> decide⟩
  rw [powF_in h]
  exact rootF_eq (by decide) (by decide) (by decide) (by decide)
theorem shFound : Found 5 2 1 := ⟨by decide, by decide, by decide, by decide, by decide +kernel, by decide +kernel, by decide +kernel⟩
set_option maxRecDepth 100000 in
theorem shawake_any (w : World) (ht : ShTab w) : Calls Tryd.prog 5 #[] w fun e w' => e = .returned (.bool true) ∧ Below w.heap.size w w' := by
  have HT := hid (fun W (hW : Below w.heap.size w W) => ht.below hW)
  have ba : ∀ (W : World) (o : Obj), Below W.heap.size W (W.alloc o) := fun W o => (Below.refl _ W).alloc (Nat.le_refl _) _
  have K1 : Hid (∀ W, Below w.heap.size w W → Calls Tryd.prog 6 #[.slice (some ⟨W.heap.size, 0, none⟩) 2 2, .int .i64 4, .int .i64 0] (W.alloc (.cells #[.int .i64 1, .int .i64 0] 3)) (VPost 2 (shV 2 (two2 1 0) 4 0) true (W.alloc (.cells #[.int .i64 1, .int .i64 0] 3)))) := fun W hW =>
    shape_values_yes _ 2 2 (two2 1 0) 4 0 (by decide) _ (HT.out _ (below_then hW (ba _ _))) (two2_row W 1 0)
  have K2 : Hid (∀ W, Below w.heap.size w W → Calls Tryd.prog 6 #[.slice none 0 0, .int .i64 4, .int .i64 0] W (VPost 0 (fun _ => 0) false W)) := fun W hW =>
    shape_values_no none 0 0 (fun _ => 0) 4 0 (by decide) (by decide) W (HT.out W hW) (.inl rfl)
  have K3 : Hid (∀ W, Below w.heap.size w W → Calls Tryd.prog 8 #[.slice (some ⟨W.heap.size, 0, none⟩) 2 2] (W.alloc (.cells #[.int .i64 3, .int .i64 (-4)] 3)) fun e w' => e = .returned (.tuple #[.int .i64 2, .int .i64 1]) ∧ Below W.heap.size W w') := fun W hW => by
    refine (shape_level _ 2 2 (two2 3 (-4)) (by omega) _ (HT.out _ (below_then hW (ba _ _))) (two2_row W 3 (-4))).mono ?_
    rintro e w' ⟨c, f, rfl, hf, hb⟩
    rw [shPow] at hf
    obtain ⟨rfl, rfl⟩ := hf.one (.inr shFound)
    exact ⟨rfl, ret_bel hb⟩
  have K4 : Hid (∀ W, Below w.heap.size w W → Calls Tryd.prog 11 #[.slice (some ⟨W.heap.size, 0, none⟩) 2 2] (W.alloc (.cells #[.int .i64 3, .int .i64 (-4)] 3)) fun e w' => e = .returned (.int .i64 5) ∧ Below W.heap.size W w') := fun W hW => by
    refine (shape_power _ 2 2 (two2 3 (-4)) (by omega) _ (HT.out _ (below_then hW (ba _ _))) (two2_row W 3 (-4))).mono ?_
    rintro e w' ⟨rfl, hb⟩
    rw [shPow]
    exact ⟨rfl, ret_bel hb⟩
  have K5 : Hid (∀ a c W, IsInts W a 2 c (shV 2 (two2 1 0) 4 0) → Calls Tryd.prog 10 #[.slice a 2 c, .slice (some ⟨W.heap.size, 0, none⟩) 2 2] (W.alloc (.cells #[.int .i64 16, .int .i64 0] 3)) fun e w' => e = .returned (.bool true) ∧ Below W.heap.size W w') := fun a c W h =>
    (same_yes a _ 2 c 2 (shV 2 (two2 1 0) 4 0) (by omega) _ (h.below (ba _ _)) ((two2_row W 16 0).congr shEx)).mono fun e w' ⟨he, hb⟩ => ⟨he, ret_bel hb⟩
  clear ba ht HT
  generalize shV 2 (two2 1 0) 4 0 = V at K1 K5
  have B0 := hid (Below.refl w.heap.size w)
  go_enter Tryd.func5, Tryd.ntmps5
  go_wp2_with (fail)
  refine Calls.mono (K1.out _ B0.out) ?_
  rintro e w1 ⟨a1, c1, rfl, i1, b1, _⟩
  have B1 := hid (below_then B0.out (ret_bel b1))
  have I1 := hid i1
  clear b1 i1 K1 B0
  go_wp2_with (fail)
  refine Calls.mono (K2.out _ B1.out) ?_
  rintro e w2 ⟨a2, c2, rfl, i2, b2, _⟩
  have B2 := hid (below_then B1.out b2)
  have I2 := hid (I1.out.below b2)
  clear b2 i2 K2 I1 B1
  go_wp2_with (fail)
  refine Calls.mono (K3.out _ B2.out) ?_
  rintro e w3 ⟨rfl, b3⟩
  have B3 := hid (below_then B2.out b3)
  have I3 := hid (I2.out.below b3)
  clear b3 K3 I2 B2
  go_wp2_with (fail)
  refine Calls.mono (K5.out _ _ _ I3.out) ?_
  rintro e w4 ⟨rfl, b4⟩
  have B4 := hid (below_then B3.out b4)
  clear b4 K5 I3 B3
  go_wp2_with (fail)
  refine Calls.mono (K4.out _ B4.out) ?_
  rintro e w5 ⟨rfl, b5⟩
  have B5 := hid (below_then B4.out b5)
  clear b5 K4 B4
  go_wp2
  go_ret
  exact ⟨rfl, B5.out⟩
theorem shawake_to (w : World) (ht : ShTab w) : Hid (∀ W, Below w.heap.size w W → Calls Tryd.prog 5 #[] W fun e w' => e = .returned (.bool true) ∧ Below w.heap.size w w') := fun W hb =>
  (shawake_any W (ht.below hb)).mono fun e w' h => ⟨h.1, below_then hb h.2⟩
end Go.Proofs.YtlfhjcalkokhiaaDoor
