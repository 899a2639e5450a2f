/-
  The chapter's example, and a block, as the statements ask for them.
-/
import Derived.Test.YtgkjjkdjalbfaaaDoorXF
namespace Go.Proofs.YtgkjjkdjalbfaaaDoor
open Go.ChangeShapes Go.WideShapes Go.ChangeAt Go.RowKit
set_option linter.unusedVariables false

theorem isN8 : IsN 8 := .inl rfl
def ex8 (i : Nat) : Int := if i = 0 then 32 else 0
theorem ex8_bd (i : Nat) : -33554432 ≤ ex8 i ∧ ex8 i ≤ 33554432 := by unfold ex8; split <;> omega
theorem xsum_zero (n k : Nat) : xsum n (fun _ => 0) k = 0 := by
  rw [xsum, sumN_congr n (g := fun _ => 0) (fun i _ => Int.zero_mul _), sumN_zero]
theorem four_zero (n k : Nat) : fourF n (fun _ => 0) k = 0 := by rw [fourF, xsum_zero]; rfl
theorem back_ex : backF 8 ex8 0 = 8 := by decide +kernel
theorem zero_row (w : World) : RowAt w.heap.size 8 (fun _ => 0) (w.alloc (.cells (rowA 8 (fun _ => 0)) 3)) := al_new w _
theorem ex8_row (w : World) : RowAt w.heap.size 8 ex8 (w.alloc (.cells #[.int .i64 32, .int .i64 0, .int .i64 0, .int .i64 0, .int .i64 0, .int .i64 0, .int .i64 0, .int .i64 0] 3)) := al_new w _
theorem al_below (w : World) (o : Obj) : Below w.heap.size w (w.alloc o) := (Below.refl _ w).alloc (Nat.le_refl _) o
/-- Four of 8 numbers 0, that were just made. -/
theorem ex_four {t : Nat} {w1 : World} (ht : Tab t w1) (W : World) (hW : Below w1.heap.size w1 W) :
    Calls Tryd.prog 8 #[.pointer (some ⟨t, 0, none⟩), .slice (some ⟨W.heap.size, 0, none⟩) 8 8] (W.alloc (.cells (rowA 8 (fun _ => 0)) 3)) fun e w' => ∃ r, e = .returned (.slice (some ⟨r, 0, none⟩) 8 8) ∧ RowAt r 8 (fun _ => 0) w' ∧ Below w1.heap.size w1 w' := by
  have hb := below_then hW (al_below W (.cells (rowA 8 (fun _ => 0)) 3))
  refine (four_yes isN8 t _ 8 (fun _ => 0) (fun _ _ => by omega) _ (ht.below ht.1 hb) ((zero_row W).ints (by decide))).mono ?_
  rintro e w' ⟨r, he, _, h1, h2⟩
  exact ⟨r, he, h1.congr (fun i _ => four_zero 8 i), below_then hb h2⟩
theorem ex_back {t : Nat} {w1 : World} (ht : Tab t w1) (W : World) (hW : Below w1.heap.size w1 W) :
    Calls Tryd.prog 10 #[.pointer (some ⟨t, 0, none⟩), .slice (some ⟨W.heap.size, 0, none⟩) 8 8] (W.alloc (.cells #[.int .i64 32, .int .i64 0, .int .i64 0, .int .i64 0, .int .i64 0, .int .i64 0, .int .i64 0, .int .i64 0] 3)) fun e w' => ∃ r, e = .returned (.slice (some ⟨r, 0, none⟩) 8 8) ∧ RowAt r 8 (backF 8 ex8) w' ∧ Below W.heap.size W w' := by
  have hb := below_then hW (al_below W (.cells #[.int .i64 32, .int .i64 0, .int .i64 0, .int .i64 0, .int .i64 0, .int .i64 0, .int .i64 0, .int .i64 0] 3))
  refine (back_yes isN8 t _ 8 ex8 (fun i _ => ex8_bd i) _ (ht.below ht.1 hb) ((ex8_row W).ints (by decide))).mono ?_
  rintro e w' ⟨r, he, _, h1, h2⟩
  exact ⟨r, he, h1, below_then (al_below W _) h2⟩
theorem ex_rback (W : World) :
    Calls Tryd.prog 11 #[.slice (some ⟨W.heap.size, 0, none⟩) 8 8] (W.alloc (.cells #[.int .i64 32, .int .i64 0, .int .i64 0, .int .i64 0, .int .i64 0, .int .i64 0, .int .i64 0, .int .i64 0] 3)) fun e w' => ∃ a cap, e = .returned (.slice a 8 cap) ∧ IsInts w' a 8 cap (backF 8 ex8) ∧ Below W.heap.size W w' := by
  refine (rback_yes isN8 _ 8 ex8 (fun i _ => ex8_bd i) _ ((ex8_row W).ints (by decide))).mono ?_
  rintro e w' ⟨a, cap, he, h1, h2⟩
  exact ⟨a, cap, he, h1, below_then (al_below W _) h2⟩
theorem xawake_any (w : World) :
    Calls Tryd.prog 5 #[] w fun e w' => e = .returned (.bool true) ∧ Below w.heap.size w w' := by
  have hmk : ∀ w : World, (Instr.makeSlice 22 (.int .i64 8) (.int .i64 8)).run Tryd.prog w = .ok (.slice (some ⟨w.heap.size, 0, none⟩) 8 8) (w.alloc (.cells (rowA 8 (fun _ => 0)) 3)) := make_ints (n := 8) (by omega)
  go_enter Tryd.func5, Tryd.ntmps5
  go_wp2_with (go_at_call 6; refine (make_any _).mono ?_; rintro e w1 ⟨rfl, ht, hb⟩)
  have HB : Hid (Below w.heap.size w w1) := hb
  have HT : Hid (Tab _ w1) := ht
  refine (ex_four ht w1 (Below.refl _ _)).mono ?_
  clear ht hb
  rintro e w2 ⟨r, rfl, h1, b2⟩
  have H1 : Hid (RowAt r 8 (fun _ => 0) w2) := h1
  have B2 : Hid (Below w1.heap.size w1 w2) := b2
  clear h1 b2
  go_wp2_with (fail)
  refine (ex_back HT.out w2 B2.out).mono ?_
  rintro e w3 ⟨q, rfl, h2, b3⟩
  have H2 : Hid (RowAt q 8 (backF 8 ex8) w3) := h2
  have B3 : Hid (Below w2.heap.size w2 w3) := b3
  clear h2 b3
  go_wp2_with (fail)
  have S1 : Hid (Calls Tryd.prog 7 #[.slice (some ⟨r, 0, none⟩) 8 8, .slice (some ⟨w3.heap.size, 0, none⟩) 8 8] (w3.alloc (.cells (rowA 8 (fun _ => 0)) 3)) fun e w' => e = .returned (.bool true) ∧ Below w3.heap.size w3 w') := by
    refine (same_yes _ _ 8 8 8 (fun _ => 0) (by omega) _ (((H1.out.below B3.out).below (al_below _ _)).ints (by decide)) ((zero_row w3).ints (by decide))).mono ?_
    rintro e w' ⟨he, hb⟩
    exact ⟨he, below_then (al_below _ _) hb⟩
  refine Calls.mono S1.out ?_
  rintro e w4 ⟨rfl, b4⟩
  have B4 : Hid (Below w3.heap.size w3 w4) := b4
  clear b4 S1
  go_wp2_with (fail)
  refine (ex_rback w4).mono ?_
  rintro e w5 ⟨a5, c5, rfl, i5, b5⟩
  have B5 : Hid (Below w4.heap.size w4 w5) := b5
  have S2 : Hid (Calls Tryd.prog 7 #[.slice (some ⟨q, 0, none⟩) 8 8, .slice a5 8 c5] w5 fun e w' => e = .returned (.bool true) ∧ Below w5.heap.size w5 w') :=
    same_yes _ _ 8 8 c5 (backF 8 ex8) (by omega) _ (((H2.out.below B4.out).below b5).ints (by decide)) i5
  clear i5 b5
  go_wp2_with (fail)
  refine Calls.mono S2.out ?_
  rintro e w6 ⟨rfl, b6⟩
  have HQ : w6.cell? ⟨q, 0, none⟩ = some (.int .i64 8) := by
    have h := (((H2.out.below B4.out).below B5.out).below b6).get (show 0 < 8 by omega)
    rwa [back_ex] at h
  have B6 : Hid (Below w5.heap.size w5 w6) := b6
  clear b6 S2
  go_wp2
  go_ret
  exact ⟨rfl, below_then HB.out (below_then B2.out (below_then B3.out (below_then B4.out (below_then B5.out B6.out))))⟩
theorem xawake_to (w1 : World) :
    Hid (∀ W, Below w1.heap.size w1 W → Calls Tryd.prog 5 #[] W fun e w' => e = .returned (.bool true) ∧ Below w1.heap.size w1 w') :=
  fun W hW => (xawake_any W).mono fun e w' ⟨he, hb⟩ => ⟨he, below_then hW hb⟩
end Go.Proofs.YtgkjjkdjalbfaaaDoor
