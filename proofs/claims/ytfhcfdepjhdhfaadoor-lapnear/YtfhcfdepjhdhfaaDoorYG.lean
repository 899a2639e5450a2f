/-
  The document's Frame and Take where there is none.
-/
import Derived.Test.YtfhcfdepjhdhfaaDoorYE
import Derived.Test.YtfhcfdepjhdhfaaDoorYF
namespace Go.Proofs.YtfhcfdepjhdhfaaDoor
open Go.ChangeShapes Go.WideShapes Go.ChangeAt Go.RowKit
set_option linter.unusedVariables false

theorem rtake_no (short : Bool) (a : Option Addr) (len cap : Nat) (X : Nat → Int) (hl : len ≤ 1000) (hX : ¬ (len = 72 ∧ Fit15 X 72)) (w : World) (h : IsInts w a len cap X) :
    Calls Tryd.prog 21 #[.slice a len cap, .bool short] w fun e w' => e = .returned (.slice none 0 0) ∧ w' = w := by
  have K0 := hid (rwithin_g (-32768) 32767 a len cap X hl w h)
  by_cases h72 : len = 72
  · subst h72
    have hno : allIn (-32768) 32767 X 72 = false := by
      cases e : allIn (-32768) 32767 X 72 with
      | false => rfl
      | true => exact (hX ⟨rfl, (allIn_iff (-32768) 32767 X 72).1 e⟩).elim
    have k := K0.out
    rw [hno] at k
    have K := hid k
    clear k K0 h hX hno
    go_enter Tryd.func21, Tryd.ntmps21
    go_wp2_with (go_at_call 29; (with_reducible refine K.out.mono ?_); rintro e w1 ⟨rfl, rfl⟩)
    go_ret
    exact ⟨rfl, rfl⟩
  · have h1 : ((len : Int) != 72) = true := by
      have : ((len : Int) == 72) = false := by simp; omega
      rw [bne, this]; rfl
    clear K0 h hX
    go_enter Tryd.func21, Tryd.ntmps21
    go_wp2
    go_ret
    exact ⟨rfl, rfl⟩
theorem rframe_no (short : Bool) (a : Option Addr) (len cap : Nat) (X T : Nat → Int) (hl : len ≤ maxLen) (hX : ¬ (len = 64 ∧ rightF X len 33554432 = true ∧ ∀ j, j < 8 → -35184372088832 ≤ T j ∧ T j ≤ 35184372088832)) (w : World) (h : IsInts w a len cap X) :
    Calls Tryd.prog 10 #[arr8 T, .slice a len cap, .bool short] w fun e w' => e = .returned (.tuple #[.slice none 0 0, arr8 fun _ => 0]) ∧ Below w.heap.size w w' := by
  obtain ⟨W1, hW1⟩ : ∃ W1, W1 = (w.alloc (.cells (rowA 8 T) 22)).alloc (.cells #[Value.int .i64 0, Value.int .i64 0, Value.int .i64 0, Value.int .i64 0, Value.int .i64 0, Value.int .i64 0, Value.int .i64 0, Value.int .i64 0] 22) := ⟨_, rfl⟩
  have hp := arr_new T w
  have hr := arr_new0 (w.alloc (.cells (rowA 8 T) 22))
  have hp' := arr_old0 hp
  rw [al_size] at hr
  rw [← hW1] at hr hp'
  have hbw : Below w.heap.size w W1 := by rw [hW1]; exact ((Below.refl _ w).alloc (Nat.le_refl _) _).alloc (by rw [al_size]; omega) _
  have K1 : Hid (∀ W, Below w.heap.size w W → Calls Tryd.prog 16 #[.slice a len cap, .int .i64 33554432] W fun e w' => e = .returned (.bool (rightF X len 33554432)) ∧ w' = W) := fun W hW =>
    xright_any 33554432 (by omega) (by omega) a len cap X hl W (h.below hW)
  have K2 : Hid (∀ W, Below W1.heap.size W1 W → Calls Tryd.prog 29 #[.slice (some ⟨w.heap.size, 0, none⟩) 8 8, .int .i64 (-35184372088832), .int .i64 35184372088832] W fun e w' => e = .returned (.bool (allIn (-35184372088832) 35184372088832 T 8)) ∧ w' = W) := fun W hW =>
    rwithin_g (-35184372088832) 35184372088832 (some ⟨w.heap.size, 0, none⟩) 8 8 T (by omega) W (ArrAt.ints (hp'.below hW))
  have HR := hid hr
  have HBW := hid hbw
  have HRS := hid (hr.laid (fun _ => 0))
  have HBS := hid (below_setRow hbw (show w.heap.size ≤ w.heap.size + 1 by omega) (rowA 8 (fun _ => 0)))
  have HW1 := hid hW1
  clear h hW1 hp hp' hr hbw
  by_cases h64 : len = 64
  · subst h64
    cases hr : rightF X 64 33554432 with
    | false =>
      rw [hr] at K1
      clear hX hr
      go_enter Tryd.func10, Tryd.ntmps10
      go_wp2_with (fail)
      have hW1 := HW1.out
      rw [← hW1]
      clear hW1 HW1
      refine (K1.out _ HBW.out).mono ?_
      rintro e w2 ⟨rfl, rfl⟩
      go_wp2_with (refine wp_store8 (X := fun _ => 0) rfl rfl rfl rfl HR.out ?_)
      refine bodyPost_ret (results_two8 rfl _ rfl rfl HRS.out) rfl ⟨rfl, HBS.out⟩
    | true =>
      have hno : allIn (-35184372088832) 35184372088832 T 8 = false := by
        cases e : allIn (-35184372088832) 35184372088832 T 8 with
        | false => rfl
        | true => exact (hX ⟨rfl, hr, (allIn_iff (-35184372088832) 35184372088832 T 8).1 e⟩).elim
      rw [hr] at K1
      rw [hno] at K2
      clear hX hr hno
      go_enter Tryd.func10, Tryd.ntmps10
      go_wp2_with (fail)
      have hW1 := HW1.out
      rw [← hW1]
      clear hW1 HW1
      refine (K1.out _ HBW.out).mono ?_
      rintro e w2 ⟨rfl, rfl⟩
      go_wp2_with (fail)
      refine (K2.out _ (Below.refl _ _)).mono ?_
      rintro e w3 ⟨rfl, rfl⟩
      go_wp2_with (refine wp_store8 (X := fun _ => 0) rfl rfl rfl rfl HR.out ?_)
      refine bodyPost_ret (results_two8 rfl _ rfl rfl HRS.out) rfl ⟨rfl, HBS.out⟩
  · have h1 : ((len : Int) != 64) = true := by
      have : ((len : Int) == 64) = false := by simp; omega
      rw [bne, this]; rfl
    unfold maxLen at hl
    clear K1 K2 hX
    have hW1 := HW1.out
    subst hW1
    clear HW1
    go_enter Tryd.func10, Tryd.ntmps10
    go_wp2_with (refine wp_store8 (X := fun _ => 0) rfl rfl rfl rfl HR.out ?_)
    refine bodyPost_ret (results_two8 rfl _ rfl rfl HRS.out) rfl ⟨rfl, HBS.out⟩
end Go.Proofs.YtfhcfdepjhdhfaaDoor
