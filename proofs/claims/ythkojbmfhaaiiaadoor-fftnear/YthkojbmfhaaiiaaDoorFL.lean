/-
  The chapter's example, as the statements ask for it.
-/
import Derived.Test.YthkojbmfhaaiiaaDoorFK
namespace Go.Proofs.YthkojbmfhaaiiaaDoor
open Go.ChangeShapes Go.WideShapes Go.ChangeAt Go.RowKit
set_option linter.unusedVariables false

/-- A list of two that is written out. -/
def two (x y : Int) (i : Nat) : Int := if i = 0 then x else y
theorem lit_row (w : World) (x y : Int) : RowAt w.heap.size 2 (two x y) (w.alloc (.cells #[.int .i64 x, .int .i64 y] 3)) := by
  have h : (rowA 2 (two x y)) = #[.int .i64 x, .int .i64 y] := rfl
  have := al_new w (.cells #[.int .i64 x, .int .i64 y] 3)
  rw [← h] at this ⊢
  exact this
theorem RowAt.alloc {r n : Nat} {X : Nat → Int} {w : World} (h : RowAt r n X w) (o : Obj) : RowAt r n X (w.alloc o) := h.below ((Below.refl _ w).alloc (Nat.le_refl _) o)
theorem same_lit {r : Nat} {X : Nat → Int} {W : World} (h : RowAt r 2 X W) (x y : Int) (e0 : X 0 = x) (e1 : X 1 = y) :
    Calls Tryd.prog 9 #[.slice (some ⟨r, 0, none⟩) 2 2, .slice (some ⟨W.heap.size, 0, none⟩) 2 2] (W.alloc (.cells #[.int .i64 x, .int .i64 y] 3)) fun e w' => e = .returned (.bool true) ∧ Below W.heap.size W w' := by
  have h1 := (h.alloc (.cells #[.int .i64 x, .int .i64 y] 3)).ints (by decide)
  have h2 := ((lit_row W x y).ints (by decide)).congr (Y := X) (fun i hi => by
    have : i = 0 ∨ i = 1 := by omega
    rcases this with rfl | rfl
    · exact e0.symm
    · exact e1.symm)
  refine (same_yes _ _ 2 2 2 X (by omega) _ h1 h2).mono ?_
  rintro e w' ⟨he, hb⟩
  exact ⟨he, ((Below.refl _ W).alloc (Nat.le_refl _) _).trans (hb.mono (by rw [al_size]; omega))⟩
def exF (x : Nat) : P2 := (if x < 2 then two 3 5 x else 0, 0)
theorem exF_bd (x : Nat) : Bd 1048576 (exF x) := by
  unfold exF two Bd
  by_cases h : x < 2
  · by_cases h0 : x = 0
    · subst h0; simp
    · have : x = 1 := by omega
      subst this; simp
  · simp [h]
theorem exF_wav : wav 1 exF 0 = (8, 0) ∧ wav 1 exF 1 = (-2, 0) := by decide +kernel
theorem ex_waves {t : Nat} (w : World) (ht : Tab t w) (hd : DTab w) :
    Calls Tryd.prog 6 #[.pointer (some ⟨t, 0, none⟩), .slice (some ⟨w.heap.size, 0, none⟩) 2 2, .slice (some ⟨w.heap.size + 1, 0, none⟩) 2 2]
      ((w.alloc (.cells #[.int .i64 3, .int .i64 5] 3)).alloc (.cells #[.int .i64 0, .int .i64 0] 3)) fun e w' => ∃ r q, e = .returned (.tuple #[.slice (some ⟨r, 0, none⟩) 2 2, .slice (some ⟨q, 0, none⟩) 2 2]) ∧
        RowAt r 2 (fst (wav 1 exF)) w' ∧ RowAt q 2 (snd (wav 1 exF)) w' ∧ Below w.heap.size w w' := by
  have b1 := (Below.refl w.heap.size w).alloc (Nat.le_refl _) (.cells #[.int .i64 3, .int .i64 5] 3)
  have b2 := b1.alloc (by rw [al_size]; omega) (.cells #[.int .i64 0, .int .i64 0] 3)
  have r1 := ((lit_row w 3 5).alloc (.cells #[.int .i64 0, .int .i64 0] 3)).ints (by decide)
  have r2 := (lit_row (w.alloc (.cells #[.int .i64 3, .int .i64 5] 3)) 0 0).ints (by decide)
  rw [al_size] at r2
  have h := waves_yes (m := 1) (by omega) 2 rfl t _ _ 2 2 exF exF_bd _ (ht.below ht.1 b2) (hd.below b2) (r1.congr (fun i hi => (show two 3 5 i = if i < 2 then two 3 5 i else 0 from (if_pos hi).symm))) (r2.congr (fun i hi => (show two 0 0 i = 0 from by unfold two; split <;> rfl)))
  refine h.mono ?_
  rintro e w' ⟨r, q, he, h2⟩
  exact ⟨r, q, he, h2.a, h2.b, b2.trans (h2.bel.mono (by rw [al_size, al_size]; omega))⟩
theorem awake_any (w : World) (hd : DTab w) :
    Calls Tryd.prog 5 #[] w fun e w' => e = .returned (.bool true) ∧ Below w.heap.size w w' := by
  have HD : Hid (DTab w) := hd
  clear hd
  go_enter Tryd.func5, Tryd.ntmps5
  go_wp2_with (go_at_call 7; refine (make_any _).mono ?_; rintro e w1 ⟨rfl, ht, hb⟩)
  have HB : Hid (Below w.heap.size w w1) := hb
  refine (ex_waves w1 ht (HD.out.below hb)).mono ?_
  rintro e w2 ⟨r, q, rfl, h1, h2, hb2⟩
  have H1 : Hid (RowAt r 2 (fst (wav 1 exF)) w2) := h1
  have H2 : Hid (RowAt q 2 (snd (wav 1 exF)) w2) := h2
  have HB2 : Hid (Below w1.heap.size w1 w2) := hb2
  clear ht hb h1 h2 hb2
  go_wp2_with (fail)
  refine (same_lit H1.out 8 (-2) (congrArg Prod.fst exF_wav.1) (congrArg Prod.fst exF_wav.2)).mono ?_
  rintro e w3 ⟨rfl, hb3⟩
  have HB3 : Hid (Below w2.heap.size w2 w3) := hb3
  clear hb3
  go_wp2_with (fail)
  refine (same_lit (H2.out.below HB3.out) 0 0 (congrArg Prod.snd exF_wav.1) (congrArg Prod.snd exF_wav.2)).mono ?_
  rintro e w4 ⟨rfl, hb4⟩
  go_wp2
  go_ret
  have s1 := HB.out.size
  have s2 := HB2.out.size
  have s3 := HB3.out.size
  exact ⟨rfl, ((HB.out.trans (HB2.out.mono s1)).trans (HB3.out.mono (by omega))).trans (hb4.mono (by omega))⟩
theorem awake_to {w1 : World} (hd : DTab w1) :
    Hid (∀ W, Below w1.heap.size w1 W → Calls Tryd.prog 5 #[] W fun e w' => e = .returned (.bool true) ∧ Below w1.heap.size w1 w') :=
  fun W hW => (awake_any W (hd.below hW)).mono fun e w' ⟨he, hb⟩ => ⟨he, below_then hW hb⟩
end Go.Proofs.YthkojbmfhaaiiaaDoor
