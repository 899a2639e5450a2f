/-
  sym.takeValue, GetBits, GetBelow: what a decoder tells.
-/
import Derived.Test.YtdfpmhdgebajfaaDoorQ
namespace Go.Proofs.YtdfpmhdgebajfaaDoor
open Go.ChangeShapes Go.WideShapes Go.ChangeAt Go.RowKit
set_option linter.unusedVariables false
set_option maxRecDepth 100000

theorem placeF_nat (d : De) (t : Nat) (h1 : 1 ≤ t) (h2 : t ≤ 65536) : placeF d (t : Int) = (placeD d t : Int) := by
  unfold placeF
  rw [if_pos (by omega)]
  simp
theorem but_alloc {r : Nat} {a w : World} (h : But r a w) (o : Obj) : But r a (w.alloc o) := h.trans (But.of_below ((Below.refl _ w).alloc (Nat.le_refl _) o))
theorem value_at (r : Nat) (l : List UInt8) (d : De) (t : Nat) (w : World) (h : IsAt r 65 (dc l d) w) (ok : d.Ok) (h1 : 1 ≤ t) (h2 : t ≤ 65536) (hl : l.length ≤ 100000) :
    Calls Tryd.prog 32 #[.pointer (some ⟨r, 0, none⟩), .int .i64 t] w fun e w' => e = .returned (.int .i64 (placeD d t : Int)) ∧ IsAt r 65 (dc l (takeD l d (placeD d t) (placeD d t + 1) t)) w' ∧ But r w w' := by
  have HI : Hid (IsAt r 65 (dc l d) w) := h
  have PF := placeF_nat d t h1 h2
  have hx := place_lt d t h1
  have hp := place_part d t h1 h2
  have HP : Hid (IsPart (placeD d t) (placeD d t + 1) t) := hp
  have HF : Hid (placeF d (t : Int) = (placeD d t : Int)) := PF
  clear h PF hp
  have hx0 : (0 : Int) ≤ (placeD d t : Int) := by omega
  have hx1 : (placeD d t : Int) ≤ 65536 := by omega
  generalize placeD d t = x at *
  go_enter Tryd.func32, Tryd.ntmps32
  go_wp2_with (fail)
  refine (place_at r l d (t : Int) _ HI.out ok).mono ?_
  rintro e w1 ⟨rfl, n1, rfl⟩
  rw [HF.out]
  have H1 : Hid (IsAt r 65 (dc l d) (w.drewN n1)) := HI.out.drewN n1
  have B1 : Hid (But r w (w.drewN n1)) := (But.refl r w).drewN n1
  clear HI
  generalize w.drewN n1 = w1 at *
  go_wp2_with (fail)
  refine (even_any (t : Int) _).mono ?_
  rintro e w2 ⟨rfl, c2, b2⟩
  have C2 : Hid (w2.cell? ⟨w1.heap.size, 0, none⟩ = some (.int .i64 (t : Int))) := c2
  have H2 : Hid (IsAt r 65 (dc l d) w2) := H1.out.below b2
  have B2 : Hid (But r w w2) := B1.out.trans (But.of_below b2)
  clear H1 B1 c2 b2
  go_wp2_with (fail)
  refine (even1_at _ (t : Int) (x : Int) _ C2.out hx0 hx1).mono ?_
  rintro e w3 ⟨rfl, b3⟩
  have H3 : Hid (IsAt r 65 (dc l d) w3) := H2.out.below b3
  have B3 : Hid (But r w w3) := B2.out.trans (But.of_below b3)
  clear H2 B2 C2 b3
  go_wp2_with (fail)
  refine (take_at r l d x (x + 1) t _ H3.out ok HP.out hl).mono ?_
  rintro e w4 ⟨rfl, h4, b4⟩
  have H4 : Hid (IsAt r 65 (dc l (takeD l d x (x + 1) t)) w4) := h4
  have B4 : Hid (But r w w4) := B3.out.trans b4
  clear h4 b4 H3 B3
  go_wp2
  go_ret
  exact ⟨rfl, H4.out, B4.out⟩
end Go.Proofs.YtdfpmhdgebajfaaDoor
