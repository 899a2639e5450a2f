/-
  Calls of level one behind the other, over one world; the chapter's examples, as the statements ask for them.
-/
import Derived.Test.YtchchemcaaggmaaDoorLB
namespace Go.Proofs.YtchchemcaaggmaaDoor
open Go.ChangeShapes Go.WideShapes Go.ChangeAt Go.RowKit
set_option linter.unusedVariables false

theorem lamp_to {w1 : World} (ht : LTab w1) (c f v : Int) (e : ampF c f = v) :
    Hid (∀ W, Below w1.heap.size w1 W → Calls Tryd.prog 8 #[.int .i64 c, .int .i64 f] W fun e w' => e = .returned (.int .i64 v) ∧ Below w1.heap.size w1 w') :=
  fun W hW => by subst e; exact (lamp_any c f W (ht.below hW)).mono fun e w' ⟨he, hb⟩ => ⟨he, below_then hW hb⟩
theorem lgain_to {w1 : World} (ht : LTab w1) (g v : Int) (e : gainF g = v) :
    Hid (∀ W, Below w1.heap.size w1 W → Calls Tryd.prog 10 #[.int .i64 g] W fun e w' => e = .returned (.int .i64 v) ∧ Below w1.heap.size w1 w') :=
  fun W hW => by subst e; exact (lgain_any g W (ht.below hW)).mono fun e w' ⟨he, hb⟩ => ⟨he, below_then hW hb⟩
theorem lapply_to {w1 : World} (ht : LTab w1) (x g v : Int) (e : applyF x g = v) :
    Hid (∀ W, Below w1.heap.size w1 W → Calls Tryd.prog 12 #[.int .i64 x, .int .i64 g] W fun e w' => e = .returned (.int .i64 v) ∧ Below w1.heap.size w1 w') :=
  fun W hW => by subst e; exact (lapply_any x g W (ht.below hW)).mono fun e w' ⟨he, hb⟩ => ⟨he, below_then hW hb⟩
theorem lfind_to {w1 : World} (ht : LTab w1) (a : Int) :
    Hid (∀ W, Below w1.heap.size w1 W → Calls Tryd.prog 6 #[.int .i64 a] W fun e w' => ∃ c f, e = .returned (.tuple #[.int .i64 c, .int .i64 f]) ∧ Finds a c f ∧ Below w1.heap.size w1 w') :=
  fun W hW => (lfind_any a W (ht.below hW)).mono fun e w' ⟨c, f, he, hf, hb⟩ => ⟨c, f, he, hf, below_then hW hb⟩
theorem lfound_to {w1 : World} (ht : LTab w1) (a c f : Int) (h : Found a c f) :
    Hid (∀ W, Below w1.heap.size w1 W → Calls Tryd.prog 6 #[.int .i64 a] W fun e w' => e = .returned (.tuple #[.int .i64 c, .int .i64 f]) ∧ Below w1.heap.size w1 w') :=
  fun W hW => ((lfind_to ht a).out W hW).mono fun e w' ⟨c', f', he, hf, hb⟩ => by
    obtain ⟨rfl, rfl⟩ := hf.one (.inr h)
    exact ⟨he, hb⟩
theorem lfind9_to {w1 : World} (ht : LTab w1) :
    Hid (∀ W, Below w1.heap.size w1 W → Calls Tryd.prog 6 #[.int .i64 9] W fun e w' => e = .returned (.tuple #[.int .i64 3, .int .i64 0]) ∧ Below w1.heap.size w1 w') :=
  lfound_to ht 9 3 0 found9
theorem lawake_any (w : World) (ht : LTab w) :
    Calls Tryd.prog 14 #[] w fun e w' => e = .returned (.bool true) ∧ Below w.heap.size w w' := by
  have k0 := lfind9_to ht
  have k1 := lamp_to ht 3 0 8 amp30
  have k2 := lgain_to ht 0 65536 gain0
  have k3 := lapply_to ht 100 4 200 apply100
  have k4 := lamp_to ht 0 0 0 amp00
  have k5 := lapply_to ht (-30000) 8 (-32768) apply30000
  have b0 := Below.refl w.heap.size w
  clear ht
  go_enter Tryd.func14, Tryd.ntmps14
  go_wp2_with (first
    | (go_at_call 6; (with_reducible refine (k0.out _ b0).mono ?_); rintro e w1 ⟨rfl, b1⟩)
    | (go_at_call 8; (with_reducible refine (k1.out _ b1).mono ?_); rintro e w2 ⟨rfl, b2⟩)
    | (go_at_call 10; (with_reducible refine (k2.out _ b2).mono ?_); rintro e w3 ⟨rfl, b3⟩)
    | (go_at_call 12; (with_reducible refine (k3.out _ b3).mono ?_); rintro e w4 ⟨rfl, b4⟩)
    | (go_at_call 8; (with_reducible refine (k4.out _ b4).mono ?_); rintro e w5 ⟨rfl, b5⟩)
    | (go_at_call 12; (with_reducible refine (k5.out _ b5).mono ?_); rintro e w6 ⟨rfl, b6⟩))
  go_ret
  exact ⟨rfl, b6⟩
theorem lawake_to {w1 : World} (ht : LTab w1) :
    Hid (∀ W, Below w1.heap.size w1 W → Calls Tryd.prog 14 #[] W fun e w' => e = .returned (.bool true) ∧ Below w1.heap.size w1 w') :=
  fun W hW => (lawake_any W (ht.below hW)).mono fun e w' ⟨he, hb⟩ => ⟨he, below_then hW hb⟩
end Go.Proofs.YtchchemcaaggmaaDoor
