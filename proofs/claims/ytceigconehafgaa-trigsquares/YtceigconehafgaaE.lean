/-
  The chapter's examples, as the statements ask for them; calls one behind the other, over one table.
-/
import Derived.Test.YtceigconehafgaaC
namespace Go.Proofs.Ytceigconehafgaa
open Go.ChangeShapes Go.WideShapes Go.ChangeAt Go.RowKit
set_option linter.unusedVariables false

/-- A call that may come behind others: they left all as it was in w1. -/
theorem chain {P : Program} {f : Nat} {args : Array Value} {v : Value} {w1 : World} {T : World → Prop} (hT : ∀ W, Below w1.heap.size w1 W → T W)
    (h : ∀ W, T W → Calls P f args W fun e w' => e = .returned v ∧ Below W.heap.size W w') :
    Hid (∀ W, Below w1.heap.size w1 W → Calls P f args W fun e w' => e = .returned v ∧ Below w1.heap.size w1 w') :=
  fun W hW => (h W (hT W hW)).mono fun e w' ⟨he, hb⟩ => ⟨he, below_then hW hb⟩
theorem Tab.later {r : Nat} {w1 : World} (h : Tab r w1) : ∀ W, Below w1.heap.size w1 W → Tab r W := fun W hW => h.below h.1 hW
theorem cosF_i {k : Int} {v : Int} (h : -1152921504606846976 ≤ k ∧ k ≤ 1152921504606846976) (e : cosI k = v) : cosF k = v := by rw [cosF_in h.1 h.2, e]
theorem sinF_i {k : Int} {v : Int} (h : -1152921504606846976 ≤ k ∧ k ≤ 1152921504606846976) (e : sinI k = v) : sinF k = v := by rw [sinF_in h.1 h.2, e]
theorem cos_to {r : Nat} {w1 : World} (ht : Tab r w1) (k v : Int) (e : cosF k = v) :
    Hid (∀ W, Below w1.heap.size w1 W → Calls Try.prog 10 #[.pointer (some ⟨r, 0, none⟩), .int .i64 k] W fun e w' => e = .returned (.int .i64 v) ∧ Below w1.heap.size w1 w') :=
  chain ht.later (fun W hW => by have h := cos_any r k W hW; rwa [e] at h)
theorem sin_to {r : Nat} {w1 : World} (ht : Tab r w1) (k v : Int) (e : sinF k = v) :
    Hid (∀ W, Below w1.heap.size w1 W → Calls Try.prog 12 #[.pointer (some ⟨r, 0, none⟩), .int .i64 k] W fun e w' => e = .returned (.int .i64 v) ∧ Below w1.heap.size w1 w') :=
  chain ht.later (fun W hW => by have h := sin_any r k W hW; rwa [e] at h)
theorem turn_to {r : Nat} {w1 : World} (ht : Tab r w1) (re im k x y : Int) (e1 : turnReF re im k = x) (e2 : turnImF re im k = y) :
    Hid (∀ W, Below w1.heap.size w1 W → Calls Try.prog 8 #[.pointer (some ⟨r, 0, none⟩), .int .i64 re, .int .i64 im, .int .i64 k] W fun e w' => e = .returned (.tuple #[.int .i64 x, .int .i64 y]) ∧ Below w1.heap.size w1 w') :=
  chain ht.later (fun W hW => by have h := turn_any r re im k W hW; rwa [e1, e2] at h)
theorem turnReF_i {re im k v : Int} (h : okTurn re im k) (e : turnRe re im k = v) : turnReF re im k = v := by rw [turnReF, if_pos h, e]
theorem turnImF_i {re im k v : Int} (h : okTurn re im k) (e : turnIm re im k = v) : turnImF re im k = v := by rw [turnImF, if_pos h, e]

theorem awake_any (w : World) :
    Calls Try.prog 14 #[] w fun e w' => e = .returned (.bool true) ∧ Below w.heap.size w w' := by
  go_enter Try.func14, Try.ntmps14
  go_wp2_with (go_at_call 7; refine (make_any _).mono ?_; rintro e w1 ⟨rfl, ht, hb⟩)
  have HB : Hid (Below w.heap.size w w1) := hb
  have k1 := turn_to ht 100 0 128 0 (-100) (turnReF_i (by unfold okTurn; omega) (turn128_re _ _)) (turnImF_i (by unfold okTurn; omega) (turn128_im _ _))
  have k2 := cos_to ht 0 16777216 (cosF_i (by omega) cos0)
  have k3 := cos_to ht 128 0 (cosF_i (by omega) cos128)
  have k4 := cos_to ht 256 (-16777216) (cosF_i (by omega) cos256)
  have k5 := sin_to ht 128 16777216 (sinF_i (by omega) sin128)
  have b0 := Below.refl w1.heap.size w1
  clear ht hb
  go_wp2_with (first
    | (go_at_call 8; (with_reducible refine (k1.out _ b0).mono ?_); rintro e w2 ⟨rfl, b1⟩)
    | (go_at_call 10; (with_reducible refine (k2.out _ b1).mono ?_); rintro e w3 ⟨rfl, b2⟩)
    | (go_at_call 10; (with_reducible refine (k3.out _ b2).mono ?_); rintro e w4 ⟨rfl, b3⟩)
    | (go_at_call 10; (with_reducible refine (k4.out _ b3).mono ?_); rintro e w5 ⟨rfl, b4⟩)
    | (go_at_call 12; (with_reducible refine (k5.out _ b4).mono ?_); rintro e w6 ⟨rfl, b5⟩))
  go_ret
  exact ⟨rfl, below_then HB.out b5⟩
end Go.Proofs.Ytceigconehafgaa
