/-
  The program's far, Better.
-/
import Derived.Test.YtgbehapekfoaiaaSDI
namespace Go.Proofs.Ytgbehapekfoaiaa
open Go.ChangeShapes Go.WideShapes Go.ChangeAt Go.RowKit
set_option linter.unusedVariables false

theorem fn_far : ∀ args W, (callFunc 27 args).run Try.prog W = .ok (.enter 27 args) W := fun _ _ => rfl
/-- Block g holds how far all are that were handed out. -/
structure FaBox (g : Nat) (s : Nat) (w0 w : World) : Prop where
  box : IsAt g 3 #[.int .i64 (s : Int)] w
  bel : Below g w0 w
theorem FaBox.lt {g s : Nat} {w0 w : World} (h : FaBox g s w0 w) : g < w.heap.size := (Array.getElem?_eq_some_iff.1 h.box).1
theorem FaBox.keep {g s : Nat} {w0 w W : World} (h : FaBox g s w0 w) (hb : Below w.heap.size w W) : FaBox g s w0 W :=
  ⟨(hb.block g h.lt).trans h.box, h.bel.trans (hb.mono (Nat.le_of_lt h.lt))⟩
set_option maxRecDepth 100000 in
theorem far1_any (g s : Nat) (x y : Int) (hx : x.natAbs ≤ 33554432) (hy : y.natAbs ≤ 33554432) (hs : s ≤ 4611686018427387904) (w0 w : World) (h : FaBox g s w0 w) :
    Calls Try.prog 27 #[.int .i64 x, .int .i64 y, .pointer (some ⟨g, 0, none⟩)] w fun e w' => e = .returned (.tuple #[]) ∧ FaBox g (s + (x.natAbs + y.natAbs)) w0 w' := by
  have K1 : Hid (∀ W, Below w.heap.size w W → Calls Try.prog 28 #[.int .i64 x] W fun e w' => e = .returned (.int .i64 (absF x)) ∧ Below w.heap.size w w') := fun W hW => (abs_any x W).mono fun e w' ⟨he, hb⟩ => ⟨he, below_then hW hb⟩
  have K2 : Hid (∀ W, Below w.heap.size w W → Calls Try.prog 28 #[.int .i64 y] W fun e w' => e = .returned (.int .i64 (absF y)) ∧ Below w.heap.size w w') := fun W hW => (abs_any y W).mono fun e w' ⟨he, hb⟩ => ⟨he, below_then hW hb⟩
  rw [absF_nat (by omega)] at K1 K2
  have HX := hid hx
  have HY := hid hy
  generalize x.natAbs = p at *
  generalize y.natAbs = q at *
  have D := hid (fun W (hW : Below w.heap.size w W) => (show W.cell? ⟨g, 0, none⟩ = some (.int .i64 (s : Int)) from (h.keep hW).box.cell 0))
  have HS := hid (show (s : Int) + ((p : Int) + (q : Int)) = ((s + (p + q) : Nat) : Int) by omega)
  have H := hid h
  clear h
  go_enter Try.func27, Try.ntmps27
  go_wp2
  refine' region_tail_plain (C := Below w.heap.size w) 7 (by kernel_rfl) (by kernel_rfl) (by decide) (by kernel_rfl) (Below.refl _ _).drew (Qa := fun a' => a' = _) ?_ ?_
  rotate_left
  · dsimp only [idleTail, idleN]
    repeat (go_big_quiet_step (first
      | (intro hq; rfl)
      | (intro hq; rw [D.out _ hq]; exact ⟨rfl, rfl⟩)
      | (intro hq; go_at_call 28; (with_reducible exact K1.out _ hq))
      | (intro hq; go_at_call 28; (with_reducible exact K2.out _ hq))))
    refine wpQuiet_nil ?_
    exact rfl
  · rintro a' w6 hb6 rfl
    dsimp only [List.drop]
    have H6 := hid (H.out.keep hb6)
    have e1 := H6.out.box.cell 0
    have f1 := H6.out.box.frozen 0
    clear hb6
    go_wp2
    go_end0
    rw [HS.out]
    exact ⟨rfl, H6.out.box.set 0 _, H6.out.bel.setCell (Nat.le_refl _) _⟩
/-- How far both are together. -/
theorem far_any (a b : Option Addr) (n m cap cap' : Nat) (A B : Nat → Int) (hn : n ≤ 1000) (hm : m ≤ 1000) (w : World) (h : IsInts w a n cap A) (h' : IsInts w b m cap' B) :
    Calls Try.prog 21 #[.slice a n cap, .slice b m cap'] w fun e w' => e = .returned (.int .i64 ((sdF A (sdN n m A B) + sdF B (sdN n m A B) : Nat) : Int)) ∧ Below w.heap.size w w' := by
  obtain ⟨W0, hW0⟩ : ∃ W0, W0 = w.alloc (.cells #[.int .i64 0] 3) := ⟨_, rfl⟩
  have hs : FaBox w.heap.size 0 w W0 := by
    rw [hW0]
    have h0 : IsAt w.heap.size 3 #[.int .i64 0] (w.alloc (.cells #[.int .i64 0] 3)) := al_new w _
    exact ⟨h0, (Below.refl _ w).alloc (Nat.le_refl _) _⟩
  have K := hid (walk_any a b n m cap cap' A B hn hm 27 #[.pointer (some ⟨w.heap.size, 0, none⟩)]
    (fun k W => FaBox w.heap.size (sdF A k + sdF B k) w W) (fun k W W' q hb => q.keep hb)
    (fun e hin => by
      subst e
      have n64 := hin.n64
      refine ⟨fun k W W' q hb => q.keep hb, fun k W q => ⟨h.below q.bel, h'.below q.bel⟩, fn_far, fun k W hk q => ?_⟩
      have ha := hin.a k hk
      have hb := hin.b k hk
      have b1 : sdF A k ≤ 33554432 * k := sdF_le k (fun i hi => by have := hin.a i (by omega); omega)
      have b2 : sdF B k ≤ 33554432 * k := sdF_le k (fun i hi => by have := hin.b i (by omega); omega)
      refine (far1_any w.heap.size (sdF A k + sdF B k) (A k) (B k) (by omega) (by omega) (by omega) w W q).mono fun e w' ⟨he, hf⟩ => ⟨he, ?_⟩
      have e : sdF A (k + 1) + sdF B (k + 1) = sdF A k + sdF B k + ((A k).natAbs + (B k).natAbs) := by rw [sdF, sdF]; omega
      rw [e]; exact hf)
    W0 (h.below hs.bel) (h'.below hs.bel) hs)
  obtain ⟨g, hg⟩ : ∃ g, g = w.heap.size := ⟨_, rfl⟩
  have HG := hid hg
  have HW := hid hW0
  have e0 : (w.alloc (.cells #[.int .i64 0] 3)).cell? ⟨w.heap.size, 0, none⟩ = some (.int .i64 0) := (show IsAt w.heap.size 3 #[.int .i64 0] (w.alloc (.cells #[.int .i64 0] 3)) from al_new w _).cell 0
  have f0 : (w.alloc (.cells #[.int .i64 0] 3)).frozen? ⟨w.heap.size, 0, none⟩ = false := (show IsAt w.heap.size 3 #[.int .i64 0] (w.alloc (.cells #[.int .i64 0] 3)) from al_new w _).frozen 0
  rw [← hg] at K
  clear h h' hs hg hW0
  generalize sdF A (sdN n m A B) + sdF B (sdN n m A B) = s at *
  go_enter Try.func21, Try.ntmps21
  go_wp2_with (fail)
  rw [← HW.out, ← HG.out]
  refine Calls.mono K.out ?_
  rintro e w1 ⟨rfl, hq⟩
  have H := hid hq
  have c1 := hq.box.cell 0
  clear hq K HW e0 f0
  go_wp2
  go_ret
  exact ⟨rfl, HG.out ▸ H.out.bel⟩
/-- Which of both is better. -/
theorem side_better (a b : Option Addr) (n m cap cap' : Nat) (A B : Nat → Int) (hn : n ≤ 1000) (hm : m ≤ 1000) (w : World) (h : IsInts w a n cap A) (h' : IsInts w b m cap' B) :
    Calls Try.prog 11 #[.slice a n cap, .slice b m cap'] w fun e w' => e = .returned (.bool (sdBet n m A B)) ∧ Below w.heap.size w w' := by
  have hN : sdN n m A B ≤ 64 := by
    unfold sdN
    split
    · rename_i hb; exact (sdB_iff.1 hb).2.n64
    · omega
  have e1 : sdN (sdN n m A B) (sdN n m A B) (spM A B) (spS A B) = sdN n m A B := by
    cases hb : sdB n m A B with
    | false =>
      have e : sdN n m A B = 0 := if_neg (by rw [hb]; simp)
      rw [e]; unfold sdN; split <;> rfl
    | true =>
      have e : sdN n m A B = n := if_pos hb
      obtain ⟨rfl, hin⟩ := sdB_iff.1 hb
      rw [e]
      have hmid := hin.mid
      exact if_pos (sdB_iff.2 ⟨rfl, hin.n64, fun i hi => (hmid i hi).1, fun i hi => (hmid i hi).2⟩)
  have e2 : sdBet n m A B = decide (4 * ((sdF (spM A B) (sdN n m A B) + sdF (spS A B) (sdN n m A B) : Nat) : Int) < 3 * ((sdF A (sdN n m A B) + sdF B (sdN n m A B) : Nat) : Int)) := by
    cases hb : sdB n m A B with
    | false =>
      have e : sdN n m A B = 0 := if_neg (by rw [hb]; simp)
      rw [e, sdBet, hb]; simp [sdF]
    | true =>
      have e : sdN n m A B = n := if_pos hb
      rw [e, sdBet, hb, Bool.true_and]; congr 1; rw [eq_iff_iff]; omega
  have bd : ∀ X : Nat → Int, (∀ i, i < sdN n m A B → (X i).natAbs ≤ 33554432) → sdF X (sdN n m A B) ≤ 2147483648 := fun X hX => by
    have := sdF_le (X := X) (sdN n m A B) hX
    omega
  have hin : ∀ i, i < sdN n m A B → ((A i).natAbs ≤ 33554432 ∧ (B i).natAbs ≤ 33554432) ∧ (spM A B i).natAbs ≤ 33554432 ∧ (spS A B i).natAbs ≤ 33554432 := fun i hi => by
    cases hb : sdB n m A B with
    | false =>
      have e : sdN n m A B = 0 := if_neg (by rw [hb]; simp)
      omega
    | true =>
      have e : sdN n m A B = n := if_pos hb
      obtain ⟨rfl, hin⟩ := sdB_iff.1 hb
      have q1 := hin.a i (by omega)
      have q2 := hin.b i (by omega)
      have q3 := hin.mid i (by omega)
      omega
  have b1 := bd (spM A B) (fun i hi => (hin i hi).2.1)
  have b2 := bd (spS A B) (fun i hi => (hin i hi).2.2)
  have b3 := bd A (fun i hi => (hin i hi).1.1)
  have b4 := bd B (fun i hi => (hin i hi).1.2)
  rw [e2]
  have K1 := hid (side_split a b n m cap cap' A B hn hm w h h')
  have K2 : Hid (∀ a1 c1 a2 c2 W, IsInts W a1 (sdN n m A B) c1 (spM A B) → IsInts W a2 (sdN n m A B) c2 (spS A B) → Calls Try.prog 21 #[.slice a1 (sdN n m A B) c1, .slice a2 (sdN n m A B) c2] W fun e w' => e = .returned (.int .i64 ((sdF (spM A B) (sdN n m A B) + sdF (spS A B) (sdN n m A B) : Nat) : Int)) ∧ Below W.heap.size W w') := fun a1 c1 a2 c2 W q1 q2 => by
    have := far_any a1 a2 (sdN n m A B) (sdN n m A B) c1 c2 (spM A B) (spS A B) (by omega) (by omega) W q1 q2
    rw [e1] at this
    exact this
  have K3 : Hid (∀ W, Below w.heap.size w W → Calls Try.prog 21 #[.slice a n cap, .slice b m cap'] W fun e w' => e = .returned (.int .i64 ((sdF A (sdN n m A B) + sdF B (sdN n m A B) : Nat) : Int)) ∧ Below W.heap.size W w') := fun W hW => far_any a b n m cap cap' A B hn hm W (h.below hW) (h'.below hW)
  have c1 : sdF (spM A B) (sdN n m A B) + sdF (spS A B) (sdN n m A B) ≤ 4294967296 := by omega
  have c2 : sdF A (sdN n m A B) + sdF B (sdN n m A B) ≤ 4294967296 := by omega
  clear h h' e1 e2 bd hin b1 b2 b3 b4
  generalize sdF (spM A B) (sdN n m A B) + sdF (spS A B) (sdN n m A B) = f1 at *
  generalize sdF A (sdN n m A B) + sdF B (sdN n m A B) = f2 at *
  generalize sdN n m A B = N at *
  go_enter Try.func11, Try.ntmps11
  go_wp2_with (fail)
  refine Calls.mono K1.out ?_
  rintro e w1 ⟨a1, p1, a2, p2, rfl, i1, i2, hb1⟩
  have k2 := hid (K2.out _ _ _ _ _ i1 i2)
  have HB := hid hb1
  clear i1 i2 hb1 K1 K2
  go_wp2_with (fail)
  refine Calls.mono k2.out ?_
  rintro e w2 ⟨rfl, hb2⟩
  have HB2 := hid (below_then HB.out hb2)
  clear hb2 HB k2
  go_wp2_with (fail)
  refine Calls.mono (K3.out _ HB2.out) ?_
  rintro e w3 ⟨rfl, hb3⟩
  have HB3 := hid (below_then HB2.out hb3)
  clear hb3 HB2 K3
  go_wp2
  go_ret
  exact ⟨rfl, HB3.out⟩
end Go.Proofs.Ytgbehapekfoaiaa
