/-
  The program's turned, Merge, Split.
-/
import Derived.Test.YtgbehapekfoaiaaSDH
namespace Go.Proofs.Ytgbehapekfoaiaa
open Go.ChangeShapes Go.WideShapes Go.ChangeAt Go.RowKit
set_option linter.unusedVariables false

theorem fn_merge : ∀ args W, (callFunc 16 args).run Try.prog W = .ok (.enter 16 args) W := fun _ _ => rfl
theorem fn_split : ∀ args W, (callFunc 18 args).run Try.prog W = .ok (.enter 18 args) W := fun _ _ => rfl
theorem fn_turned : ∀ args W, (callFunc 24 args).run Try.prog W = .ok (.enter 24 args) W := fun _ _ => rfl
theorem tr_start {N : Nat} {X Y : Nat → Int} (w : World) : TrBox w.heap.size N (.slice none 0 0) (.slice none 0 0) 0 X Y w (((w.alloc (.cells #[.func (.func N) #[] #[]] 30)).alloc (.cells #[.slice none 0 0] 22)).alloc (.cells #[.slice none 0 0] 22)) := by
  have ba : ∀ (W : World) (o : Obj), Below W.heap.size W (W.alloc o) := fun W o => (Below.refl _ W).alloc (Nat.le_refl _) _
  have h1 := al_new w (.cells #[.func (.func N) #[] #[]] 30)
  have h2 := al_new (w.alloc (.cells #[.func (.func N) #[] #[]] 30)) (.cells #[.slice none 0 0] 22)
  have h3 := al_new ((w.alloc (.cells #[.func (.func N) #[] #[]] 30)).alloc (.cells #[.slice none 0 0] 22)) (.cells #[.slice none 0 0] 22)
  rw [al_size] at h2
  rw [al_size, al_size] at h3
  refine ⟨World.ownsRow_nil _ _ _ _, World.ownsRow_nil _ _ _ _, .inl rfl, ?_, ?_, h3, ?_, by rw [al_size, al_size, al_size]; omega⟩
  · exact ((ba _ _).block _ (by rw [al_size, al_size]; omega)).trans (((ba _ _).block _ (by rw [al_size]; omega)).trans h1)
  · exact ((ba _ _).block _ (by rw [al_size, al_size]; omega)).trans h2
  · exact below_then (ba _ _) (below_then (ba _ _) (ba _ _))
theorem TrBox.post {g N : Nat} {u v : Value} {k : Nat} {X Y : Nat → Int} {w0 w : World} (hg : g = w0.heap.size) (h : TrBox g N u v k X Y w0 w) : SPost k X Y w0 (.returned (.tuple #[u, v])) w := by
  subst hg
  obtain ⟨a, c, rfl, h1⟩ := own_ints h.a
  obtain ⟨a', c', rfl, h2⟩ := own_ints h.b
  exact ⟨a, c, a', c', rfl, h1, h2, h.bel⟩
set_option maxRecDepth 100000 in
theorem turned_any (N : Nat) (F G : Int → Int → Int) (hN : ∀ args W, (callFunc N args).run Try.prog W = .ok (.enter N args) W)
    (hC : ∀ (x y : Int) (W : World), -33554432 ≤ x ∧ x ≤ 33554432 → -33554432 ≤ y ∧ y ≤ 33554432 → Calls Try.prog N #[.int .i64 x, .int .i64 y] W fun e w' => e = .returned (.tuple #[.int .i64 (F x y), .int .i64 (G x y)]) ∧ Below W.heap.size W w')
    (a b : Option Addr) (n m cap cap' : Nat) (A B : Nat → Int) (hn : n ≤ 1000) (hm : m ≤ 1000) (w : World) (h : IsInts w a n cap A) (h' : IsInts w b m cap' B) :
    Calls Try.prog 15 #[.slice a n cap, .slice b m cap', .func (.func N) #[] #[]] w (SPost (sdN n m A B) (fun i => F (A i) (B i)) (fun i => G (A i) (B i)) w) := by
  have hs := tr_start (N := N) (X := fun i => F (A i) (B i)) (Y := fun i => G (A i) (B i)) w
  obtain ⟨W0, hW0⟩ : ∃ W0, W0 = (((w.alloc (.cells #[.func (.func N) #[] #[]] 30)).alloc (.cells #[.slice none 0 0] 22)).alloc (.cells #[.slice none 0 0] 22)) := ⟨_, rfl⟩
  rw [← hW0] at hs
  have K := hid (walk_any a b n m cap cap' A B hn hm 24 #[.pointer (some ⟨w.heap.size, 0, none⟩), .pointer (some ⟨w.heap.size + 1, 0, none⟩), .pointer (some ⟨w.heap.size + 2, 0, none⟩)]
    (fun k W => ∃ u v, TrBox w.heap.size N u v k (fun i => F (A i) (B i)) (fun i => G (A i) (B i)) w W) (fun k W W' ⟨u, v, q⟩ hb => ⟨u, v, q.keep hb⟩)
    (fun e hin => by
      subst e
      refine ⟨fun k W W' ⟨u, v, q⟩ hb => ⟨u, v, q.keep hb⟩, fun k W ⟨u, v, q⟩ => ⟨h.below q.bel, h'.below q.bel⟩, fn_turned, fun k W hk ⟨u, v, q⟩ => ?_⟩
      exact turned1_any w.heap.size N (A k) (B k) _ _ u v k _ _ (by have := hin.n64; omega) rfl rfl w W q hN (fun W' => hC _ _ W' (hin.a k hk) (hin.b k hk)))
    W0 (h.below hs.bel) (h'.below hs.bel) ⟨_, _, hs⟩)
  obtain ⟨g, hg⟩ : ∃ g, g = w.heap.size := ⟨_, rfl⟩
  have HG := hid hg
  have HW := hid hW0
  rw [← hg] at K
  clear h h' hs hN hC hg hW0
  go_enter Try.func15, Try.ntmps15
  go_wp2_with (fail)
  rw [← HW.out, ← HG.out]
  refine Calls.mono K.out ?_
  rintro e w1 ⟨rfl, u, v, hq⟩
  obtain ⟨pa, pc, rfl, _⟩ := own_ints hq.a
  obtain ⟨qa, qc, rfl, _⟩ := own_ints hq.b
  have H := hid hq
  have e1 := hq.p.cell 0
  have f1 := hq.p.frozen 0
  have e2 := hq.q.cell 0
  have p2 := hq.q.other (a := ⟨g + 1, 0, none⟩) (by show g + 2 ≠ g + 1; omega) (.slice pa (sdN n m A B) pc)
  have e3 := p2.cell 0
  have f3 := p2.frozen 0
  clear p2 hq K HW
  go_wp2
  go_region
  go_wp2
  have HF := (H.out.next H.out.two).keep (show Below _ _ (World.drew _) from (Below.refl _ _).drew)
  clear e1 f1 e2 e3 f3 H
  generalize World.drew _ = W3 at HF ⊢
  have c1 := HF.p.cell 0
  have c2 := HF.q.cell 0
  refine bodyPost_ret (v := .tuple #[.slice pa (sdN n m A B) pc, .slice qa (sdN n m A B) qc]) ?_ rfl (HF.post HG.out)
  simp [results, Try.results15, go_sem, c1, c2]
theorem side_merge (a b : Option Addr) (n m cap cap' : Nat) (A B : Nat → Int) (hn : n ≤ 1000) (hm : m ≤ 1000) (w : World) (h : IsInts w a n cap A) (h' : IsInts w b m cap' B) :
    Calls Try.prog 6 #[.slice a n cap, .slice b m cap'] w (SPost (sdN n m A B) (mgL A B) (mgR A B) w) := by
  have K := hid (turned_any 16 (fun x y => x + y) (fun x y => x - y) fn_merge (fun x y W hx hy => merge1_any x y hx hy W) a b n m cap cap' A B hn hm w h h')
  clear h h'
  go_enter Try.func6, Try.ntmps6
  go_wp2_with (fail)
  refine Calls.mono K.out ?_
  rintro e w1 ⟨pa, pc, qa, qc, rfl, h1, h2, hb⟩
  have H : Hid (SPost (sdN n m A B) (mgL A B) (mgR A B) w (.returned (.tuple #[.slice pa (sdN n m A B) pc, .slice qa (sdN n m A B) qc])) w1) := ⟨pa, pc, qa, qc, rfl, h1, h2, hb⟩
  clear h1 h2 hb K
  go_wp2
  go_ret2
  exact H.out
theorem side_split (a b : Option Addr) (n m cap cap' : Nat) (A B : Nat → Int) (hn : n ≤ 1000) (hm : m ≤ 1000) (w : World) (h : IsInts w a n cap A) (h' : IsInts w b m cap' B) :
    Calls Try.prog 8 #[.slice a n cap, .slice b m cap'] w (SPost (sdN n m A B) (spM A B) (spS A B) w) := by
  have K := hid (turned_any 18 (fun x y => shrF (x + y) 1) (fun x y => shrF (x - y) 1) fn_split (fun x y W hx hy => split1_any x y hx hy W) a b n m cap cap' A B hn hm w h h')
  clear h h'
  go_enter Try.func8, Try.ntmps8
  go_wp2_with (fail)
  refine Calls.mono K.out ?_
  rintro e w1 ⟨pa, pc, qa, qc, rfl, h1, h2, hb⟩
  have H : Hid (SPost (sdN n m A B) (spM A B) (spS A B) w (.returned (.tuple #[.slice pa (sdN n m A B) pc, .slice qa (sdN n m A B) qc])) w1) := ⟨pa, pc, qa, qc, rfl, h1, h2, hb⟩
  clear h1 h2 hb K
  go_wp2
  go_ret2
  exact H.out
end Go.Proofs.Ytgbehapekfoaiaa
