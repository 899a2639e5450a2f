/-
  The program's turned: two rows that grow by append, each behind a pointer, a pair at a time.
-/
import Derived.Test.YtgbehapekfoaiaaSDG
import Derived.Handy
namespace Go.Proofs.Ytgbehapekfoaiaa
open Go.ChangeShapes Go.WideShapes Go.ChangeAt Go.RowKit
set_option linter.unusedVariables false

theorem infoL : ∃ i, Try.prog.info? 3 = some i ∧ i.zero = some (.int .i64 0) ∧ i.size = 1 ∧ i.bytes = 8 := by
  have h : (Try.prog.info? 3).map (fun i => (i.zero, i.size, i.bytes)) = some (some (.int .i64 0), 1, 8) := by kernel_rfl
  obtain ⟨i, hi, e⟩ := Option.map_eq_some_iff.1 h
  simp at e
  exact ⟨i, hi, e⟩
theorem merge1_any (x y : Int) (hx : -33554432 ≤ x ∧ x ≤ 33554432) (hy : -33554432 ≤ y ∧ y ≤ 33554432) (w : World) :
    Calls Try.prog 16 #[.int .i64 x, .int .i64 y] w fun e w' => e = .returned (.tuple #[.int .i64 (x + y), .int .i64 (x - y)]) ∧ Below w.heap.size w w' := by
  go_enter Try.func16, Try.ntmps16
  go_wp2
  go_ret2
  exact ⟨rfl, Below.refl _ _⟩
theorem split1_any (x y : Int) (hx : -33554432 ≤ x ∧ x ≤ 33554432) (hy : -33554432 ≤ y ∧ y ≤ 33554432) (w : World) :
    Calls Try.prog 18 #[.int .i64 x, .int .i64 y] w fun e w' => e = .returned (.tuple #[.int .i64 (shrF (x + y) 1), .int .i64 (shrF (x - y) 1)]) ∧ Below w.heap.size w w' := by
  have K1 := hid (fun W => shr_any (x + y) 1 W)
  have K2 := hid (fun W => shr_any (x - y) 1 W)
  generalize shrF (x + y) 1 = p at *
  generalize shrF (x - y) 1 = q at *
  go_enter Try.func18, Try.ntmps18
  go_wp2_with (fail)
  refine Calls.mono (K1.out _) ?_
  rintro e w1 ⟨rfl, b1⟩
  go_wp2_with (fail)
  refine Calls.mono (K2.out _) ?_
  rintro e w2 ⟨rfl, b2⟩
  have HB := hid (below_then b1 b2)
  clear b1 b2 K1 K2
  go_wp2
  go_ret2
  exact ⟨rfl, HB.out⟩
/-- Block g holds the function, g + 1 and g + 2 the two rows on the way. -/
structure TrBox (g N : Nat) (u v : Value) (k : Nat) (X Y : Nat → Int) (w0 w : World) : Prop where
  a : w.ownsRow (g + 3) 3 1 u k (intL k X)
  b : w.ownsRow (g + 3) 3 1 v k (intL k Y)
  ne : u.ownBlock = none ∨ u.ownBlock ≠ v.ownBlock
  f : IsAt g 30 #[.func (.func N) #[] #[]] w
  p : IsAt (g + 1) 22 #[u] w
  q : IsAt (g + 2) 22 #[v] w
  bel : Below g w0 w
  sz : g + 3 ≤ w.heap.size
theorem TrBox.keep {g N : Nat} {u v : Value} {k : Nat} {X Y : Nat → Int} {w0 w W : World} (h : TrBox g N u v k X Y w0 w) (hb : Below w.heap.size w W) : TrBox g N u v k X Y w0 W := by
  have hs := h.sz
  exact ⟨owns_below h.a hb, owns_below h.b hb, h.ne, (hb.block _ (by omega)).trans h.f, (hb.block _ (by omega)).trans h.p, (hb.block _ (by omega)).trans h.q, h.bel.trans (hb.mono (by omega)), Nat.le_trans h.sz hb.size⟩
theorem TrBox.two {g N : Nat} {u v : Value} {k : Nat} {X Y : Nat → Int} {w0 w : World} (h : TrBox g N u v k X Y w0 w) : TwoOwn (g + 3) u v k k X Y w w := ⟨h.a, h.b, h.ne, Below.refl _ _, h.sz⟩
theorem TrBox.next {g N : Nat} {u v u' v' : Value} {k j : Nat} {X Y : Nat → Int} {w0 w w3 : World} (h : TrBox g N u v k X Y w0 w) (T : TwoOwn (g + 3) u' v' j j X Y w w3) :
    TrBox g N u' v' j X Y w0 ((w3.setCell ⟨g + 1, 0, none⟩ u').setCell ⟨g + 2, 0, none⟩ v') := by
  have hf : IsAt g 30 #[.func (.func N) #[] #[]] w3 := (T.bel.block _ (by omega)).trans h.f
  have hp : IsAt (g + 1) 22 #[u] w3 := (T.bel.block _ (by omega)).trans h.p
  have hq : IsAt (g + 2) 22 #[v] w3 := (T.bel.block _ (by omega)).trans h.q
  refine ⟨ownsRow_setCell_below (ownsRow_setCell_below T.a (show g + 1 < g + 3 by omega) _) (show g + 2 < g + 3 by omega) _, ownsRow_setCell_below (ownsRow_setCell_below T.b (show g + 1 < g + 3 by omega) _) (show g + 2 < g + 3 by omega) _, T.ne, ?_, ?_, ?_, ?_, ?_⟩
  · exact (hf.other (a := ⟨g + 1, 0, none⟩) (by show g ≠ g + 1; omega) _).other (a := ⟨g + 2, 0, none⟩) (by show g ≠ g + 2; omega) _
  · exact (hp.set 0 u').other (a := ⟨g + 2, 0, none⟩) (by show g + 1 ≠ g + 2; omega) _
  · exact (hq.other (a := ⟨g + 1, 0, none⟩) (by show g + 2 ≠ g + 1; omega) _).set 0 v'
  · exact ((h.bel.trans (T.bel.mono (by omega))).setCell (show g ≤ g + 1 by omega) _).setCell (show g ≤ g + 2 by omega) _
  · have := T.sz
    simp [World.setCell]; omega
/-- The first row has one more; the second one's stands by itself. -/
structure HeadPost (g N : Nat) (u v : Value) (k : Nat) (X Y : Nat → Int) (d : Int) (h2 g1 c1 : Nat) (w0 w1 W : World) : Prop where
  two : TwoOwn (g + 3) (.slice (some ⟨g1, 0, none⟩) (k + 1) c1) v (k + 1) k X Y w1 W
  at2 : IsAt h2 3 #[.int .i64 d] W
/-- A number by itself, in a block that is not the row's. -/
structure News (h : Nat) (c : Int) (u : Value) (w : World) : Prop where
  row : IsAt h 3 #[.int .i64 c] w
  ne : u.ownBlock ≠ some h
theorem News.new {B : Nat} {u v : Value} {ka kb : Nat} {X Y : Nat → Int} {w0 w : World} (c : Int) (h : TwoOwn B u v ka kb X Y w0 w) : News w.heap.size c u (w.alloc (.cells #[.int .i64 c] 3)) :=
  ⟨al_new w _, fun e => by have := (h.a.lt _ e).2; omega⟩
theorem News.below {h : Nat} {c : Int} {u : Value} {w W : World} (hn : News h c u w) (hb : Below w.heap.size w W) : News h c u W :=
  ⟨(hb.block h (Array.getElem?_eq_some_iff.1 hn.row).1).trans hn.row, hn.ne⟩
theorem News.grown {h : Nat} {c : Int} {u : Value} {w W : World} (hn : News h c u w) (hg : w.grownBy W u.ownBlock) : News h c (.slice none 0 0) W :=
  ⟨(hg.block h (Array.getElem?_eq_some_iff.1 hn.row).1 (fun e => hn.ne e.symm)).trans hn.row, by simp [Value.ownBlock]⟩
theorem append_one (B k h : Nat) (c : Int) (u : Value) (l : List Value) (w : World) (hk : k < 1000) (hown : w.ownsRow B 3 1 u k l) (hrow : IsAt h 3 #[.int .i64 c] w) (hsz : B ≤ w.heap.size) :
    ∀ (b : Bool) (o : Oper) (a : Act) (K : Act → World → Prop) (Q : Exit → Act → World → Prop) (E : Prop), b = true → ∀ (s x : Operand) (t : TypeId), o.op = .call { callee := .builtin .append, args := #[s, x], argTypes := #[t, t] } → Try.prog.underlying t = some (.slice 3) → a.eval s = u → a.eval x = .slice (some ⟨h, 0, none⟩) 1 1 →
      (∀ g cap w', w'.ownsRow B 3 1 (.slice (some ⟨g, 0, none⟩) (k + 1) cap) (k + 1) (l ++ [.int .i64 c]) → w.grownBy w' u.ownBlock → (u.ownBlock = some g ∨ g = w.heap.size) → g < w'.heap.size → K (a.put o.dst (.slice (some ⟨g, 0, none⟩) (k + 1) cap)) w') →
      if b = true then Oper.wp Try.prog o a w K Q else E := by
  intro b o a K Q E hgd s x t ho ht hs hx hK
  obtain ⟨i0, hi, hz0, hz1, hz2⟩ := infoL
  rw [if_pos hgd]
  refine wp_append_lies _ s x t ho B 3 i0 (.int .i64 0) 1 8 ht hi hz0 hz1 hz2 rfl (by omega) u k l hs hown ⟨h, 0, none⟩ 1 1 [.int .i64 c] hx rfl (World.news_of_block (cs := #[.int .i64 c]) hrow) ?_ (by omega) (by unfold maxLen; omega) (by omega) hsz _ rfl hK
  intro v hv
  simp at hv
  subst hv
  rfl
theorem box_cells {g N : Nat} {u v : Value} {k : Nat} {X Y : Nat → Int} {w0 w1 W : World} (h : TrBox g N u v k X Y w0 w1) (hb : Below (g + 3) w1 W) : W.cell? ⟨g + 1, 0, none⟩ = some u ∧ W.cell? ⟨g + 2, 0, none⟩ = some v :=
  ⟨(hb.cell (p := ⟨g + 1, 0, none⟩) (by show g + 1 < g + 3; omega)).trans (h.p.cell 0), (hb.cell (p := ⟨g + 2, 0, none⟩) (by show g + 2 < g + 3; omega)).trans (h.q.cell 0)⟩
set_option maxRecDepth 100000 in
set_option maxHeartbeats 1000000 in
theorem turned1_any (g N : Nat) (x y c d : Int) (u v : Value) (k : Nat) (X Y : Nat → Int) (hk : k < 64) (hc : c = X k) (hd : d = Y k) (w0 w : World) (h : TrBox g N u v k X Y w0 w)
    (hN : ∀ args W, (callFunc N args).run Try.prog W = .ok (.enter N args) W) (hC : ∀ W, Calls Try.prog N #[.int .i64 x, .int .i64 y] W fun e w' => e = .returned (.tuple #[.int .i64 c, .int .i64 d]) ∧ Below W.heap.size W w') :
    Calls Try.prog 24 #[.int .i64 x, .int .i64 y, .pointer (some ⟨g, 0, none⟩), .pointer (some ⟨g + 1, 0, none⟩), .pointer (some ⟨g + 2, 0, none⟩)] w fun e w' => e = .returned (.tuple #[]) ∧ ∃ u' v', TrBox g N u' v' (k + 1) X Y w0 w' := by
  obtain ⟨i0, hi, hz0, hz1, hz2⟩ := infoL
  have HI : Hid (Try.prog.info? 3 = some i0) := hi
  have HN := hid hN
  have HC := hid hC
  have HX := hid hc
  have HY := hid hd
  have H := hid h
  have c0 := h.f.cell 0
  clear hN hC hc hd h hi
  go_enter Try.func24, Try.ntmps24
  go_wp2_with (fail)
  rw [HN.out, Oper.upon_enter]
  refine Calls.mono (HC.out _) ?_
  rintro e w1 ⟨rfl, b1⟩
  have H1 := hid (H.out.keep b1)
  clear b1 H c0 HC
  go_wp2
  refine region_head 7 (by kernel_rfl) (by kernel_rfl) (by decide) (fun a W => ∃ h1 h2 g1 c1, a = ⟨#[.int .i64 x, .int .i64 y, .pointer (some ⟨g, 0, none⟩), .pointer (some ⟨g + 1, 0, none⟩), .pointer (some ⟨g + 2, 0, none⟩), undef, undef, .int .i64 c, .int .i64 d, .tuple #[.int .i64 c, .int .i64 d], .func (.func N) #[] #[], .int .i64 x, .int .i64 y, .tuple #[.int .i64 c, .int .i64 d], .int .i64 c, .int .i64 d, u, .int .i64 c, .slice (some ⟨h1, 0, none⟩) 1 1, .slice (some ⟨g1, 0, none⟩) (k + 1) c1, v, .int .i64 d, .slice (some ⟨h2, 0, none⟩) 1 1, undef], []⟩ ∧ HeadPost g N u v k X Y d h2 g1 c1 w0 w1 W) (fun W => W.cell? ⟨g + 1, 0, none⟩ = some u ∧ W.cell? ⟨g + 2, 0, none⟩ = some v) ⟨H1.out.p.cell 0, H1.out.q.cell 0⟩ (fun hfin hHeld => ?_) ?_
  · dsimp only [idleTail, idleN] at hfin ⊢
    have HF := hid hfin
    clear hfin
    refine wpAnyH_take (i := 0) (v := u) rfl (by kernel_rfl) (by kernel_rfl) (by kernel_rfl) (fun _ _ _ h => h) (Or.inl ⟨by rfl, ?_⟩) hHeld ?_
    · intro wz hSw
      obtain ⟨p0, p1⟩ := hSw
      simp only [List.getElem_toArray, List.getElem_cons_zero]
      go_simp
      try (with_reducible rfl)
    simp only [List.getElem_toArray, List.getElem_cons_zero, Act.put, List.setIfInBounds_toArray, List.set_cons_zero, List.set_cons_succ]
    refine wpAnyH_take (i := 1) (v := .int .i64 c) rfl (by kernel_rfl) (by kernel_rfl) (by kernel_rfl) (fun _ _ _ h => h) (Or.inl ⟨by rfl, ?_⟩) hHeld ?_
    · intro wz hSw
      obtain ⟨p0, p1⟩ := hSw
      simp only [List.getElem_toArray, List.getElem_cons_zero, List.getElem_cons_succ]
      go_simp
      try (with_reducible rfl)
    simp only [List.getElem_toArray, List.getElem_cons_zero, List.getElem_cons_succ, Act.put, List.setIfInBounds_toArray, List.set_cons_zero, List.set_cons_succ]
    refine wpAnyH_take (i := 4) (v := v) rfl (by kernel_rfl) (by kernel_rfl) (by kernel_rfl) (fun _ _ _ h => h) (Or.inl ⟨by rfl, ?_⟩) hHeld ?_
    · intro wz hSw
      obtain ⟨p0, p1⟩ := hSw
      simp only [List.getElem_toArray, List.getElem_cons_zero, List.getElem_cons_succ]
      go_simp
      try (with_reducible rfl)
    simp only [List.getElem_toArray, List.getElem_cons_zero, List.getElem_cons_succ, Act.put, List.setIfInBounds_toArray, List.set_cons_zero, List.set_cons_succ]
    refine wpAnyH_take (i := 5) (v := .int .i64 d) rfl (by kernel_rfl) (by kernel_rfl) (by kernel_rfl) (fun _ _ _ h => h) (Or.inl ⟨by rfl, ?_⟩) hHeld ?_
    · intro wz hSw
      obtain ⟨p0, p1⟩ := hSw
      simp only [List.getElem_toArray, List.getElem_cons_zero, List.getElem_cons_succ]
      go_simp
      try (with_reducible rfl)
    simp only [List.getElem_toArray, List.getElem_cons_zero, List.getElem_cons_succ, Act.put, List.setIfInBounds_toArray, List.set_cons_zero, List.set_cons_succ]
    have T := hid (H1.out.two.to (show Below w1.heap.size w1 w1.drew from (Below.refl _ _).drew))
    generalize w1.drew = x0 at hHeld T ⊢
    refine wpAnyH_ready (rs := [2, 6]) (by kernel_rfl) (by simp) ?_
    refine AllReadyH.cons rfl (fun K hK => ?_) ?_
    · simp only [List.getElem_toArray, List.getElem_cons_zero, List.getElem_cons_succ]
      go_simp
      obtain ⟨x1, hw⟩ : ∃ W, W = x0.alloc (.cells #[.int .i64 c] 3) := ⟨_, rfl⟩
      rw [← hw]
      obtain ⟨h1, hg⟩ : ∃ g, g = x0.heap.size := ⟨_, rfl⟩
      rw [← hg]
      have hb : Below x0.heap.size x0 x1 := by rw [hw]; exact (Below.refl _ _).alloc (Nat.le_refl _) _
      have N1 : Hid (News h1 c u x1) := by rw [hw, hg]; exact News.new c T.out
      have T := hid (T.out.to hb)
      refine hK.out _ _ (box_cells H1.out T.out.bel) (fun hHeld => ?_)
      clear hK K hb hw hg
      refine wpAnyH_ready (rs := [3, 6]) (by kernel_rfl) (by simp) ?_
      refine AllReadyH.cons rfl (fun K hK => ?_) ?_
      · simp only [List.getElem_toArray, List.getElem_cons_zero, List.getElem_cons_succ]
        refine append_one (g + 3) k h1 c u (intL k X) x1 (by omega) T.out.a N1.out.row T.out.sz _ _ _ _ _ _ ?_ (.tmp 16) (.tmp 18) 22 ?_ ?_ ?_ ?_ ?_
        · rfl
        · rfl
        · rfl
        · rfl
        · rfl
        intro g1 c1 x2 hown hgr hor _
        have T := hid (T.out.snocA HX.out hown hgr hor)
        refine hK.out _ _ (box_cells H1.out T.out.bel) (fun hHeld => ?_)
        clear hK K hown hgr hor N1
        refine wpAnyH_ready (rs := [6]) (by kernel_rfl) (by simp) ?_
        refine AllReadyH.cons rfl (fun K hK => ?_) AllReadyH.nil
        simp only [List.getElem_toArray, List.getElem_cons_zero, List.getElem_cons_succ]
        go_simp
        obtain ⟨x3, hw⟩ : ∃ W, W = x2.alloc (.cells #[.int .i64 d] 3) := ⟨_, rfl⟩
        rw [← hw]
        obtain ⟨h2, hg⟩ : ∃ g, g = x2.heap.size := ⟨_, rfl⟩
        rw [← hg]
        have hb : Below x2.heap.size x2 x3 := by rw [hw]; exact (Below.refl _ _).alloc (Nat.le_refl _) _
        have N2 : Hid (News h2 d (.slice (some ⟨g1, 0, none⟩) (k + 1) c1) x3) := by rw [hw, hg]; exact News.new d T.out
        have T := hid (T.out.to hb)
        refine hK.out _ _ (box_cells H1.out T.out.bel) (fun hHeld => ?_)
        clear hK K hb hw hg
        exact HF.out _ _ _ _ (by kernel_rfl) (by rfl) hHeld ⟨h1, h2, g1, c1, rfl, T.out, N2.out.row⟩
      refine AllReadyH.cons rfl (fun K hK => ?_) AllReadyH.nil
      simp only [List.getElem_toArray, List.getElem_cons_zero, List.getElem_cons_succ]
      go_simp
      obtain ⟨x2, hw⟩ : ∃ W, W = x1.alloc (.cells #[.int .i64 d] 3) := ⟨_, rfl⟩
      rw [← hw]
      obtain ⟨h2, hg⟩ : ∃ g, g = x1.heap.size := ⟨_, rfl⟩
      rw [← hg]
      have hb : Below x1.heap.size x1 x2 := by rw [hw]; exact (Below.refl _ _).alloc (Nat.le_refl _) _
      have N2 : Hid (News h2 d u x2) := by rw [hw, hg]; exact News.new d T.out
      have T := hid (T.out.to hb)
      have N1 := hid (N1.out.below hb)
      refine hK.out _ _ (box_cells H1.out T.out.bel) (fun hHeld => ?_)
      clear hK K hb hw hg
      refine wpAnyH_ready (rs := [3]) (by kernel_rfl) (by simp) ?_
      refine AllReadyH.cons rfl (fun K hK => ?_) AllReadyH.nil
      simp only [List.getElem_toArray, List.getElem_cons_zero, List.getElem_cons_succ]
      refine append_one (g + 3) k h1 c u (intL k X) x2 (by omega) T.out.a N1.out.row T.out.sz _ _ _ _ _ _ ?_ (.tmp 16) (.tmp 18) 22 ?_ ?_ ?_ ?_ ?_
      · rfl
      · rfl
      · rfl
      · rfl
      · rfl
      intro g1 c1 x3 hown hgr hor _
      have T := hid (T.out.snocA HX.out hown hgr hor)
      have N2 := hid (N2.out.grown hgr)
      refine hK.out _ _ (box_cells H1.out T.out.bel) (fun hHeld => ?_)
      clear hK K hown hgr hor N1
      exact HF.out _ _ _ _ (by kernel_rfl) (by rfl) hHeld ⟨h1, h2, g1, c1, rfl, T.out, N2.out.row⟩
    refine AllReadyH.cons rfl (fun K hK => ?_) AllReadyH.nil
    simp only [List.getElem_toArray, List.getElem_cons_zero, List.getElem_cons_succ]
    go_simp
    obtain ⟨x1, hw⟩ : ∃ W, W = x0.alloc (.cells #[.int .i64 d] 3) := ⟨_, rfl⟩
    rw [← hw]
    obtain ⟨h2, hg⟩ : ∃ g, g = x0.heap.size := ⟨_, rfl⟩
    rw [← hg]
    have hb : Below x0.heap.size x0 x1 := by rw [hw]; exact (Below.refl _ _).alloc (Nat.le_refl _) _
    have N2 : Hid (News h2 d u x1) := by rw [hw, hg]; exact News.new d T.out
    have T := hid (T.out.to hb)
    refine hK.out _ _ (box_cells H1.out T.out.bel) (fun hHeld => ?_)
    clear hK K hb hw hg
    refine wpAnyH_ready (rs := [2]) (by kernel_rfl) (by simp) ?_
    refine AllReadyH.cons rfl (fun K hK => ?_) AllReadyH.nil
    simp only [List.getElem_toArray, List.getElem_cons_zero, List.getElem_cons_succ]
    go_simp
    obtain ⟨x2, hw⟩ : ∃ W, W = x1.alloc (.cells #[.int .i64 c] 3) := ⟨_, rfl⟩
    rw [← hw]
    obtain ⟨h1, hg⟩ : ∃ g, g = x1.heap.size := ⟨_, rfl⟩
    rw [← hg]
    have hb : Below x1.heap.size x1 x2 := by rw [hw]; exact (Below.refl _ _).alloc (Nat.le_refl _) _
    have N1 : Hid (News h1 c u x2) := by rw [hw, hg]; exact News.new c T.out
    have T := hid (T.out.to hb)
    have N2 := hid (N2.out.below hb)
    refine hK.out _ _ (box_cells H1.out T.out.bel) (fun hHeld => ?_)
    clear hK K hb hw hg
    refine wpAnyH_ready (rs := [3]) (by kernel_rfl) (by simp) ?_
    refine AllReadyH.cons rfl (fun K hK => ?_) AllReadyH.nil
    simp only [List.getElem_toArray, List.getElem_cons_zero, List.getElem_cons_succ]
    refine append_one (g + 3) k h1 c u (intL k X) x2 (by omega) T.out.a N1.out.row T.out.sz _ _ _ _ _ _ ?_ (.tmp 16) (.tmp 18) 22 ?_ ?_ ?_ ?_ ?_
    · rfl
    · rfl
    · rfl
    · rfl
    · rfl
    intro g1 c1 x3 hown hgr hor _
    have T := hid (T.out.snocA HX.out hown hgr hor)
    have N2 := hid (N2.out.grown hgr)
    refine hK.out _ _ (box_cells H1.out T.out.bel) (fun hHeld => ?_)
    clear hK K hown hgr hor N1
    exact HF.out _ _ _ _ (by kernel_rfl) (by rfl) hHeld ⟨h1, h2, g1, c1, rfl, T.out, N2.out.row⟩
  · rintro a W ⟨h1, h2, g1, c1, rfl, hp⟩
    have T := hid hp.two
    have N2 := hid hp.at2
    clear hp
    dsimp only [List.drop]
    go_wp2_with (at_builtin; refine wpList_append_lies _ rfl _ _ _ rfl (g + 3) 3 i0 (.int .i64 0) 1 8 Try.underlying22 HI.out hz0 hz1 hz2 rfl (by omega) _ _ _ rfl T.out.b ⟨h2, 0, none⟩ 1 1 [.int .i64 d] rfl rfl (World.news_of_block (cs := #[.int .i64 d]) N2.out) (by intro u hu; simp at hu; subst hu; rfl) (by omega) (by unfold maxLen; omega) (by omega) T.out.sz _ rfl ?_)
    intro g2 c2 w7 hown hgr hor _
    have T2 := hid (T.out.snocB HY.out hown hgr hor)
    clear hown hgr hor T N2
    have hb := T2.out.bel
    have p1 : IsAt (g + 1) 22 #[u] w7 := (hb.block _ (by omega)).trans H1.out.p
    have p0 : IsAt (g + 2) 22 #[v] w7 := (hb.block _ (by omega)).trans H1.out.q
    have p2 : IsAt (g + 2) 22 #[v] (w7.setCell ⟨g + 1, 0, none⟩ (.slice (some ⟨g1, 0, none⟩) (k + 1) c1)) := p0.other (a := ⟨g + 1, 0, none⟩) (by show g + 2 ≠ g + 1; omega) _
    have e1 := p1.cell 0
    have f1 := p1.frozen 0
    have e2 := p2.cell 0
    have f2 := p2.frozen 0
    clear hb p1 p0 p2
    go_wp2
    go_end0
    exact ⟨rfl, _, _, H1.out.next T2.out⟩
end Go.Proofs.Ytgbehapekfoaiaa
