/-
  Rows of lists of ints: of one's own, grown by append; read again.
-/
import Derived.Test.YtcjdgcfblilneaaOI
namespace Go.Proofs.Ytcjdgcfblilneaa
open Go.ChangeShapes Go.WideShapes Go.ChangeAt Go.RowKit
set_option linter.unusedVariables false

theorem infoL : ∃ i, Try.prog.info? 22 = some i ∧ i.zero = some (.slice none 0 0) ∧ i.size = 1 ∧ i.bytes = 24 := by
  have h : (Try.prog.info? 22).map (fun i => (i.zero, i.size, i.bytes)) = some (some (.slice none 0 0), 1, 24) := by kernel_rfl
  obtain ⟨i, hi, e⟩ := Option.map_eq_some_iff.1 h
  simp at e
  exact ⟨i, hi, e⟩
/-- k lists of n ints each, those that Y tells. -/
def IsLists (w : World) (a : Option Addr) (k cap n : Nat) (Y : Nat → Nat → Int) : Prop :=
  k = 0 ∨ ∃ b off, a = some ⟨b, off, none⟩ ∧ b < w.heap.size ∧ k ≤ cap ∧ cap ≤ maxLen ∧ ∀ i, i < k → ∃ ai ci, w.cell? ⟨b, off + i, none⟩ = some (.slice ai n ci) ∧ IsInts w ai n ci (Y i)
theorem IsLists.below {w w' : World} {a : Option Addr} {k cap n : Nat} {Y : Nat → Nat → Int} (h : IsLists w a k cap n Y) (hb : Below w.heap.size w w') : IsLists w' a k cap n Y := by
  rcases h with h | ⟨b, off, e, h1, h2, h3, h4⟩
  · exact .inl h
  · have hs := hb.size
    refine .inr ⟨b, off, e, by omega, h2, h3, fun i hi => ?_⟩
    obtain ⟨ai, ci, hc, hI⟩ := h4 i hi
    exact ⟨ai, ci, by rw [hb.cell (p := ⟨b, off + i, none⟩) h1]; exact hc, hI.below hb⟩
theorem IsLists.get {w : World} {a : Option Addr} {k cap n : Nat} {Y : Nat → Nat → Int} (h : IsLists w a k cap n Y) (h1 : 1 ≤ k) : ∃ b off, a = some ⟨b, off, none⟩ ∧ ∀ W, Below w.heap.size w W → ∀ i, i < k → ∃ ai ci, W.cell? ⟨b, off + i, none⟩ = some (.slice ai n ci) ∧ IsInts W ai n ci (Y i) := by
  rcases h with h | ⟨b, off, rfl, hb, _, _, hc⟩
  · omega
  · refine ⟨b, off, rfl, fun W hW i hi => ?_⟩
    obtain ⟨ai, ci, hc', hI⟩ := hc i hi
    exact ⟨ai, ci, by rw [hW.cell (p := ⟨b, off + i, none⟩) hb]; exact hc', hI.below hW⟩
theorem IsLists.congr {w : World} {a : Option Addr} {k cap n : Nat} {Y Z : Nat → Nat → Int} (h : IsLists w a k cap n Y) (e : ∀ i, i < k → ∀ j, j < n → Y i j = Z i j) : IsLists w a k cap n Z := by
  rcases h with h | ⟨b, off, e', h1, h2, h3, h4⟩
  · exact .inl h
  · refine .inr ⟨b, off, e', h1, h2, h3, fun i hi => ?_⟩
    obtain ⟨ai, ci, hc, hI⟩ := h4 i hi
    exact ⟨ai, ci, hc, hI.congr (e i hi)⟩
/-- Such a row of the call's own, on the way. -/
structure RowsOwn (B n k : Nat) (u : Value) (Y : Nat → Nat → Int) (w0 w : World) (vs : List Value) : Prop where
  own : w.ownsRow B 22 1 u k vs
  len : vs.length = k
  rows : ∀ i, i < k → ∃ a c, vs[i]? = some (.slice a n c) ∧ IsInts w a n c (Y i) ∧ ∀ x, a = some x → B ≤ x.block ∧ u.ownBlock ≠ some x.block
  bel : Below B w0 w
  sz : B ≤ w.heap.size
theorem RowsOwn.start {B n : Nat} {Y : Nat → Nat → Int} {w : World} (hB : B = w.heap.size) : RowsOwn B n 0 (.slice none 0 0) Y w w [] := by
  subst hB
  exact ⟨World.ownsRow_nil _ _ _ _, rfl, fun i hi => by omega, Below.refl _ _, Nat.le_refl _⟩
theorem RowsOwn.tr {B n k : Nat} {u : Value} {Y : Nat → Nat → Int} {w0 w w' : World} {vs : List Value} (h : RowsOwn B n k u Y w0 w vs) (hb : Below w.heap.size w w') : RowsOwn B n k u Y w0 w' vs := by
  refine ⟨owns_below h.own hb, h.len, fun i hi => ?_, h.bel.trans (hb.mono h.sz), Nat.le_trans h.sz hb.size⟩
  obtain ⟨a, c, e, hI, hne⟩ := h.rows i hi
  exact ⟨a, c, e, hI.below hb, hne⟩
/-- The own block lies below what is made later. -/
theorem RowsOwn.apart {B n k : Nat} {u : Value} {Y : Nat → Nat → Int} {w0 w : World} {vs : List Value} (h : RowsOwn B n k u Y w0 w vs) {a : Option Addr} (hn : ∀ x, a = some x → w.heap.size ≤ x.block) : ∀ x, a = some x → B ≤ x.block ∧ u.ownBlock ≠ some x.block := by
  intro x hx
  have h2 := hn x hx
  refine ⟨Nat.le_trans h.sz h2, fun e => ?_⟩
  have h1 := (h.own.lt _ e).2
  omega
theorem ints_grown {w w' : World} {o : Obj} {row : Option Nat} {a : Option Addr} {n c : Nat} {X : Nat → Int} (h : IsInts w a n c X) (hne : ∀ x, a = some x → row ≠ some x.block) (hg : (w.alloc o).grownBy w' row) : IsInts w' a n c X := by
  rcases h with h | ⟨b, off, rfl, h1, h2, h3, h4⟩
  · exact .inl h
  · have hs : (w.alloc o).heap.size = w.heap.size + 1 := al_size _ _
    have hb := hg.block b (by omega) (fun e => hne _ rfl e.symm)
    have hsz := hg.size
    refine .inr ⟨b, off, rfl, by omega, h2, h3, fun i hi => ?_⟩
    rw [World.cell?_of_block (a := ⟨b, off + i, none⟩) (hb.trans (al_old o h1))]
    exact h4 i hi
theorem RowsOwn.next {B n k g cap c : Nat} {u : Value} {Y : Nat → Nat → Int} {w0 w w3 : World} {vs : List Value} {o : Obj} {a : Option Addr} (h : RowsOwn B n k u Y w0 w vs) (h1 : 1 ≤ n) (hI : IsInts w a n c (Y k)) (hne : ∀ x, a = some x → B ≤ x.block ∧ u.ownBlock ≠ some x.block)
    (hown : w3.ownsRow B 22 1 (.slice (some ⟨g, 0, none⟩) (k + 1) cap) (k + 1) (vs ++ [.slice a n c])) (hg : (w.alloc o).grownBy w3 u.ownBlock) (hor : u.ownBlock = some g ∨ g = w.heap.size + 1) :
    RowsOwn B n (k + 1) (.slice (some ⟨g, 0, none⟩) (k + 1) cap) Y w0 w3 (vs ++ [.slice a n c]) := by
  have hs : (w.alloc o).heap.size = w.heap.size + 1 := al_size _ _
  have apart : ∀ {a' : Option Addr} {c' : Nat} {X : Nat → Int}, IsInts w a' n c' X → (∀ x, a' = some x → B ≤ x.block ∧ u.ownBlock ≠ some x.block) → ∀ x, a' = some x → B ≤ x.block ∧ (Value.slice (some ⟨g, 0, none⟩) (k + 1) cap).ownBlock ≠ some x.block := by
    intro a' c' X hI' hn' x hx
    refine ⟨(hn' x hx).1, fun e => ?_⟩
    have e : some g = some x.block := e
    rcases hor with e2 | e2
    · exact (hn' x hx).2 (e2.trans e)
    · rcases hI' with h0 | ⟨b, off, rfl, hb, _⟩
      · omega
      · cases hx
        have := Option.some.inj e
        simp at this
        omega
  refine ⟨hown, by simp [h.len], fun i hi => ?_, Below.grown (h.bel.alloc h.sz _) hg (by have := h.sz; omega) (fun j hj => (h.own.lt j hj).1), by have := hg.size; have := h.sz; omega⟩
  by_cases e : i < k
  · obtain ⟨a', c', e', hI', hn'⟩ := h.rows i e
    exact ⟨a', c', by rw [List.getElem?_append_left (by rw [h.len]; exact e)]; exact e', ints_grown hI' (fun x hx => (hn' x hx).2) hg, apart hI' hn'⟩
  · obtain rfl : i = k := by omega
    exact ⟨a, c, by rw [List.getElem?_append_right (by rw [h.len]; omega), h.len]; simp, ints_grown hI (fun x hx => (hne x hx).2) hg, apart hI hne⟩
/-- Such lists as lie at or above a bound. -/
def IsListsN (B : Nat) (w : World) (a : Option Addr) (k cap n : Nat) (Y : Nat → Nat → Int) : Prop :=
  k = 0 ∨ ∃ b off, a = some ⟨b, off, none⟩ ∧ B ≤ b ∧ b < w.heap.size ∧ k ≤ cap ∧ cap ≤ maxLen ∧ ∀ i, i < k → ∃ ai ci, w.cell? ⟨b, off + i, none⟩ = some (.slice ai n ci) ∧ IsInts w ai n ci (Y i) ∧ ∀ x, ai = some x → B ≤ x.block
theorem IsListsN.lists {B : Nat} {w : World} {a : Option Addr} {k cap n : Nat} {Y : Nat → Nat → Int} (h : IsListsN B w a k cap n Y) : IsLists w a k cap n Y := by
  rcases h with h | ⟨b, off, e, h0, h1, h2, h3, h4⟩
  · exact .inl h
  · refine .inr ⟨b, off, e, h1, h2, h3, fun i hi => ?_⟩
    obtain ⟨ai, ci, hc, hI, _⟩ := h4 i hi
    exact ⟨ai, ci, hc, hI⟩
theorem RowsOwn.listsN {B n k : Nat} {u : Value} {Y : Nat → Nat → Int} {w0 w : World} {vs : List Value} (h : RowsOwn B n k u Y w0 w vs) : ∃ a cap, u = .slice a k cap ∧ IsListsN B w a k cap n Y := by
  obtain ⟨h1, ⟨rfl, e⟩ | ⟨g, cap, cur, rfl, h2, h3, h4, h5, h6, h7⟩⟩ := h.own
  · exact ⟨none, 0, by have := h.len; subst e; rfl, .inl (by have := h.len; omega)⟩
  · refine ⟨_, _, rfl, .inr ⟨g, 0, rfl, h2, (Array.getElem?_eq_some_iff.1 h3).1, h4, h5, fun i hi => ?_⟩⟩
    obtain ⟨a, c, e, hI, hn⟩ := h.rows i hi
    refine ⟨a, c, ?_, hI, fun x hx => (hn x hx).1⟩
    rw [Nat.zero_add, IsAt.cell (show IsAt g 22 cur w from h3)]
    rw [← h7, Nat.mul_one, List.getElem?_take_of_lt hi, Array.getElem?_toList] at e
    exact e
theorem RowsOwn.lists {B n k : Nat} {u : Value} {Y : Nat → Nat → Int} {w0 w : World} {vs : List Value} (h : RowsOwn B n k u Y w0 w vs) : ∃ a cap, u = .slice a k cap ∧ IsLists w a k cap n Y := by
  obtain ⟨a, cap, e, hl⟩ := h.listsN
  exact ⟨a, cap, e, hl.lists⟩
/-- k lists, each of as many ints as N tells. -/
def IsListsV (w : World) (a : Option Addr) (k cap : Nat) (N : Nat → Nat) (Y : Nat → Nat → Int) : Prop :=
  k = 0 ∨ ∃ b off, a = some ⟨b, off, none⟩ ∧ b < w.heap.size ∧ k ≤ cap ∧ cap ≤ maxLen ∧ ∀ i, i < k → ∃ ai ci, w.cell? ⟨b, off + i, none⟩ = some (.slice ai (N i) ci) ∧ IsInts w ai (N i) ci (Y i)
theorem IsListsV.same {w : World} {a : Option Addr} {k cap n : Nat} {N : Nat → Nat} {Y : Nat → Nat → Int} (h : IsListsV w a k cap N Y) (e : ∀ i, i < k → N i = n) : IsLists w a k cap n Y := by
  rcases h with h | ⟨b, off, e', h1, h2, h3, h4⟩
  · exact .inl h
  · refine .inr ⟨b, off, e', h1, h2, h3, fun i hi => ?_⟩
    have := h4 i hi
    rwa [e i hi] at this
theorem IsListsV.below {w w' : World} {a : Option Addr} {k cap : Nat} {N : Nat → Nat} {Y : Nat → Nat → Int} (h : IsListsV w a k cap N Y) (hb : Below w.heap.size w w') : IsListsV w' a k cap N Y := by
  rcases h with h | ⟨b, off, e, h1, h2, h3, h4⟩
  · exact .inl h
  · have hs := hb.size
    refine .inr ⟨b, off, e, by omega, h2, h3, fun i hi => ?_⟩
    obtain ⟨ai, ci, hc, hI⟩ := h4 i hi
    exact ⟨ai, ci, by rw [hb.cell (p := ⟨b, off + i, none⟩) h1]; exact hc, hI.below hb⟩
end Go.Proofs.Ytcjdgcfblilneaa
