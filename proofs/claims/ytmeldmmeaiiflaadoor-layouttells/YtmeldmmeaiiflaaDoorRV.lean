/-
  Rows of lists of ints, each as long as N tells: of one's own, grown by append; what the lists themselves lie in may be old.
-/
import Derived.Test.YtmeldmmeaiiflaaDoorRS
namespace Go.Proofs.YtmeldmmeaiiflaaDoor
open Go.ChangeShapes Go.WideShapes Go.ChangeAt Go.RowKit
set_option linter.unusedVariables false

/-- Such a row of the call's own, on the way. -/
structure RowsV (B : Nat) (N : Nat → Nat) (k : Nat) (u : Value) (Y : Nat → Nat → Int) (w0 w : World) (vs : List Value) : Prop where
  own : w.ownsRow B 22 1 u k vs
  len : vs.length = k
  rows : ∀ i, i < k → ∃ a c, vs[i]? = some (.slice a (N i) c) ∧ IsInts w a (N i) c (Y i) ∧ ∀ x, a = some x → u.ownBlock ≠ some x.block
  bel : Below B w0 w
  sz : B ≤ w.heap.size
theorem RowsV.start {B : Nat} {N : Nat → Nat} {Y : Nat → Nat → Int} {w : World} (hB : B = w.heap.size) : RowsV B N 0 (.slice none 0 0) Y w w [] := by
  subst hB
  exact ⟨World.ownsRow_nil _ _ _ _, rfl, fun i hi => by omega, Below.refl _ _, Nat.le_refl _⟩
theorem RowsV.tr {B k : Nat} {N : Nat → Nat} {u : Value} {Y : Nat → Nat → Int} {w0 w w' : World} {vs : List Value} (h : RowsV B N k u Y w0 w vs) (hb : Below w.heap.size w w') : RowsV B N k u Y w0 w' vs := by
  refine ⟨owns_below h.own hb, h.len, fun i hi => ?_, h.bel.trans (hb.mono h.sz), Nat.le_trans h.sz hb.size⟩
  obtain ⟨a, c, e, hI, hne⟩ := h.rows i hi
  exact ⟨a, c, e, hI.below hb, hne⟩
/-- The own block is not an old one. -/
theorem RowsV.old {B k : Nat} {N : Nat → Nat} {u : Value} {Y : Nat → Nat → Int} {w0 w : World} {vs : List Value} (h : RowsV B N k u Y w0 w vs) {a : Option Addr} (hn : ∀ x, a = some x → x.block < B) : ∀ x, a = some x → u.ownBlock ≠ some x.block := by
  intro x hx e
  have h1 := (h.own.lt _ e).1
  have h2 := hn x hx
  omega
theorem RowsV.next {B k g cap c : Nat} {N : Nat → Nat} {u : Value} {Y : Nat → Nat → Int} {w0 w w3 : World} {vs : List Value} {o : Obj} {a : Option Addr} (h : RowsV B N k u Y w0 w vs) (h1 : 1 ≤ N k) (hN : ∀ i, i < k → 1 ≤ N i) (hI : IsInts w a (N k) c (Y k)) (hne : ∀ x, a = some x → u.ownBlock ≠ some x.block)
    (hown : w3.ownsRow B 22 1 (.slice (some ⟨g, 0, none⟩) (k + 1) cap) (k + 1) (vs ++ [.slice a (N k) c])) (hg : (w.alloc o).grownBy w3 u.ownBlock) (hor : u.ownBlock = some g ∨ g = w.heap.size + 1) :
    RowsV B N (k + 1) (.slice (some ⟨g, 0, none⟩) (k + 1) cap) Y w0 w3 (vs ++ [.slice a (N k) c]) := by
  have hs : (w.alloc o).heap.size = w.heap.size + 1 := al_size _ _
  have apart : ∀ {a' : Option Addr} {n' c' : Nat} {X : Nat → Int}, 1 ≤ n' → IsInts w a' n' c' X → (∀ x, a' = some x → u.ownBlock ≠ some x.block) → ∀ x, a' = some x → (Value.slice (some ⟨g, 0, none⟩) (k + 1) cap).ownBlock ≠ some x.block := by
    intro a' n' c' X hn1 hI' hn' x hx e
    have e : some g = some x.block := e
    rcases hor with e2 | e2
    · exact hn' x hx (e2.trans e)
    · rcases hI' with h0 | ⟨b, off, rfl, hb, _⟩
      · omega
      · cases hx
        have := Option.some.inj e
        simp at this
        omega
  refine ⟨hown, by simp [h.len], fun i hi => ?_, Below.grown (h.bel.alloc h.sz _) hg (by have := h.sz; omega) (fun j hj => (h.own.lt j hj).1), by have := hg.size; have := h.sz; omega⟩
  by_cases e : i < k
  · obtain ⟨a', c', e', hI', hn'⟩ := h.rows i e
    exact ⟨a', c', by rw [List.getElem?_append_left (by rw [h.len]; exact e)]; exact e', ints_grown hI' hn' hg, apart (hN i e) hI' hn'⟩
  · obtain rfl : i = k := by omega
    exact ⟨a, c, by rw [List.getElem?_append_right (by rw [h.len]; omega), h.len]; simp, ints_grown hI hne hg, apart h1 hI hne⟩
theorem RowsV.lists {B k : Nat} {N : Nat → Nat} {u : Value} {Y : Nat → Nat → Int} {w0 w : World} {vs : List Value} (h : RowsV B N k u Y w0 w vs) : ∃ a cap, u = .slice a k cap ∧ IsListsV w a k cap N Y := by
  obtain ⟨h1, ⟨rfl, e⟩ | ⟨g, cap, cur, rfl, h2, h3, h4, h5, h6, h7⟩⟩ := h.own
  · exact ⟨none, 0, by have := h.len; subst e; rfl, .inl (by have := h.len; omega)⟩
  · refine ⟨_, _, rfl, .inr ⟨g, 0, rfl, (Array.getElem?_eq_some_iff.1 h3).1, h4, h5, fun i hi => ?_⟩⟩
    obtain ⟨a, c, e, hI, hn⟩ := h.rows i hi
    refine ⟨a, c, ?_, hI⟩
    rw [Nat.zero_add, IsAt.cell (show IsAt g 22 cur w from h3)]
    rw [← h7, Nat.mul_one, List.getElem?_take_of_lt hi, Array.getElem?_toList] at e
    exact e
end Go.Proofs.YtmeldmmeaiiflaaDoor
