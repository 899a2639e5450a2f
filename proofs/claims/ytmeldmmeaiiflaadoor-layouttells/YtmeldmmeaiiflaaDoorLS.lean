/-
  Lists of ints, laid at their places into a row.
-/
import Derived.Test.YtmeldmmeaiiflaaDoorRS
import Derived.RangeFuncOwn
namespace Go.Proofs.YtmeldmmeaiiflaaDoor
open Go.ChangeShapes Go.WideShapes Go.ChangeAt Go.RowKit
set_option linter.unusedVariables false

/-- Lists that are laid one by one into a row. -/
def listA (n : Nat) (V : Nat → Value) : Array Value := Array.ofFn (n := n) fun i => V i
theorem listA_get {n : Nat} {V : Nat → Value} {i : Nat} (h : i < n) : (listA n V)[i]? = some (V i) := by simp [listA, h]
theorem listA_set {n : Nat} (V : Nat → Value) {j : Nat} (v : Value) (h : j < n) : (listA n V).setIfInBounds j v = listA n (fun i => if i = j then v else V i) := by
  refine Array.ext (by simp [listA]) (fun i h1 h2 => ?_)
  have hi : i < n := by simpa [listA] using h2
  have e1 : ((listA n V).setIfInBounds j v)[i]? = some (if i = j then v else V i) := by
    rw [Array.getElem?_setIfInBounds]
    by_cases e : j = i
    · subst e
      rw [if_pos rfl, if_pos (by simpa [listA] using hi), if_pos rfl]
    · rw [if_neg e, listA_get hi, if_neg (fun h => e h.symm)]
  have e2 := listA_get (V := fun i => if i = j then v else V i) hi
  rw [Array.getElem?_eq_getElem h1] at e1
  rw [Array.getElem?_eq_getElem h2] at e2
  exact Option.some.inj (e1.trans e2.symm)
theorem make_lists {n : Nat} (hn : n ≤ 64) (w : World) : (Instr.makeSlice 23 (.int .i64 (n : Int)) (.int .i64 (n : Int))).run Tryd.prog w = .ok (.slice (some ⟨w.heap.size, 0, none⟩) n n) (w.alloc (.cells (listA n (fun _ => .slice none 0 0)) 22)) := by
  have e : madeCells #[Value.slice none 0 0] n = listA n (fun _ => .slice none 0 0) := by
    refine Array.ext (by simp [listA, madeCells]) (fun i h1 h2 => ?_)
    simp [listA, madeCells, Nat.mod_one]
  rw [← e]
  exact run_make_row' (P := Tryd.prog) 23 22 (.slice none 0 0) 24 Tryd.underlying23 (by kernel_rfl) rfl .i64 .i64 n (by omega) (by omega) w
/-- Cells are kept where nothing but what is no cells turns. -/
theorem IsInts.kept {w W : World} {row : Option Nat} {a : Option Addr} {n c : Nat} {X : Nat → Int} (h : IsInts w a n c X) (hg : w.grownBy W row) (hr : ∀ r, row = some r → ∃ o : Obj, w.heap[r]? = some o ∧ o.isCells = false) : IsInts W a n c X := by
  rcases h with h | ⟨b, off, e, h1, h2, h3, h4⟩
  · exact .inl h
  · exact .inr ⟨b, off, e, Nat.lt_of_lt_of_le h1 hg.size, h2, h3, fun i hi => cell_kept (h4 i hi) hg hr⟩
theorem IsAt.kept {w W : World} {row : Option Nat} {r t : Nat} {cs : Array Value} (h : IsAt r t cs w) (hg : w.grownBy W row) (hr : ∀ r, row = some r → ∃ o : Obj, w.heap[r]? = some o ∧ o.isCells = false) : IsAt r t cs W := by
  have h' : w.heap[r]? = some _ := h
  refine (hg.block r (Array.getElem?_eq_some_iff.1 h').1 (fun e => ?_)).trans h
  obtain ⟨o, ho, hc⟩ := hr r e.symm
  rw [h'] at ho; cases ho; cases hc
theorem IsInts.other {w : World} {ad : Addr} {n c r o : Nat} {X : Nat → Int} (h : IsInts w (some ad) n c X) (hne : ad.block ≠ r) (v : Value) : IsInts (w.setCell ⟨r, o, none⟩ v) (some ad) n c X := by
  rcases h with h | ⟨b, off, e, h1, h2, h3, h4⟩
  · exact .inl h
  · cases e
    refine .inr ⟨b, off, rfl, ?_, h2, h3, fun i hi => ?_⟩
    · show b < (w.heap.modify r _).size; simpa using h1
    · exact (World.cell?_of_block (a := ⟨b, off + i, none⟩) (Below.heap_setCell _ _ _ b hne)).trans (h4 i hi)
/-- A row of m lists; at the places that P tells those that are meant are laid. -/
structure VRow (r m : Nat) (N : Nat → Nat) (Y : Nat → Nat → Int) (P : Nat → Prop) (w W : World) : Prop where
  row : ∃ V : Nat → Value, IsAt r 22 (listA m V) W ∧ ∀ i, i < m → P i → ∃ ad c, V i = .slice (some ad) (N i) c ∧ IsInts W (some ad) (N i) c (Y i) ∧ r < ad.block
  bel : Below w.heap.size w W
  le : w.heap.size ≤ r
theorem VRow.lt {r m : Nat} {N : Nat → Nat} {Y : Nat → Nat → Int} {P : Nat → Prop} {w W : World} (h : VRow r m N Y P w W) : r < W.heap.size := by
  obtain ⟨V, h1, _⟩ := h.row
  have h' : W.heap[r]? = some _ := h1
  exact (Array.getElem?_eq_some_iff.1 h').1
theorem VRow.below {r m : Nat} {N : Nat → Nat} {Y : Nat → Nat → Int} {P : Nat → Prop} {w W W' : World} (h : VRow r m N Y P w W) (hb : Below W.heap.size W W') : VRow r m N Y P w W' := by
  obtain ⟨U, h1, h2⟩ := h.row
  refine ⟨⟨U, (hb.block r h.lt).trans h1, fun i hi hp => ?_⟩, below_then h.bel hb, h.le⟩
  obtain ⟨ad, c, e, h3, h4⟩ := h2 i hi hp
  exact ⟨ad, c, e, h3.below hb, h4⟩
theorem VRow.kept {r m : Nat} {N : Nat → Nat} {Y : Nat → Nat → Int} {P : Nat → Prop} {w W W' : World} {row : Option Nat} (h : VRow r m N Y P w W) (hg : W.grownBy W' row) (hr : ∀ k, row = some k → w.heap.size ≤ k ∧ ∃ o : Obj, W.heap[k]? = some o ∧ o.isCells = false) : VRow r m N Y P w W' := by
  obtain ⟨U, h1, h2⟩ := h.row
  refine ⟨⟨U, h1.kept hg (fun k e => (hr k e).2), fun i hi hp => ?_⟩, h.bel.grown hg h.bel.size (fun k e => (hr k e).1), h.le⟩
  obtain ⟨ad, c, e, h3, h4⟩ := h2 i hi hp
  exact ⟨ad, c, e, h3.kept hg (fun k e => (hr k e).2), h4⟩
theorem VRow.next {r m j c : Nat} {N : Nat → Nat} {Y : Nat → Nat → Int} {P P' : Nat → Prop} {w W : World} {ad : Addr} (h : VRow r m N Y P w W) (hj : j < m) (h3 : IsInts W (some ad) (N j) c (Y j)) (h4 : r < ad.block) (hP : ∀ i, P' i → P i ∨ i = j) :
    VRow r m N Y P' w (W.setCell ⟨r, j, none⟩ (.slice (some ad) (N j) c)) := by
  obtain ⟨U, h1, h2⟩ := h.row
  refine ⟨⟨fun i => if i = j then .slice (some ad) (N j) c else U i, ?_, fun i hi hp => ?_⟩, h.bel.setCell (p := ⟨r, j, none⟩) h.le _, h.le⟩
  · rw [← listA_set U _ hj]; exact IsAt.set h1 j _
  · by_cases e : i = j
    · subst e
      exact ⟨ad, c, if_pos rfl, h3.other (show ad.block ≠ r by omega) _, h4⟩
    · obtain ⟨ad', c', e', h3', h4'⟩ := h2 i hi ((hP i hp).resolve_right e)
      exact ⟨ad', c', by rw [← e']; exact if_neg e, h3'.other (show ad'.block ≠ r by omega) _, h4'⟩
theorem VRow.cell {r m : Nat} {N : Nat → Nat} {Y : Nat → Nat → Int} {P : Nat → Prop} {w W : World} (h : VRow r m N Y P w W) {j : Nat} (hj : j < m) : ∃ v, W.cell? ⟨r, j, none⟩ = some v ∧ W.frozen? ⟨r, j, none⟩ = false := by
  obtain ⟨U, h1, _⟩ := h.row
  exact ⟨U j, by rw [IsAt.cell h1, listA_get hj], IsAt.frozen h1 j⟩
theorem VRow.lists {r m : Nat} {N : Nat → Nat} {Y : Nat → Nat → Int} {P : Nat → Prop} {w W : World} (h : VRow r m N Y P w W) (hm : m ≤ maxLen) (hP : ∀ i, i < m → P i) : IsListsV W (some ⟨r, 0, none⟩) m m N Y := by
  have hl := h.lt
  obtain ⟨U, h1, h2⟩ := h.row
  refine .inr ⟨r, 0, rfl, hl, Nat.le_refl _, hm, fun i hi => ?_⟩
  obtain ⟨ad, c, e, h3, _⟩ := h2 i hi (hP i hi)
  exact ⟨some ad, c, by rw [Nat.zero_add, IsAt.cell h1, listA_get hi, e], h3⟩
end Go.Proofs.YtmeldmmeaiiflaaDoor
