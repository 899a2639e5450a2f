/-
  Slices of ints, rows of ints of one's own in the heap, rows grown by append, ints that are handed in.
-/
import Derived.Test.YtgbehapekfoaiaaIA
import Derived.BigRegion
import Derived.BigQuiet
import Derived.Laws.CopyOwn
import Derived.Laws.MakeOwn
import Derived.Deep.OwnRows
import Derived.Deep.AppendLies
import Derived.ChangeSlices
namespace Go.Proofs.Ytgbehapekfoaiaa
open Go.ChangeShapes Go.WideShapes Go.ChangeAt Go.RowKit
set_option linter.unusedVariables false

/-- A slice of len ints, those that X tells. -/
def IsInts (w : World) (a : Option Addr) (len cap : Nat) (X : Nat → Int) : Prop :=
  len = 0 ∨ ∃ b off, a = some ⟨b, off, none⟩ ∧ b < w.heap.size ∧ len ≤ cap ∧ cap ≤ maxLen ∧ ∀ i, i < len → w.cell? ⟨b, off + i, none⟩ = some (.int .i64 (X i))
theorem IsInts.frame {B : Nat} {w w' : World} {a : Option Addr} {len cap : Nat} {X : Nat → Int} (h : IsInts w a len cap X) (hb : Below B w w') (hB : ∀ x, a = some x → x.block < B) (hs : w.heap.size ≤ w'.heap.size) : IsInts w' a len cap X := by
  rcases h with h | ⟨b, off, e, h1, h2, h3, h4⟩
  · exact .inl h
  · refine .inr ⟨b, off, e, by omega, h2, h3, fun i hi => ?_⟩
    have hB := hB _ e
    rw [hb.cell (p := ⟨b, off + i, none⟩) hB]
    exact h4 i hi
theorem IsInts.below {w w' : World} {a : Option Addr} {len cap : Nat} {X : Nat → Int} (h : IsInts w a len cap X) (hb : Below w.heap.size w w') : IsInts w' a len cap X := by
  rcases h with h | ⟨b, off, e, h1, h2, h3, h4⟩
  · exact .inl h
  · have hs := hb.size
    refine .inr ⟨b, off, e, by omega, h2, h3, fun i hi => ?_⟩
    rw [hb.cell (p := ⟨b, off + i, none⟩) h1]
    exact h4 i hi
theorem IsInts.congr {w : World} {a : Option Addr} {len cap : Nat} {X Y : Nat → Int} (h : IsInts w a len cap X) (e : ∀ i, i < len → X i = Y i) : IsInts w a len cap Y := by
  rcases h with h | ⟨b, off, e', h1, h2, h3, h4⟩
  · exact .inl h
  · exact .inr ⟨b, off, e', h1, h2, h3, fun i hi => by rw [← e i hi]; exact h4 i hi⟩
def rowA (n : Nat) (X : Nat → Int) : Array Value := Array.ofFn (n := n) (fun i => Value.int .i64 (X i))
def upd (X : Nat → Int) (j : Nat) (v : Int) : Nat → Int := fun i => if i = j then v else X i
theorem rowA_get {n : Nat} {X : Nat → Int} {i : Nat} (h : i < n) : (rowA n X)[i]? = some (.int .i64 (X i)) := by
  simp [rowA, h]
theorem rowA_congr {n : Nat} {X Y : Nat → Int} (h : ∀ i, i < n → X i = Y i) : rowA n X = rowA n Y := by
  unfold rowA; congr 1; funext i; rw [h i i.2]
theorem rowA_set {n : Nat} (X : Nat → Int) {j : Nat} (v : Int) (h : j < n) : (rowA n X).setIfInBounds j (.int .i64 v) = rowA n (upd X j v) := by
  refine Array.ext (by simp [rowA]) (fun i h1 h2 => ?_)
  have hi : i < n := by simpa [rowA] using h2
  have e1 : ((rowA n X).setIfInBounds j (Value.int .i64 v))[i]? = some (.int .i64 (upd X j v i)) := by
    rw [Array.getElem?_setIfInBounds]
    by_cases e : j = i
    · subst e
      rw [if_pos rfl, if_pos (by simpa [rowA] using hi), upd, if_pos rfl]
    · rw [if_neg e, rowA_get hi, upd, if_neg (fun h => e h.symm)]
  have e2 := rowA_get (X := upd X j v) hi
  rw [Array.getElem?_eq_getElem h1] at e1
  rw [Array.getElem?_eq_getElem h2] at e2
  exact Option.some.inj (e1.trans e2.symm)
abbrev RowAt (r n : Nat) (X : Nat → Int) (w : World) : Prop := IsAt r 3 (rowA n X) w
theorem RowAt.get {r n : Nat} {X : Nat → Int} {w : World} (h : RowAt r n X w) {j : Nat} (hj : j < n) : w.cell? ⟨r, j, none⟩ = some (.int .i64 (X j)) := by
  rw [IsAt.cell h, rowA_get hj]
theorem RowAt.set {r n : Nat} {X : Nat → Int} {w : World} (h : RowAt r n X w) {j : Nat} (hj : j < n) (v : Int) : RowAt r n (upd X j v) (w.setCell ⟨r, j, none⟩ (.int .i64 v)) := by
  rw [RowAt, ← rowA_set X v hj]; exact IsAt.set h j _
theorem RowAt.congr {r n : Nat} {X Y : Nat → Int} {w : World} (h : RowAt r n X w) (e : ∀ i, i < n → X i = Y i) : RowAt r n Y w := by
  rw [RowAt, ← rowA_congr e]; exact h
theorem RowAt.lt {r n : Nat} {X : Nat → Int} {w : World} (h : RowAt r n X w) : r < w.heap.size := by
  have h' : w.heap[r]? = some _ := h
  exact (Array.getElem?_eq_some_iff.1 h').1
theorem RowAt.below {r n : Nat} {X : Nat → Int} {w w' : World} (h : RowAt r n X w) (hb : Below w.heap.size w w') : RowAt r n X w' :=
  (hb.block r h.lt).trans h
theorem RowAt.ints {r n : Nat} {X : Nat → Int} {w : World} (h : RowAt r n X w) (hn : n ≤ maxLen) : IsInts w (some ⟨r, 0, none⟩) n n X :=
  .inr ⟨r, 0, rfl, h.lt, Nat.le_refl _, hn, fun i hi => by rw [Nat.zero_add]; exact h.get hi⟩
theorem made_row (n : Nat) : madeCells #[Value.int .i64 0] n = rowA n (fun _ => 0) := by
  refine Array.ext (by simp [rowA, madeCells]) (fun i h1 h2 => ?_)
  simp [rowA, madeCells, Nat.mod_one]
theorem make_ints {n : Nat} (hn : n ≤ 64) (w : World) : (Instr.makeSlice 22 (.int .i64 (n : Int)) (.int .i64 (n : Int))).run Try.prog w = .ok (.slice (some ⟨w.heap.size, 0, none⟩) n n) (w.alloc (.cells (rowA n (fun _ => 0)) 3)) := by
  rw [← made_row]
  exact run_make_row' (P := Try.prog) 22 3 (.int .i64 0) 8 Try.underlying22 (by kernel_rfl) rfl .i64 .i64 n (by omega) (by omega) w
theorem al_new (w : World) (o : Obj) : (w.alloc o).heap[w.heap.size]? = some o := by show (w.heap.push o)[_]? = _; simp
theorem al_old {w : World} {k : Nat} (o : Obj) (h : k < w.heap.size) : (w.alloc o).heap[k]? = w.heap[k]? := by show (w.heap.push o)[k]? = _; rw [Array.getElem?_push, if_neg (by omega)]
theorem al_size (w : World) (o : Obj) : (w.alloc o).heap.size = w.heap.size + 1 := by show (w.heap.push o).size = _; simp
theorem addr_add (b off j : Nat) : Addr.add ⟨b, off, none⟩ j = ⟨b, off + j, none⟩ := by
  unfold Addr.add
  split
  · next h => subst h; rfl
  · rfl
theorem copy_row {n : Nat} {X Z : Nat → Int} {r b off ca : Nat} {w : World} (hr : RowAt r n Z w) (hc : ∀ i, i < n → w.cell? ⟨b, off + i, none⟩ = some (.int .i64 (X i))) (ty : TypeId) :
    (Builtin.copy_ #[22, 22] ty #[.slice (some ⟨r, 0, none⟩) n n, .slice (some ⟨b, off, none⟩) n ca]).run Try.prog w = .ok (goInt n) (w.setRow r (rowA n X)) := by
  have hl : (rowA n X).toList.length = n := by simp [rowA]
  have := run_copy_row (P := Try.prog) w 22 22 ty 3 r 0 n n ⟨b, off, none⟩ n ca (rowA n Z) 3 (rowA n X).toList Try.underlying22 (by kernel_rfl) hr (by rw [hl]; exact (Nat.min_self n).symm)
    (fun j v hv => by
      have hj : j < n := by
        have := (List.getElem?_eq_some_iff.1 hv).1
        rw [hl] at this; exact this
      have e := rowA_get (X := X) hj
      rw [Array.getElem?_toList] at hv
      rw [e] at hv
      rw [← hv]
      rw [addr_add]; exact hc j hj) (by rw [hl]; simp [rowA]) (fun v hv => by
      obtain ⟨j, hj⟩ := List.mem_iff_getElem?.1 hv
      have hj' : j < n := by
        have := (List.getElem?_eq_some_iff.1 hj).1
        rw [hl] at this; exact this
      rw [Array.getElem?_toList, rowA_get hj'] at hj
      rw [← Option.some.inj hj]; rfl)
  rw [hl] at this
  rw [this]
  have hz : (rowA n Z).toList.drop (0 + n) = [] := List.drop_eq_nil_of_le (by simp [rowA])
  rw [hz]
  congr 2
  simp
def intL (k : Nat) (X : Nat → Int) : List Value := (List.range k).map fun i => .int .i64 (X i)
theorem intL_snoc (k : Nat) (X : Nat → Int) : intL (k + 1) X = intL k X ++ [.int .i64 (X k)] := by simp [intL, List.range_succ]
theorem intL_get {k i : Nat} {X : Nat → Int} (h : i < k) : (intL k X)[i]? = some (.int .i64 (X i)) := by simp [intL, h]
theorem infoI : ∃ i, Try.prog.info? 3 = some i ∧ i.zero = some (.int .i64 0) ∧ i.size = 1 ∧ i.bytes = 8 := by
  have h : (Try.prog.info? 3).map (fun i => (i.zero, i.size, i.bytes)) = some (some (.int .i64 0), 1, 8) := by kernel_rfl
  obtain ⟨i, hi, e⟩ := Option.map_eq_some_iff.1 h
  simp at e
  exact ⟨i, hi, e⟩
theorem own_ints {B n : Nat} {u : Value} {X : Nat → Int} {w : World} (h : w.ownsRow B 3 1 u n (intL n X)) : ∃ a cap, u = .slice a n cap ∧ IsInts w a n cap X := by
  obtain ⟨h1, ⟨rfl, rfl⟩ | ⟨g, cap, cur, rfl, h2, h3, h4, h5, h6, h7⟩⟩ := h
  · exact ⟨none, 0, rfl, .inl rfl⟩
  · refine ⟨_, _, rfl, .inr ⟨g, 0, rfl, (Array.getElem?_eq_some_iff.1 h3).1, h4, h5, fun i hi => ?_⟩⟩
    rw [Nat.zero_add, IsAt.cell (show IsAt g 3 cur w from h3)]
    have := intL_get (X := X) hi
    rw [← h7, Nat.mul_one, List.getElem?_take_of_lt hi, Array.getElem?_toList] at this
    exact this
theorem IsInts.cells {w : World} {a : Option Addr} {n cap : Nat} {X : Nat → Int} (h : IsInts w a n cap X) (h1 : 1 ≤ n) : ∃ b off, a = some ⟨b, off, none⟩ ∧ ∀ W, Below w.heap.size w W → ∀ i, i < n → W.cell? ⟨b, off + i, none⟩ = some (.int .i64 (X i)) := by
  rcases h with h | ⟨b, off, rfl, hb, _, _, hc⟩
  · omega
  · exact ⟨b, off, rfl, fun W h i hi => by rw [h.cell (p := ⟨b, off + i, none⟩) hb]; exact hc i hi⟩
theorem region_below {P : Program} {id : Nat} {Q : Exit → Act → World → Prop} {a : Act} {w : World} {l : List Oper} (hm : P.follows .mixedOrders = true) (hB : Region.lexB .any l.toArray = true)
    (h : wpQuiet P l.toArray (Below w.heap.size w) (fun a' => ∀ w', Below w.heap.size w w' → Q .normal a' w') l a) : (Code.region id l.toArray true).wp P Q a w :=
  wp_region_quiet (C := Below w.heap.size w) hm hB (Below.drew (Below.refl _ w)) (by simpa using h)
theorem addr_plainF {w : World} {a : Addr} {v : Value} (h : w.cell? a = some v) : ∃ b off, a = ⟨b, off, none⟩ ∧ b < w.heap.size := by
  obtain ⟨b, off, spot⟩ := a
  have hs : spot = none := World.cell?_spot h
  subst hs
  exact ⟨b, off, rfl, block_lt_of_cell h⟩
section
variable {H : Type} {enc : TypeId × Value → H} {P : Program} {w : World} {base : Nat} {held : Bool}
/-- A slice of ints that is handed in. -/
theorem open_isints {t e : TypeId} {fuel : Nat} {a : Option Addr} {len cap : Nat} {x : DataW H × List MemPlace} (ht : P.underlying t = some (.slice e)) (he : P.underlying e = some (.int .i64)) (hc : P.cellsOf e = 1)
    (h : DataW.trod enc P w base (fun _ => true) held fuel t (Value.slice a len cap).cells.toList = some x) : ∃ X, len ≤ maxLen ∧ IsInts w a len cap X := by
  rcases open_ints ht he hc h with ⟨hcs, _⟩ | ⟨y, l, c, zs, hcs, _, hl, hm, hz, _, hcell, _⟩
  · simp [Value.cells] at hcs
    obtain ⟨rfl, rfl, rfl⟩ := hcs
    exact ⟨fun _ => 0, Nat.zero_le _, .inl rfl⟩
  simp [Value.cells] at hcs
  obtain ⟨rfl, rfl, rfl⟩ := hcs
  have hz' : zs.length = cap := by simpa using hz
  refine ⟨fun i => zs.getD i 0, Nat.le_trans hl hm, ?_⟩
  by_cases h0 : len = 0
  · exact .inl h0
  have h1 := hcell 0 (by omega)
  have e : y.add 0 = y := by simp [Addr.add]
  rw [e] at h1
  obtain ⟨b, off, rfl, hb'⟩ := addr_plainF h1
  exact .inr ⟨b, off, rfl, hb', hl, hm, fun i hi => by have h2 := hcell i (by omega); rwa [add_plain] at h2⟩
end
end Go.Proofs.Ytgbehapekfoaiaa
