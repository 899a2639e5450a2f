/-
  Slices of ints, rows of ints of one's own in the heap, rows grown by append, ints that are handed in; the contracts of the document's Within and Same.
-/
import Derived.Test.YtfhcfdepjhdhfaaDoorZB
import Derived.BigRegion
import Derived.BigQuiet
import Derived.Laws.CopyOwn
import Derived.Laws.MakeOwn
import Derived.Deep.OwnRows
import Derived.Deep.AppendLies
import Derived.ChangeSlices
import Derived.ChangeKeysEq
import Derived.Deep.WholeRow
import Derived.OpenShut
import Derived.Deep.Grids
namespace Go.Proofs.YtfhcfdepjhdhfaaDoor
open Go.ChangeShapes Go.WideShapes Go.ChangeAt Go.RowKit
set_option linter.unusedVariables false

/-- A slice of len ints, those that X tells. -/
def IsInts (w : World) (a : Option Addr) (len cap : Nat) (X : Nat → Int) : Prop :=
  len = 0 ∨ ∃ b off, a = some ⟨b, off, none⟩ ∧ b < w.heap.size ∧ len ≤ cap ∧ cap ≤ maxLen ∧ ∀ i, i < len → w.cell? ⟨b, off + i, none⟩ = some (.int .i64 (X i))
theorem IsInts.frame {B : Nat} {w w' : World} {a : Option Addr} {len cap : Nat} {X : Nat → Int} (h : IsInts w a len cap X) (hb : Below B w w') (hB : ∀ x, a = some x → x.block < B) (hs : w.heap.size ≤ w'.heap.size) : IsInts w' a len cap X := by
  rcases h with h | ⟨b, off, e, h1, h2, h3, h4⟩
  · exact .inl h
  · refine .inr ⟨b, off, e, by omega, h2, h3, fun i hi => ?_⟩
    have hB := hB _ e
    rw [hb.cell (p := ⟨b, off + i, none⟩) hB]
    exact h4 i hi
theorem IsInts.below {w w' : World} {a : Option Addr} {len cap : Nat} {X : Nat → Int} (h : IsInts w a len cap X) (hb : Below w.heap.size w w') : IsInts w' a len cap X := by
  rcases h with h | ⟨b, off, e, h1, h2, h3, h4⟩
  · exact .inl h
  · have hs := hb.size
    refine .inr ⟨b, off, e, by omega, h2, h3, fun i hi => ?_⟩
    rw [hb.cell (p := ⟨b, off + i, none⟩) h1]
    exact h4 i hi
theorem IsInts.congr {w : World} {a : Option Addr} {len cap : Nat} {X Y : Nat → Int} (h : IsInts w a len cap X) (e : ∀ i, i < len → X i = Y i) : IsInts w a len cap Y := by
  rcases h with h | ⟨b, off, e', h1, h2, h3, h4⟩
  · exact .inl h
  · exact .inr ⟨b, off, e', h1, h2, h3, fun i hi => by rw [← e i hi]; exact h4 i hi⟩
/-- The document's Same, of lists that are. -/
theorem same_yes (a c : Option Addr) (len cap cap' : Nat) (X : Nat → Int) (hl : len ≤ 64) (w : World) (h : IsInts w a len cap X) (h' : IsInts w c len cap' X) :
    Calls Tryd.prog 11 #[.slice a len cap, .slice c len cap'] w fun e w' => e = .returned (.bool true) ∧ Below w.heap.size w w' := by
  by_cases h0 : len = 0
  · subst h0
    go_enter Tryd.func11, Tryd.ntmps11
    go_wp2
    go_loop [5] (fun i => i = .int .i64 0) (fun i => 0)
    case atStart => rfl
    case round =>
      subst hrel
      go_wp2
      go_ret
      exact ⟨rfl, Below.refl _ _⟩
  · rcases h with e | ⟨b, off, rfl, h1, h2, h3, hc⟩
    · exact absurd e h0
    rcases h' with e | ⟨d, off', rfl, h1', h2', h3', hd⟩
    · exact absurd e h0
    have HC : Hid (∀ wr, Below w.heap.size w wr → ∀ i, i < len → wr.cell? ⟨b, off + i, none⟩ = some (.int .i64 (X i))) := fun wr hb i hi => by
      rw [hb.cell (p := ⟨b, off + i, none⟩) h1]; exact hc i hi
    have HD : Hid (∀ wr, Below w.heap.size w wr → ∀ i, i < len → wr.cell? ⟨d, off' + i, none⟩ = some (.int .i64 (X i))) := fun wr hb i hi => by
      rw [hb.cell (p := ⟨d, off' + i, none⟩) h1']; exact hd i hi
    clear h1 h2 h3 h1' h2' h3' hc hd
    go_enter Tryd.func11, Tryd.ntmps11
    go_wp2
    go_loopw [5] (fun i wr => ∃ k : Nat, k ≤ len ∧ i = .int .i64 k ∧ Hid (Below w.heap.size w wr)) (fun i _ => len - (intOf i).toNat)
    case atStart => exact ⟨0, Nat.zero_le _, rfl, Below.refl _ _⟩
    case round =>
      obtain ⟨k, hk, rfl, HB⟩ := hrel
      by_cases hlt : k < len
      · have hck := HC.out _ HB.out k hlt
        have hdk := HD.out _ HB.out k hlt
        go_wp2
        go_region
        go_wp2
        refine ⟨⟨k + 1, by omega, by go_num, HB.out.drew⟩, by simp [intOf]; omega⟩
      · go_wp2
        go_ret
        exact ⟨rfl, HB.out⟩
theorem rwithin_g (lo hi : Int) (a : Option Addr) (len cap : Nat) (X : Nat → Int) (hl : len ≤ 1000) (w : World) (h : IsInts w a len cap X) :
    Calls Tryd.prog 29 #[.slice a len cap, .int .i64 lo, .int .i64 hi] w fun e w' => e = .returned (.bool (allIn lo hi X len)) ∧ w' = w := by
  rcases h with rfl | ⟨b, off, rfl, h1, h2, h3, hc⟩
  · go_enter Tryd.func29, Tryd.ntmps29
    go_wp2
    go_loop [7] (fun i => i = .int .i64 0) (fun i => 0)
    case atStart => rfl
    case round =>
      subst hrel
      go_wp2
      go_ret
      exact ⟨rfl, rfl⟩
  · clear h1 h2 h3
    go_enter Tryd.func29, Tryd.ntmps29
    go_wp2
    go_loop [7] (fun i => ∃ k : Nat, k ≤ len ∧ i = .int .i64 k ∧ allIn lo hi X k = true) (fun i => len - (intOf i).toNat)
    case atStart => exact ⟨0, Nat.zero_le _, rfl, rfl⟩
    case round =>
      obtain ⟨k, hk, rfl, hall⟩ := hrel
      have HA : Hid (allIn lo hi X k = true) := hall
      clear hall
      by_cases hlt : k < len
      · have hck := hc k hlt
        clear hc
        by_cases h1 : X k < lo
        · go_wp2
          go_ret
          exact ⟨ret_bool (allIn_no hlt (by omega)).symm, rfl⟩
        · by_cases h2 : hi < X k
          · go_wp2
            go_ret
            exact ⟨ret_bool (allIn_no hlt (by omega)).symm, rfl⟩
          · go_wp2
            go_round
            case rel => exact ⟨k + 1, by omega, by go_num, by simp [allIn, HA.out]; omega⟩
            case measure => simp [intOf]; omega
      · clear hc
        go_wp2
        go_ret
        obtain rfl : k = len := by omega
        exact ⟨ret_bool HA.out.symm, rfl⟩
def rowA (n : Nat) (X : Nat → Int) : Array Value := Array.ofFn (n := n) (fun i => Value.int .i64 (X i))
def upd (X : Nat → Int) (j : Nat) (v : Int) : Nat → Int := fun i => if i = j then v else X i
theorem rowA_get {n : Nat} {X : Nat → Int} {i : Nat} (h : i < n) : (rowA n X)[i]? = some (.int .i64 (X i)) := by
  simp [rowA, h]
theorem rowA_congr {n : Nat} {X Y : Nat → Int} (h : ∀ i, i < n → X i = Y i) : rowA n X = rowA n Y := by
  unfold rowA; congr 1; funext i; rw [h i i.2]
theorem rowA_set {n : Nat} (X : Nat → Int) {j : Nat} (v : Int) (h : j < n) : (rowA n X).setIfInBounds j (.int .i64 v) = rowA n (upd X j v) := by
  refine Array.ext (by simp [rowA]) (fun i h1 h2 => ?_)
  have hi : i < n := by simpa [rowA] using h2
  have e1 : ((rowA n X).setIfInBounds j (Value.int .i64 v))[i]? = some (.int .i64 (upd X j v i)) := by
    rw [Array.getElem?_setIfInBounds]
    by_cases e : j = i
    · subst e
      rw [if_pos rfl, if_pos (by simpa [rowA] using hi), upd, if_pos rfl]
    · rw [if_neg e, rowA_get hi, upd, if_neg (fun h => e h.symm)]
  have e2 := rowA_get (X := upd X j v) hi
  rw [Array.getElem?_eq_getElem h1] at e1
  rw [Array.getElem?_eq_getElem h2] at e2
  exact Option.some.inj (e1.trans e2.symm)
abbrev RowAt (r n : Nat) (X : Nat → Int) (w : World) : Prop := IsAt r 3 (rowA n X) w
theorem RowAt.get {r n : Nat} {X : Nat → Int} {w : World} (h : RowAt r n X w) {j : Nat} (hj : j < n) : w.cell? ⟨r, j, none⟩ = some (.int .i64 (X j)) := by
  rw [IsAt.cell h, rowA_get hj]
theorem RowAt.set {r n : Nat} {X : Nat → Int} {w : World} (h : RowAt r n X w) {j : Nat} (hj : j < n) (v : Int) : RowAt r n (upd X j v) (w.setCell ⟨r, j, none⟩ (.int .i64 v)) := by
  rw [RowAt, ← rowA_set X v hj]; exact IsAt.set h j _
theorem RowAt.congr {r n : Nat} {X Y : Nat → Int} {w : World} (h : RowAt r n X w) (e : ∀ i, i < n → X i = Y i) : RowAt r n Y w := by
  rw [RowAt, ← rowA_congr e]; exact h
theorem RowAt.lt {r n : Nat} {X : Nat → Int} {w : World} (h : RowAt r n X w) : r < w.heap.size := by
  have h' : w.heap[r]? = some _ := h
  exact (Array.getElem?_eq_some_iff.1 h').1
theorem RowAt.below {r n : Nat} {X : Nat → Int} {w w' : World} (h : RowAt r n X w) (hb : Below w.heap.size w w') : RowAt r n X w' :=
  (hb.block r h.lt).trans h
theorem RowAt.ints {r n : Nat} {X : Nat → Int} {w : World} (h : RowAt r n X w) (hn : n ≤ maxLen) : IsInts w (some ⟨r, 0, none⟩) n n X :=
  .inr ⟨r, 0, rfl, h.lt, Nat.le_refl _, hn, fun i hi => by rw [Nat.zero_add]; exact h.get hi⟩
theorem made_row (n : Nat) : madeCells #[Value.int .i64 0] n = rowA n (fun _ => 0) := by
  refine Array.ext (by simp [rowA, madeCells]) (fun i h1 h2 => ?_)
  simp [rowA, madeCells, Nat.mod_one]
theorem make_ints {n : Nat} (hn : n ≤ 64) (w : World) : (Instr.makeSlice 23 (.int .i64 (n : Int)) (.int .i64 (n : Int))).run Tryd.prog w = .ok (.slice (some ⟨w.heap.size, 0, none⟩) n n) (w.alloc (.cells (rowA n (fun _ => 0)) 3)) := by
  rw [← made_row]
  exact run_make_row' (P := Tryd.prog) 23 3 (.int .i64 0) 8 Tryd.underlying23 (by kernel_rfl) rfl .i64 .i64 n (by omega) (by omega) w
theorem al_new (w : World) (o : Obj) : (w.alloc o).heap[w.heap.size]? = some o := by show (w.heap.push o)[_]? = _; simp
theorem al_old {w : World} {k : Nat} (o : Obj) (h : k < w.heap.size) : (w.alloc o).heap[k]? = w.heap[k]? := by show (w.heap.push o)[k]? = _; rw [Array.getElem?_push, if_neg (by omega)]
theorem al_size (w : World) (o : Obj) : (w.alloc o).heap.size = w.heap.size + 1 := by show (w.heap.push o).size = _; simp
theorem addr_add (b off j : Nat) : Addr.add ⟨b, off, none⟩ j = ⟨b, off + j, none⟩ := by
  unfold Addr.add
  split
  · next h => subst h; rfl
  · rfl
theorem copy_row {n : Nat} {X Z : Nat → Int} {r b off ca : Nat} {w : World} (hr : RowAt r n Z w) (hc : ∀ i, i < n → w.cell? ⟨b, off + i, none⟩ = some (.int .i64 (X i))) (ty : TypeId) :
    (Builtin.copy_ #[23, 23] ty #[.slice (some ⟨r, 0, none⟩) n n, .slice (some ⟨b, off, none⟩) n ca]).run Tryd.prog w = .ok (goInt n) (w.setRow r (rowA n X)) := by
  have hl : (rowA n X).toList.length = n := by simp [rowA]
  have := run_copy_row (P := Tryd.prog) w 23 23 ty 3 r 0 n n ⟨b, off, none⟩ n ca (rowA n Z) 3 (rowA n X).toList Tryd.underlying23 (by kernel_rfl) hr (by rw [hl]; exact (Nat.min_self n).symm)
    (fun j v hv => by
      have hj : j < n := by
        have := (List.getElem?_eq_some_iff.1 hv).1
        rw [hl] at this; exact this
      have e := rowA_get (X := X) hj
      rw [Array.getElem?_toList] at hv
      rw [e] at hv
      rw [← hv]
      rw [addr_add]; exact hc j hj) (by rw [hl]; simp [rowA]) (fun v hv => by
      obtain ⟨j, hj⟩ := List.mem_iff_getElem?.1 hv
      have hj' : j < n := by
        have := (List.getElem?_eq_some_iff.1 hj).1
        rw [hl] at this; exact this
      rw [Array.getElem?_toList, rowA_get hj'] at hj
      rw [← Option.some.inj hj]; rfl)
  rw [hl] at this
  rw [this]
  have hz : (rowA n Z).toList.drop (0 + n) = [] := List.drop_eq_nil_of_le (by simp [rowA])
  rw [hz]
  congr 2
  simp
def intL (k : Nat) (X : Nat → Int) : List Value := (List.range k).map fun i => .int .i64 (X i)
theorem intL_snoc (k : Nat) (X : Nat → Int) : intL (k + 1) X = intL k X ++ [.int .i64 (X k)] := by simp [intL, List.range_succ]
theorem intL_get {k i : Nat} {X : Nat → Int} (h : i < k) : (intL k X)[i]? = some (.int .i64 (X i)) := by simp [intL, h]
theorem infoI : ∃ i, Tryd.prog.info? 3 = some i ∧ i.zero = some (.int .i64 0) ∧ i.size = 1 ∧ i.bytes = 8 := by
  have h : (Tryd.prog.info? 3).map (fun i => (i.zero, i.size, i.bytes)) = some (some (.int .i64 0), 1, 8) := by kernel_rfl
  obtain ⟨i, hi, e⟩ := Option.map_eq_some_iff.1 h
  simp at e
  exact ⟨i, hi, e⟩
theorem own_ints {B n : Nat} {u : Value} {X : Nat → Int} {w : World} (h : w.ownsRow B 3 1 u n (intL n X)) : ∃ a cap, u = .slice a n cap ∧ IsInts w a n cap X := by
  obtain ⟨h1, ⟨rfl, rfl⟩ | ⟨g, cap, cur, rfl, h2, h3, h4, h5, h6, h7⟩⟩ := h
  · exact ⟨none, 0, rfl, .inl rfl⟩
  · refine ⟨_, _, rfl, .inr ⟨g, 0, rfl, (Array.getElem?_eq_some_iff.1 h3).1, h4, h5, fun i hi => ?_⟩⟩
    rw [Nat.zero_add, IsAt.cell (show IsAt g 3 cur w from h3)]
    have := intL_get (X := X) hi
    rw [← h7, Nat.mul_one, List.getElem?_take_of_lt hi, Array.getElem?_toList] at this
    exact this
theorem IsInts.cells {w : World} {a : Option Addr} {n cap : Nat} {X : Nat → Int} (h : IsInts w a n cap X) (h1 : 1 ≤ n) : ∃ b off, a = some ⟨b, off, none⟩ ∧ ∀ W, Below w.heap.size w W → ∀ i, i < n → W.cell? ⟨b, off + i, none⟩ = some (.int .i64 (X i)) := by
  rcases h with h | ⟨b, off, rfl, hb, _, _, hc⟩
  · omega
  · exact ⟨b, off, rfl, fun W h i hi => by rw [h.cell (p := ⟨b, off + i, none⟩) hb]; exact hc i hi⟩
theorem region_below {P : Program} {id : Nat} {Q : Exit → Act → World → Prop} {a : Act} {w : World} {l : List Oper} (hm : P.follows .mixedOrders = true) (hB : Region.lexB .any l.toArray = true)
    (h : wpQuiet P l.toArray (Below w.heap.size w) (fun a' => ∀ w', Below w.heap.size w w' → Q .normal a' w') l a) : (Code.region id l.toArray true).wp P Q a w :=
  wp_region_quiet (C := Below w.heap.size w) hm hB (Below.drew (Below.refl _ w)) (by simpa using h)
theorem addr_plainF {w : World} {a : Addr} {v : Value} (h : w.cell? a = some v) : ∃ b off, a = ⟨b, off, none⟩ ∧ b < w.heap.size := by
  obtain ⟨b, off, spot⟩ := a
  have hs : spot = none := World.cell?_spot h
  subst hs
  exact ⟨b, off, rfl, block_lt_of_cell h⟩
section
variable {H : Type} {enc : TypeId × Value → H} {P : Program} {w : World} {base : Nat} {held : Bool}
/-- A slice of ints that is handed in. -/
theorem open_isints {t e : TypeId} {fuel : Nat} {a : Option Addr} {len cap : Nat} {x : DataW H × List MemPlace} (ht : P.underlying t = some (.slice e)) (he : P.underlying e = some (.int .i64)) (hc : P.cellsOf e = 1)
    (h : DataW.trod enc P w base (fun _ => true) held fuel t (Value.slice a len cap).cells.toList = some x) : ∃ X, len ≤ maxLen ∧ IsInts w a len cap X := by
  rcases open_ints ht he hc h with ⟨hcs, _⟩ | ⟨y, l, c, zs, hcs, _, hl, hm, hz, _, hcell, _⟩
  · simp [Value.cells] at hcs
    obtain ⟨rfl, rfl, rfl⟩ := hcs
    exact ⟨fun _ => 0, Nat.zero_le _, .inl rfl⟩
  simp [Value.cells] at hcs
  obtain ⟨rfl, rfl, rfl⟩ := hcs
  have hz' : zs.length = cap := by simpa using hz
  refine ⟨fun i => zs.getD i 0, Nat.le_trans hl hm, ?_⟩
  by_cases h0 : len = 0
  · exact .inl h0
  have h1 := hcell 0 (by omega)
  have e : y.add 0 = y := by simp [Addr.add]
  rw [e] at h1
  obtain ⟨b, off, rfl, hb'⟩ := addr_plainF h1
  exact .inr ⟨b, off, rfl, hb', hl, hm, fun i hi => by have h2 := hcell i (by omega); rwa [add_plain] at h2⟩
end
end Go.Proofs.YtfhcfdepjhdhfaaDoor
/-
  Rows of ints that grow by append: kept, one more, handed back.
-/
namespace Go.Proofs.YtfhcfdepjhdhfaaDoor
open Go.ChangeShapes Go.WideShapes Go.ChangeAt Go.RowKit
set_option linter.unusedVariables false

theorem wr_in {x : Int} (h1 : -9223372036854775808 ≤ x) (h2 : x ≤ 9223372036854775807) : wrap64 x = x := by unfold wrap64; omega
/-- A row of one's own is as it was, where nothing old has turned. -/
theorem owns_below {w w' : World} {B k sz : Nat} {t : TypeId} {v : Value} {l : List Value} (h : w.ownsRow B t sz v k l) (hb : Below w.heap.size w w') : w'.ownsRow B t sz v k l := by
  obtain ⟨h1, h2 | ⟨g, cap, cur, h2, h3, h4, h5⟩⟩ := h
  · exact ⟨h1, .inl h2⟩
  · exact ⟨h1, .inr ⟨g, cap, cur, h2, h3, (hb.block g (Array.getElem?_eq_some_iff.1 h4).1).trans h4, h5⟩⟩
/-- A list of one's own, and all that was there at first is as it was. -/
def OPost (n : Nat) (G : Nat → Int) (w : World) (e : Ending) (w' : World) : Prop := ∃ a cap, e = .returned (.slice a n cap) ∧ IsInts w' a n cap G ∧ Below w.heap.size w w' ∧ ∀ x, a = some x → w.heap.size ≤ x.block
/-- A row of one's own lies at or above its bound. -/
theorem own_new {B n k sz cap : Nat} {t : TypeId} {a : Option Addr} {l : List Value} {w : World} (h : w.ownsRow B t sz (.slice a n cap) k l) : ∀ x, a = some x → B ≤ x.block := by
  intro x hx
  obtain ⟨h1, ⟨e, _⟩ | ⟨g, cap', cur, e, h2, _⟩⟩ := h
  · cases e; cases hx
  · cases e; cases hx; exact h2
/-- One number is appended to a row of the call's own. -/
theorem oi_step {B k gg cap : Nat} {w1 wr w3 : World} {v : Value} {X : Nat → Int} {c : Int} (h : wr.ownsRow B 3 1 v k (intL k X)) (hb : Below B w1 wr) (hz : B ≤ wr.heap.size) (hc : c = X k)
    (hown : w3.ownsRow B 3 1 (.slice (some ⟨gg, 0, none⟩) (k + 1) cap) (k + 1) (intL k X ++ [.int .i64 c])) (hg : (wr.alloc (.cells #[.int .i64 c] 3)).grownBy w3 v.ownBlock) :
    w3.ownsRow B 3 1 (.slice (some ⟨gg, 0, none⟩) (k + 1) cap) (k + 1) (intL (k + 1) X) ∧ Below B w1 w3 ∧ B ≤ w3.heap.size := by
  subst hc
  have hs : (wr.alloc (.cells #[.int .i64 (X k)] 3)).heap.size = wr.heap.size + 1 := al_size _ _
  refine ⟨by rw [intL_snoc]; exact hown, ?_, by have := hg.size; omega⟩
  exact Below.grown (hb.alloc hz _) hg (by omega) (fun j hj => (h.lt j hj).1)
end Go.Proofs.YtfhcfdepjhdhfaaDoor
/-
  Rows of lists of ints: of one's own, grown by append; read again.
-/
namespace Go.Proofs.YtfhcfdepjhdhfaaDoor
open Go.ChangeShapes Go.WideShapes Go.ChangeAt Go.RowKit
set_option linter.unusedVariables false

theorem infoL : ∃ i, Tryd.prog.info? 23 = some i ∧ i.zero = some (.slice none 0 0) ∧ i.size = 1 ∧ i.bytes = 24 := by
  have h : (Tryd.prog.info? 23).map (fun i => (i.zero, i.size, i.bytes)) = some (some (.slice none 0 0), 1, 24) := by kernel_rfl
  obtain ⟨i, hi, e⟩ := Option.map_eq_some_iff.1 h
  simp at e
  exact ⟨i, hi, e⟩
/-- k lists of n ints each, those that Y tells. -/
def IsLists (w : World) (a : Option Addr) (k cap n : Nat) (Y : Nat → Nat → Int) : Prop :=
  k = 0 ∨ ∃ b off, a = some ⟨b, off, none⟩ ∧ b < w.heap.size ∧ k ≤ cap ∧ cap ≤ maxLen ∧ ∀ i, i < k → ∃ ai ci, w.cell? ⟨b, off + i, none⟩ = some (.slice ai n ci) ∧ IsInts w ai n ci (Y i)
theorem IsLists.below {w w' : World} {a : Option Addr} {k cap n : Nat} {Y : Nat → Nat → Int} (h : IsLists w a k cap n Y) (hb : Below w.heap.size w w') : IsLists w' a k cap n Y := by
  rcases h with h | ⟨b, off, e, h1, h2, h3, h4⟩
  · exact .inl h
  · have hs := hb.size
    refine .inr ⟨b, off, e, by omega, h2, h3, fun i hi => ?_⟩
    obtain ⟨ai, ci, hc, hI⟩ := h4 i hi
    exact ⟨ai, ci, by rw [hb.cell (p := ⟨b, off + i, none⟩) h1]; exact hc, hI.below hb⟩
theorem IsLists.get {w : World} {a : Option Addr} {k cap n : Nat} {Y : Nat → Nat → Int} (h : IsLists w a k cap n Y) (h1 : 1 ≤ k) : ∃ b off, a = some ⟨b, off, none⟩ ∧ ∀ W, Below w.heap.size w W → ∀ i, i < k → ∃ ai ci, W.cell? ⟨b, off + i, none⟩ = some (.slice ai n ci) ∧ IsInts W ai n ci (Y i) := by
  rcases h with h | ⟨b, off, rfl, hb, _, _, hc⟩
  · omega
  · refine ⟨b, off, rfl, fun W hW i hi => ?_⟩
    obtain ⟨ai, ci, hc', hI⟩ := hc i hi
    exact ⟨ai, ci, by rw [hW.cell (p := ⟨b, off + i, none⟩) hb]; exact hc', hI.below hW⟩
theorem IsLists.congr {w : World} {a : Option Addr} {k cap n : Nat} {Y Z : Nat → Nat → Int} (h : IsLists w a k cap n Y) (e : ∀ i, i < k → ∀ j, j < n → Y i j = Z i j) : IsLists w a k cap n Z := by
  rcases h with h | ⟨b, off, e', h1, h2, h3, h4⟩
  · exact .inl h
  · refine .inr ⟨b, off, e', h1, h2, h3, fun i hi => ?_⟩
    obtain ⟨ai, ci, hc, hI⟩ := h4 i hi
    exact ⟨ai, ci, hc, hI.congr (e i hi)⟩
/-- Such a row of the call's own, on the way. -/
structure RowsOwn (B n k : Nat) (u : Value) (Y : Nat → Nat → Int) (w0 w : World) (vs : List Value) : Prop where
  own : w.ownsRow B 23 1 u k vs
  len : vs.length = k
  rows : ∀ i, i < k → ∃ a c, vs[i]? = some (.slice a n c) ∧ IsInts w a n c (Y i) ∧ ∀ x, a = some x → B ≤ x.block ∧ u.ownBlock ≠ some x.block
  bel : Below B w0 w
  sz : B ≤ w.heap.size
theorem RowsOwn.start {B n : Nat} {Y : Nat → Nat → Int} {w : World} (hB : B = w.heap.size) : RowsOwn B n 0 (.slice none 0 0) Y w w [] := by
  subst hB
  exact ⟨World.ownsRow_nil _ _ _ _, rfl, fun i hi => by omega, Below.refl _ _, Nat.le_refl _⟩
theorem RowsOwn.tr {B n k : Nat} {u : Value} {Y : Nat → Nat → Int} {w0 w w' : World} {vs : List Value} (h : RowsOwn B n k u Y w0 w vs) (hb : Below w.heap.size w w') : RowsOwn B n k u Y w0 w' vs := by
  refine ⟨owns_below h.own hb, h.len, fun i hi => ?_, h.bel.trans (hb.mono h.sz), Nat.le_trans h.sz hb.size⟩
  obtain ⟨a, c, e, hI, hne⟩ := h.rows i hi
  exact ⟨a, c, e, hI.below hb, hne⟩
/-- The own block lies below what is made later. -/
theorem RowsOwn.apart {B n k : Nat} {u : Value} {Y : Nat → Nat → Int} {w0 w : World} {vs : List Value} (h : RowsOwn B n k u Y w0 w vs) {a : Option Addr} (hn : ∀ x, a = some x → w.heap.size ≤ x.block) : ∀ x, a = some x → B ≤ x.block ∧ u.ownBlock ≠ some x.block := by
  intro x hx
  have h2 := hn x hx
  refine ⟨Nat.le_trans h.sz h2, fun e => ?_⟩
  have h1 := (h.own.lt _ e).2
  omega
theorem ints_grown {w w' : World} {o : Obj} {row : Option Nat} {a : Option Addr} {n c : Nat} {X : Nat → Int} (h : IsInts w a n c X) (hne : ∀ x, a = some x → row ≠ some x.block) (hg : (w.alloc o).grownBy w' row) : IsInts w' a n c X := by
  rcases h with h | ⟨b, off, rfl, h1, h2, h3, h4⟩
  · exact .inl h
  · have hs : (w.alloc o).heap.size = w.heap.size + 1 := al_size _ _
    have hb := hg.block b (by omega) (fun e => hne _ rfl e.symm)
    have hsz := hg.size
    refine .inr ⟨b, off, rfl, by omega, h2, h3, fun i hi => ?_⟩
    rw [World.cell?_of_block (a := ⟨b, off + i, none⟩) (hb.trans (al_old o h1))]
    exact h4 i hi
theorem RowsOwn.next {B n k g cap c : Nat} {u : Value} {Y : Nat → Nat → Int} {w0 w w3 : World} {vs : List Value} {o : Obj} {a : Option Addr} (h : RowsOwn B n k u Y w0 w vs) (h1 : 1 ≤ n) (hI : IsInts w a n c (Y k)) (hne : ∀ x, a = some x → B ≤ x.block ∧ u.ownBlock ≠ some x.block)
    (hown : w3.ownsRow B 23 1 (.slice (some ⟨g, 0, none⟩) (k + 1) cap) (k + 1) (vs ++ [.slice a n c])) (hg : (w.alloc o).grownBy w3 u.ownBlock) (hor : u.ownBlock = some g ∨ g = w.heap.size + 1) :
    RowsOwn B n (k + 1) (.slice (some ⟨g, 0, none⟩) (k + 1) cap) Y w0 w3 (vs ++ [.slice a n c]) := by
  have hs : (w.alloc o).heap.size = w.heap.size + 1 := al_size _ _
  have apart : ∀ {a' : Option Addr} {c' : Nat} {X : Nat → Int}, IsInts w a' n c' X → (∀ x, a' = some x → B ≤ x.block ∧ u.ownBlock ≠ some x.block) → ∀ x, a' = some x → B ≤ x.block ∧ (Value.slice (some ⟨g, 0, none⟩) (k + 1) cap).ownBlock ≠ some x.block := by
    intro a' c' X hI' hn' x hx
    refine ⟨(hn' x hx).1, fun e => ?_⟩
    have e : some g = some x.block := e
    rcases hor with e2 | e2
    · exact (hn' x hx).2 (e2.trans e)
    · rcases hI' with h0 | ⟨b, off, rfl, hb, _⟩
      · omega
      · cases hx
        have := Option.some.inj e
        simp at this
        omega
  refine ⟨hown, by simp [h.len], fun i hi => ?_, Below.grown (h.bel.alloc h.sz _) hg (by have := h.sz; omega) (fun j hj => (h.own.lt j hj).1), by have := hg.size; have := h.sz; omega⟩
  by_cases e : i < k
  · obtain ⟨a', c', e', hI', hn'⟩ := h.rows i e
    exact ⟨a', c', by rw [List.getElem?_append_left (by rw [h.len]; exact e)]; exact e', ints_grown hI' (fun x hx => (hn' x hx).2) hg, apart hI' hn'⟩
  · obtain rfl : i = k := by omega
    exact ⟨a, c, by rw [List.getElem?_append_right (by rw [h.len]; omega), h.len]; simp, ints_grown hI (fun x hx => (hne x hx).2) hg, apart hI hne⟩
/-- Such lists as lie at or above a bound. -/
def IsListsN (B : Nat) (w : World) (a : Option Addr) (k cap n : Nat) (Y : Nat → Nat → Int) : Prop :=
  k = 0 ∨ ∃ b off, a = some ⟨b, off, none⟩ ∧ B ≤ b ∧ b < w.heap.size ∧ k ≤ cap ∧ cap ≤ maxLen ∧ ∀ i, i < k → ∃ ai ci, w.cell? ⟨b, off + i, none⟩ = some (.slice ai n ci) ∧ IsInts w ai n ci (Y i) ∧ ∀ x, ai = some x → B ≤ x.block
theorem IsListsN.lists {B : Nat} {w : World} {a : Option Addr} {k cap n : Nat} {Y : Nat → Nat → Int} (h : IsListsN B w a k cap n Y) : IsLists w a k cap n Y := by
  rcases h with h | ⟨b, off, e, h0, h1, h2, h3, h4⟩
  · exact .inl h
  · refine .inr ⟨b, off, e, h1, h2, h3, fun i hi => ?_⟩
    obtain ⟨ai, ci, hc, hI, _⟩ := h4 i hi
    exact ⟨ai, ci, hc, hI⟩
theorem RowsOwn.listsN {B n k : Nat} {u : Value} {Y : Nat → Nat → Int} {w0 w : World} {vs : List Value} (h : RowsOwn B n k u Y w0 w vs) : ∃ a cap, u = .slice a k cap ∧ IsListsN B w a k cap n Y := by
  obtain ⟨h1, ⟨rfl, e⟩ | ⟨g, cap, cur, rfl, h2, h3, h4, h5, h6, h7⟩⟩ := h.own
  · exact ⟨none, 0, by have := h.len; subst e; rfl, .inl (by have := h.len; omega)⟩
  · refine ⟨_, _, rfl, .inr ⟨g, 0, rfl, h2, (Array.getElem?_eq_some_iff.1 h3).1, h4, h5, fun i hi => ?_⟩⟩
    obtain ⟨a, c, e, hI, hn⟩ := h.rows i hi
    refine ⟨a, c, ?_, hI, fun x hx => (hn x hx).1⟩
    rw [Nat.zero_add, IsAt.cell (show IsAt g 23 cur w from h3)]
    rw [← h7, Nat.mul_one, List.getElem?_take_of_lt hi, Array.getElem?_toList] at e
    exact e
theorem RowsOwn.lists {B n k : Nat} {u : Value} {Y : Nat → Nat → Int} {w0 w : World} {vs : List Value} (h : RowsOwn B n k u Y w0 w vs) : ∃ a cap, u = .slice a k cap ∧ IsLists w a k cap n Y := by
  obtain ⟨a, cap, e, hl⟩ := h.listsN
  exact ⟨a, cap, e, hl.lists⟩
/-- k lists, each of as many ints as N tells. -/
def IsListsV (w : World) (a : Option Addr) (k cap : Nat) (N : Nat → Nat) (Y : Nat → Nat → Int) : Prop :=
  k = 0 ∨ ∃ b off, a = some ⟨b, off, none⟩ ∧ b < w.heap.size ∧ k ≤ cap ∧ cap ≤ maxLen ∧ ∀ i, i < k → ∃ ai ci, w.cell? ⟨b, off + i, none⟩ = some (.slice ai (N i) ci) ∧ IsInts w ai (N i) ci (Y i)
theorem IsListsV.same {w : World} {a : Option Addr} {k cap n : Nat} {N : Nat → Nat} {Y : Nat → Nat → Int} (h : IsListsV w a k cap N Y) (e : ∀ i, i < k → N i = n) : IsLists w a k cap n Y := by
  rcases h with h | ⟨b, off, e', h1, h2, h3, h4⟩
  · exact .inl h
  · refine .inr ⟨b, off, e', h1, h2, h3, fun i hi => ?_⟩
    have := h4 i hi
    rwa [e i hi] at this
theorem IsListsV.below {w w' : World} {a : Option Addr} {k cap : Nat} {N : Nat → Nat} {Y : Nat → Nat → Int} (h : IsListsV w a k cap N Y) (hb : Below w.heap.size w w') : IsListsV w' a k cap N Y := by
  rcases h with h | ⟨b, off, e, h1, h2, h3, h4⟩
  · exact .inl h
  · have hs := hb.size
    refine .inr ⟨b, off, e, by omega, h2, h3, fun i hi => ?_⟩
    obtain ⟨ai, ci, hc, hI⟩ := h4 i hi
    exact ⟨ai, ci, by rw [hb.cell (p := ⟨b, off + i, none⟩) h1]; exact hc, hI.below hb⟩
end Go.Proofs.YtfhcfdepjhdhfaaDoor
/-
  Arrays of eight ints by value, in variables of their own: made, taken whole, laid whole, held against one another.
-/
namespace Go.Proofs.YtfhcfdepjhdhfaaDoor
open Go.ChangeShapes Go.WideShapes Go.ChangeAt Go.RowKit
set_option linter.unusedVariables false

theorem hid {p : Prop} (h : p) : Hid p := h
/-- Eight ints as a value. -/
abbrev arr8 (X : Nat → Int) : Value := .agg (rowA 8 X)
theorem arr8_congr {X Y : Nat → Int} (h : ∀ i, i < 8 → X i = Y i) : arr8 X = arr8 Y := by rw [arr8, arr8, rowA_congr h]
theorem arr8_zero : Value.agg #[.int .i64 0, .int .i64 0, .int .i64 0, .int .i64 0, .int .i64 0, .int .i64 0, .int .i64 0, .int .i64 0] = arr8 (fun _ => 0) := rfl
theorem rowA8_zero : #[Value.int .i64 0, .int .i64 0, .int .i64 0, .int .i64 0, .int .i64 0, .int .i64 0, .int .i64 0, .int .i64 0] = rowA 8 (fun _ => 0) := rfl
theorem rowA_size (n : Nat) (X : Nat → Int) : (rowA n X).size = n := by simp [rowA]
theorem rowA_one (n : Nat) (X : Nat → Int) : (rowA n X).all (·.oneCell') = true := by
  rw [Array.all_eq_true_iff_forall_mem]
  intro v hv
  obtain ⟨j, hj⟩ := Array.mem_iff_getElem?.1 hv
  have hj' : j < n := by
    have := (Array.getElem?_eq_some_iff.1 hj).1
    rwa [rowA_size] at this
  rw [rowA_get hj'] at hj
  rw [← Option.some.inj hj]; rfl
theorem info8 : (Tryd.prog.info? 22).map (·.size) = some 8 := by kernel_rfl
/-- A variable that is an array. -/
def ArrAt (r : Nat) (X : Nat → Int) (w : World) : Prop := IsAt r 22 (rowA 8 X) w
theorem ArrAt.load {r : Nat} {X : Nat → Int} {w : World} (h : ArrAt r X w) : (loadVar 22 ⟨r, 0, none⟩).run Tryd.prog w = .ok (arr8 X) w :=
  run_loadVar_row w r 22 22 (rowA 8 X) (0, 0) _ h Tryd.underlying22 rfl (by rw [rowA_size]; exact info8)
theorem ArrAt.store {r : Nat} {Z : Nat → Int} {w : World} (h : ArrAt r Z w) (X : Nat → Int) : (storeVar 22 ⟨r, 0, none⟩ (arr8 X)).run Tryd.prog w = .ok () (w.setRow r (rowA 8 X)) :=
  run_storeVar_row w r 22 22 (rowA 8 Z) (rowA 8 X) h (by rw [rowA_size]; exact info8) (by rw [rowA_size, rowA_size]) (rowA_one 8 X)
theorem ArrAt.laid {r : Nat} {Z : Nat → Int} {w : World} (h : ArrAt r Z w) (X : Nat → Int) : ArrAt r X (w.setRow r (rowA 8 X)) := setRow_heap w r _ _ _ _ h
theorem ArrAt.kept {r q : Nat} {Z : Nat → Int} {w : World} (h : ArrAt r Z w) (hne : r ≠ q) (cs : Array Value) : ArrAt r Z (w.setRow q cs) := (setRow_other w q r _ hne).trans h
theorem ArrAt.frozen {r : Nat} {X : Nat → Int} {w : World} (h : ArrAt r X w) (j : Nat) : w.frozen? ⟨r, j, none⟩ = false := IsAt.frozen (t := 22) (cs := rowA 8 X) h j
theorem ArrAt.other {r : Nat} {X : Nat → Int} {w : World} (h : ArrAt r X w) {a : Addr} (hr : r ≠ a.block) (v : Value) : ArrAt r X (w.setCell a v) := IsAt.other (t := 22) (cs := rowA 8 X) h hr v
theorem ArrAt.get {r : Nat} {X : Nat → Int} {w : World} (h : ArrAt r X w) {j : Nat} (hj : j < 8) : w.cell? ⟨r, j, none⟩ = some (.int .i64 (X j)) := by
  rw [IsAt.cell (t := 22) (cs := rowA 8 X) h, rowA_get hj]
theorem ArrAt.set {r : Nat} {X : Nat → Int} {w : World} (h : ArrAt r X w) {j : Nat} (hj : j < 8) (v : Int) : ArrAt r (upd X j v) (w.setCell ⟨r, j, none⟩ (.int .i64 v)) := by
  rw [ArrAt, ← rowA_set X v hj]; exact IsAt.set h j _
theorem ArrAt.congr {r : Nat} {X Y : Nat → Int} {w : World} (h : ArrAt r X w) (e : ∀ i, i < 8 → X i = Y i) : ArrAt r Y w := by
  rw [ArrAt, ← rowA_congr e]; exact h
theorem ArrAt.lt {r : Nat} {X : Nat → Int} {w : World} (h : ArrAt r X w) : r < w.heap.size := by
  have h' : w.heap[r]? = some _ := h
  exact (Array.getElem?_eq_some_iff.1 h').1
theorem ArrAt.below {r : Nat} {X : Nat → Int} {w w' : World} (h : ArrAt r X w) (hb : Below w.heap.size w w') : ArrAt r X w' :=
  (hb.block r h.lt).trans h
theorem arr_new (X : Nat → Int) (w : World) : ArrAt w.heap.size X (w.alloc (.cells (rowA 8 X) 22)) := al_new w _
theorem arr_old {r : Nat} {X : Nat → Int} {w : World} (h : ArrAt r X w) (o : Obj) : ArrAt r X (w.alloc o) := (al_old o h.lt).trans h
theorem plainI : Tryd.prog.plainKey 3 = true := by kernel_rfl
theorem cellsI : Tryd.prog.cellsOf 3 = 1 := by kernel_rfl
theorem items_yes (d : Nat) (X : Nat → Int) (w : World) : ∀ l : List Nat, (∀ i, i ∈ l → i < 8) → (Op.eqItems (d + 1) 3 1 (rowA 8 X) (rowA 8 X) l).run Tryd.prog w = .ok true w
  | [], _ => by simp [Op.eqItems]
  | i :: l, h => by
    have hx : (rowA 8 X)[i * 1]? = some (.int .i64 (X i)) := by rw [Nat.mul_one]; exact rowA_get (h i (by simp))
    have p := fun w => run_part_plain (P := Tryd.prog) w plainI hx
    have q := run_equalIn_int (P := Tryd.prog) w d 3 .i64 .i64 (X i) (X i) Tryd.underlying3
    have ih := items_yes d X w l (fun j hj => h j (by simp [hj]))
    simp only [Op.eqItems, Sem.run_bind, p, q, Result.andThen_ok, beq_self_eq_true, Bool.not_true, Bool.false_eq_true, if_false, ih]
/-- The walk's steps: an array taken whole, laid whole, handed back out of its variable. -/
theorem wp_load8 {ops : Array Oper} {rest : List Oper} {o : Oper} {a : Act} {w : World} {Q : Exit → Act → World → Prop} {x : Operand} {r : Nat} {X : Nat → Int} (hgd : o.guard = none) (ho : o.op = .load 22 x)
    (hx : a.eval x = .pointer (some ⟨r, 0, none⟩)) (h : ArrAt r X w) (k : wpList Tryd.prog ops Q rest (a.put o.dst (arr8 X)) w) : wpList Tryd.prog ops Q (o :: rest) a w :=
  wpList_load_row hgd 22 x ho r hx 22 (rowA 8 X) (0, 0) _ h Tryd.underlying22 rfl (by rw [rowA_size]; exact info8) k
theorem wp_store8 {ops : Array Oper} {rest : List Oper} {o : Oper} {a : Act} {w : World} {Q : Exit → Act → World → Prop} {x y : Operand} {r : Nat} {X Z : Nat → Int} (hgd : o.guard = none) (ho : o.op = .store 22 x y)
    (hx : a.eval x = .pointer (some ⟨r, 0, none⟩)) (hy : a.eval y = arr8 X) (h : ArrAt r Z w) (k : wpList Tryd.prog ops Q rest (a.put o.dst undef) (w.setRow r (rowA 8 X))) : wpList Tryd.prog ops Q (o :: rest) a w :=
  wpList_store_row hgd 22 x y ho r (rowA 8 X) hx hy 22 (rowA 8 Z) h (by rw [rowA_size]; exact info8) (by rw [rowA_size, rowA_size]) (rowA_one 8 X) k
theorem ret8 {fn : Func} {p : Tmp} (hfn : fn.results = #[.cell p 22]) (tmps : Array Value) {r : Nat} {X : Nat → Int} {w : World} (hp : tmps.getD p undef = .pointer (some ⟨r, 0, none⟩)) (h : ArrAt r X w) : (results fn tmps).run Tryd.prog w = .ok (arr8 X) w :=
  results_cell_row hfn tmps w r 22 (rowA 8 X) (0, 0) _ hp h Tryd.underlying22 rfl (by rw [rowA_size]; exact info8)
/-- A new variable of noughts, as the walk spells it. -/
theorem arr_new0 (w : World) : ArrAt w.heap.size (fun _ => 0) (w.alloc (.cells #[Value.int .i64 0, Value.int .i64 0, Value.int .i64 0, Value.int .i64 0, Value.int .i64 0, Value.int .i64 0, Value.int .i64 0, Value.int .i64 0] 22)) := arr_new (fun _ => 0) w
theorem arr_old0 {r : Nat} {X : Nat → Int} {w : World} (h : ArrAt r X w) : ArrAt r X (w.alloc (.cells #[Value.int .i64 0, Value.int .i64 0, Value.int .i64 0, Value.int .i64 0, Value.int .i64 0, Value.int .i64 0, Value.int .i64 0, Value.int .i64 0] 22)) := arr_old h _
/-- Arrays are one where all their cells are. -/
theorem arr8_eql {X Y : Nat → Int} (h : ∀ i, i < 8 → X i = Y i) (w : World) : (binOp .eql 22 (arr8 X) (arr8 Y)).run Tryd.prog w = .ok (.bool true) w := by
  rw [arr8_congr h]
  obtain ⟨i, hi, _⟩ := infoI
  have hu := Tryd.underlying22
  unfold arr8
  rw [run_eql_struct, run_equalIn_array (P := Tryd.prog) w 9999 (rowA 8 Y) (rowA 8 Y) hu hi, cellsI, items_yes 9998 Y w (List.range 8) (fun i hi => List.mem_range.1 hi)]
  rfl
theorem arr8_guard (X Y : Nat → Int) (x y : Operand) (w : World) : (eqGuard .eql 22 x y (arr8 X) (arr8 Y)).run Tryd.prog w = .ok () w :=
  run_eqGuard_agg w .eql 22 x y _ _ (by kernel_rfl)
theorem arr8_index (X : Nat → Int) {k : Nat} (hk : k < 8) (w : World) : (Instr.index 22 (arr8 X) (.int .i64 (k : Int))).run Tryd.prog w = .ok (.int .i64 (X k)) w := by
  obtain ⟨i, hi, _⟩ := infoI
  have hu := fun w => run_underlying (P := Tryd.prog) Tryd.underlying22 w
  have hz := fun w => run_sizeOf (P := Tryd.prog) w hi
  have hx : (rowA 8 X)[(k : Int).toNat * 1]? = some (.int .i64 (X k)) := by rw [Nat.mul_one]; exact rowA_get hk
  have p := fun w => run_part_plain (P := Tryd.prog) w plainI hx
  have hc : (0 : Int) ≤ (k : Int) ∧ (k : Int) < ((8 : Nat) : Int) := by omega
  unfold arr8
  simp only [Instr.index, asIntOf, Sem.run_bind, Sem.run_pure, hu, Result.andThen_ok]
  simp only [hc, and_self, if_true, Sem.run_bind, hz, cellsI, Result.andThen_ok, p]
theorem exec_load8 {o : Oper} {ev : Operand → Value} {w : World} {x : Operand} {r : Nat} {X : Nat → Int} (ho : o.op = .load 22 x) (hx : ev x = .pointer (some ⟨r, 0, none⟩)) (h : ArrAt r X w) :
    (execOp ev o).run Tryd.prog w = .ok (.value (arr8 X)) w := by
  unfold execOp
  simp only [ho, hx, Instr.loadAt, Instr.sureAddr, Sem.run_bind, Sem.run_pure, Result.andThen_ok, h.load]
theorem exec_eql8 {o : Oper} {ev : Operand → Value} {w : World} {x y : Operand} {X : Nat → Int} (ho : o.op = .binOp .eql 22 x y 22) (hx : ev x = arr8 X) (hy : ev y = arr8 X) :
    (execOp ev o).run Tryd.prog w = .ok (.value (.bool true)) w := by
  have h1 := arr8_eql (X := X) (Y := X) (fun _ _ => rfl)
  have h2 := arr8_guard X X x y
  unfold execOp
  simp only [ho, hx, hy, Sem.run_bind, Sem.run_pure, Result.andThen_ok, h1, h2]
end Go.Proofs.YtfhcfdepjhdhfaaDoor
/-
  Arrays that are handed in, and such as are laid into a new variable.
-/
namespace Go.Proofs.YtfhcfdepjhdhfaaDoor
open Go.ChangeShapes Go.WideShapes Go.ChangeAt Go.RowKit
set_option linter.unusedVariables false

theorem ArrAt.ints {r : Nat} {X : Nat → Int} {w : World} (h : ArrAt r X w) : IsInts w (some ⟨r, 0, none⟩) 8 8 X :=
  .inr ⟨r, 0, rfl, h.lt, Nat.le_refl _, by decide, fun i hi => by rw [Nat.zero_add]; exact h.get hi⟩
/-- A new variable into which an array was laid. -/
theorem made_arr (X : Nat → Int) (w : World) : ArrAt w.heap.size X ((w.alloc (.cells #[Value.int .i64 0, Value.int .i64 0, Value.int .i64 0, Value.int .i64 0, Value.int .i64 0, Value.int .i64 0, Value.int .i64 0, Value.int .i64 0] 22)).setRow w.heap.size (rowA 8 X)) ∧ Below w.heap.size w ((w.alloc (.cells #[Value.int .i64 0, Value.int .i64 0, Value.int .i64 0, Value.int .i64 0, Value.int .i64 0, Value.int .i64 0, Value.int .i64 0, Value.int .i64 0] 22)).setRow w.heap.size (rowA 8 X)) :=
  ⟨(arr_new0 w).laid X, below_setRow ((Below.refl _ w).alloc (Nat.le_refl _) _) (Nat.le_refl _) _⟩
section
variable {H : Type} {enc : TypeId × Value → H} {P : Program} {w : World} {base : Nat} {held : Bool}
/-- An array of integers that is handed in by value. -/
theorem open_arr {r : Reach} {t f : TypeId} {n : Nat} {k : IntKind} {v : Value} {d : DataW H} {p : List MemPlace} (ht : P.underlying t = some (.array n f)) (hf : P.underlying f = some (.int k)) (cf : P.cellsOf f = 1) (ct : P.cellsOf t = n)
    (hv : Value.okWide P w r base t v) (h : DataW.Trod enc P w 0 (fun _ => true) held t v d p) : ∃ X : Nat → Int, v = .agg (Array.ofFn (n := n) fun i => Value.int k (X i)) ∧ ∀ i, i < n → (Lit.int k (X i)).wf = true := by
  simp only [Value.okWide, ht] at hv
  obtain ⟨cs, rfl, _, _⟩ := hv
  obtain ⟨fuel, hf1⟩ := h
  obtain ⟨xs, m, hk, hxy, hcl, hxl, hf'⟩ := DataW.trod_array ht hf1
  have hl : cs.size = n := by
    rw [← ct]
    simpa [Value.cells] using hcl
  have hz : ∀ i, ∃ z : Int, i < n → cs[i]? = some (.int k z) ∧ (Lit.int k z).wf = true := by
    intro i
    by_cases hi : i < n
    · have g := hf' i hi
      rw [List.getElem?_eq_getElem (by omega)] at g
      obtain ⟨z, e, _, wz⟩ := DataW.trod_int hf g
      refine ⟨z, fun _ => ⟨?_, wz⟩⟩
      rw [cf, Nat.mul_one] at e
      exact getElem?_of_chunk (xs := cs) e
    · exact ⟨0, fun h => absurd h hi⟩
  obtain ⟨X, hX⟩ : ∃ X : Nat → Int, ∀ i, i < n → cs[i]? = some (.int k (X i)) ∧ (Lit.int k (X i)).wf = true := ⟨fun i => Classical.choose (hz i), fun i => Classical.choose_spec (hz i)⟩
  refine ⟨X, ?_, fun i hi => (hX i hi).2⟩
  congr 1
  refine Array.ext (by simp [hl]) (fun i h1 h2 => ?_)
  have hi : i < n := by omega
  have e := (hX i hi).1
  rw [Array.getElem?_eq_getElem h1] at e
  rw [Option.some.inj e, Array.getElem_ofFn]
end
end Go.Proofs.YtfhcfdepjhdhfaaDoor
/-
  Arrays of eight ints held against one another, in a walk.
-/
namespace Go.Proofs.YtfhcfdepjhdhfaaDoor
open Go.ChangeShapes Go.WideShapes Go.ChangeAt Go.RowKit
set_option linter.unusedVariables false

theorem equal8_yes {X Y : Nat → Int} (h : ∀ i, i < 8 → X i = Y i) (w : World) : (Op.equalIn 10000 22 (arr8 X) (arr8 Y)).run Tryd.prog w = .ok true w := by
  rw [arr8_congr h]
  obtain ⟨i, hi, _⟩ := infoI
  have hu := Tryd.underlying22
  unfold arr8
  rw [run_equalIn_array (P := Tryd.prog) w 9999 (rowA 8 Y) (rowA 8 Y) hu hi, cellsI, items_yes 9998 Y w (List.range 8) (fun i hi => List.mem_range.1 hi)]
theorem equal8_no {X Y : Nat → Int} (h : X 0 ≠ Y 0) (w : World) : (Op.equalIn 10000 22 (arr8 X) (arr8 Y)).run Tryd.prog w = .ok false w := by
  obtain ⟨i, hi, _⟩ := infoI
  have hu := Tryd.underlying22
  unfold arr8
  rw [run_equalIn_array (P := Tryd.prog) w 9999 (rowA 8 X) (rowA 8 Y) hu hi, cellsI, show List.range 8 = 0 :: [1, 2, 3, 4, 5, 6, 7] from rfl]
  have hx : (rowA 8 X)[0 * 1]? = some (.int .i64 (X 0)) := rowA_get (by omega)
  have hy : (rowA 8 Y)[0 * 1]? = some (.int .i64 (Y 0)) := rowA_get (by omega)
  have p := fun w => run_part_plain (P := Tryd.prog) w plainI hx
  have p' := fun w => run_part_plain (P := Tryd.prog) w plainI hy
  have q := run_equalIn_int (P := Tryd.prog) w 9998 3 .i64 .i64 (X 0) (Y 0) Tryd.underlying3
  have e : (X 0 == Y 0) = false := by simpa using h
  simp only [Op.eqItems, Sem.run_bind, p, p', q, Result.andThen_ok, e]
  rfl
/-- As wp_load8, where the operation bears a guard that says yes. -/
theorem wp_load8g {ops : Array Oper} {rest : List Oper} {o : Oper} {a : Act} {w : World} {Q : Exit → Act → World → Prop} {x : Operand} {r : Nat} {X : Nat → Int} (hw : Region.wanted o (yielded ops a.tmps) = true) (ho : o.op = .load 22 x)
    (hx : a.eval x = .pointer (some ⟨r, 0, none⟩)) (h : ArrAt r X w) (k : wpList Tryd.prog ops Q rest (a.put o.dst (arr8 X)) w) : wpList Tryd.prog ops Q (o :: rest) a w :=
  wpList_step fun K hK => by
    rw [if_pos hw]
    exact wp_load_row 22 x ho r hx 22 (rowA 8 X) (0, 0) _ h Tryd.underlying22 rfl (by rw [rowA_size]; exact info8) (hK _ _ k)
theorem guard8 (op : BinOp) (X Y : Nat → Int) (x y : Operand) (w : World) : (eqGuard op 22 x y (arr8 X) (arr8 Y)).run Tryd.prog w = .ok () w :=
  run_eqGuard_agg w op 22 x y _ _ (by kernel_rfl)
end Go.Proofs.YtfhcfdepjhdhfaaDoor
/-
  Lists of lists of ints, of integers of any kind, of bools, that are handed in.
-/
namespace Go.Proofs.YtfhcfdepjhdhfaaDoor
open Go.ChangeShapes Go.WideShapes Go.ChangeAt Go.RowKit Go.Deep
set_option linter.unusedVariables false

/-- A slice of cells, those that V tells. -/
def IsVals (w : World) (a : Option Addr) (len cap : Nat) (V : Nat → Value) : Prop :=
  len = 0 ∨ ∃ b off, a = some ⟨b, off, none⟩ ∧ b < w.heap.size ∧ len ≤ cap ∧ cap ≤ maxLen ∧ ∀ i, i < len → w.cell? ⟨b, off + i, none⟩ = some (V i)
theorem IsVals.below {w w' : World} {a : Option Addr} {len cap : Nat} {V : Nat → Value} (h : IsVals w a len cap V) (hb : Below w.heap.size w w') : IsVals w' a len cap V := by
  rcases h with h | ⟨b, off, e, h1, h2, h3, h4⟩
  · exact .inl h
  · have hs := hb.size
    exact .inr ⟨b, off, e, by omega, h2, h3, fun i hi => by rw [hb.cell (p := ⟨b, off + i, none⟩) h1]; exact h4 i hi⟩
theorem IsVals.cells {w : World} {a : Option Addr} {len cap : Nat} {V : Nat → Value} (h : IsVals w a len cap V) (h1 : 1 ≤ len) : ∃ b off, a = some ⟨b, off, none⟩ ∧ ∀ W, Below w.heap.size w W → ∀ i, i < len → W.cell? ⟨b, off + i, none⟩ = some (V i) := by
  rcases h with h | ⟨b, off, rfl, hb, _, _, hc⟩
  · omega
  · exact ⟨b, off, rfl, fun W hW i hi => by rw [hW.cell (p := ⟨b, off + i, none⟩) hb]; exact hc i hi⟩
section
variable {H : Type} {enc : TypeId × Value → H} {P : Program} {w : World} {base : Nat} {held : Bool}
theorem open_islists {t e q : TypeId} {fuel : Nat} {a : Option Addr} {len cap : Nat} {x : DataW H × List MemPlace} (ht : P.underlying t = some (.slice e)) (he : P.underlying e = some (.slice q)) (hq : P.underlying q = some (.int .i64)) (ce : P.cellsOf e = 1) (cq : P.cellsOf q = 1)
    (h : DataW.trod enc P w base (fun _ => true) held fuel t (Value.slice a len cap).cells.toList = some x) : ∃ (N : Nat → Nat) (Y : Nat → Nat → Int), len ≤ maxLen ∧ (∀ i, i < len → N i ≤ maxLen) ∧ IsListsV w a len cap N Y := by
  rcases open_slice1 ht ce h with ⟨h0, _⟩ | ⟨a', l, c, m, n, V, D, Pl, hcs, _, hl, hm, hmm, _, hx⟩
  · simp [Value.cells] at h0
    obtain ⟨rfl, rfl, rfl⟩ := h0
    exact ⟨fun _ => 0, fun _ _ => 0, Nat.zero_le _, fun i hi => by omega, .inl rfl⟩
  simp [Value.cells] at hcs
  obtain ⟨rfl, rfl, rfl⟩ := hcs
  have hmc : m = cap := by simpa using hmm
  subst hmc
  have each : ∀ i, i < m → ∃ p : Option Addr × Nat × Nat × (Nat → Int), V i = .slice p.1 p.2.1 p.2.2.1 ∧ p.2.1 ≤ maxLen ∧ IsInts w p.1 p.2.1 p.2.2.1 p.2.2.2 := by
    intro i hi
    have g := (hx i hi).2
    rcases open_ints he hq cq g with ⟨hcs, _⟩ | ⟨y, l2, c2, zs, hcs, _⟩
    · simp only [List.cons.injEq, and_true] at hcs
      exact ⟨(none, 0, 0, fun _ => 0), hcs, Nat.zero_le _, .inl rfl⟩
    · simp only [List.cons.injEq, and_true] at hcs
      rw [hcs] at g
      obtain ⟨X, hX, hI⟩ := open_isints (w := w) (a := some y) (len := l2) (cap := c2) he hq cq (by simpa [Value.cells] using g)
      exact ⟨(some y, l2, c2, X), hcs, hX, hI⟩
  obtain ⟨p, hp⟩ := choose_lt each
  refine ⟨fun i => (p i).2.1, fun i => (p i).2.2.2, Nat.le_trans hl hm, fun i hi => (hp i (by omega)).2.1, ?_⟩
  by_cases h0 : len = 0
  · exact .inl h0
  have h1 := (hx 0 (by omega)).1
  have e : a'.add 0 = a' := by simp [Addr.add]
  rw [e] at h1
  obtain ⟨b, off, rfl, hb'⟩ := addr_plainF h1
  refine .inr ⟨b, off, rfl, hb', hl, hm, fun i hi => ⟨(p i).1, (p i).2.2.1, ?_, (hp i (by omega)).2.2⟩⟩
  have h2 := (hx i (by omega)).1
  rw [add_plain, (hp i (by omega)).1] at h2
  exact h2
/-- A slice of integers of a kind. -/
theorem open_iskind {t e : TypeId} {k : IntKind} {fuel : Nat} {a : Option Addr} {len cap : Nat} {x : DataW H × List MemPlace} (ht : P.underlying t = some (.slice e)) (he : P.underlying e = some (.int k)) (hc : P.cellsOf e = 1)
    (h : DataW.trod enc P w base (fun _ => true) held fuel t (Value.slice a len cap).cells.toList = some x) : ∃ X : Nat → Int, len ≤ maxLen ∧ (∀ i, i < len → (Lit.int k (X i)).wf = true) ∧ IsVals w a len cap fun i => .int k (X i) := by
  rcases open_ints ht he hc h with ⟨hcs, _⟩ | ⟨y, l, c, zs, hcs, _, hl, hm, hz, _, hcell, hwf⟩
  · simp [Value.cells] at hcs
    obtain ⟨rfl, rfl, rfl⟩ := hcs
    exact ⟨fun _ => 0, Nat.zero_le _, fun i hi => by omega, .inl rfl⟩
  simp [Value.cells] at hcs
  obtain ⟨rfl, rfl, rfl⟩ := hcs
  have hz' : zs.length = cap := by simpa using hz
  refine ⟨fun i => zs.getD i 0, Nat.le_trans hl hm, fun i hi => hwf _ ?_, ?_⟩
  · show zs.getD i 0 ∈ zs
    rw [List.getD_eq_getElem?_getD, List.getElem?_eq_getElem (show i < zs.length by omega)]
    exact List.getElem_mem _
  by_cases h0 : len = 0
  · exact .inl h0
  have h1 := hcell 0 (by omega)
  have e : y.add 0 = y := by simp [Addr.add]
  rw [e] at h1
  obtain ⟨b, off, rfl, hb'⟩ := addr_plainF h1
  exact .inr ⟨b, off, rfl, hb', hl, hm, fun i hi => by have h2 := hcell i (by omega); rwa [add_plain] at h2⟩
/-- A slice of bools. -/
theorem open_isbools {t e : TypeId} {fuel : Nat} {a : Option Addr} {len cap : Nat} {x : DataW H × List MemPlace} (ht : P.underlying t = some (.slice e)) (he : P.underlying e = some .bool) (hc : P.cellsOf e = 1)
    (h : DataW.trod enc P w base (fun _ => true) held fuel t (Value.slice a len cap).cells.toList = some x) : ∃ X : Nat → Bool, len ≤ maxLen ∧ IsVals w a len cap fun i => .bool (X i) := by
  rcases open_bools ht he hc h with ⟨hcs, _⟩ | ⟨y, l, c, X, hcs, _, hl, hm, _, hcell⟩
  · simp [Value.cells] at hcs
    obtain ⟨rfl, rfl, rfl⟩ := hcs
    exact ⟨fun _ => false, Nat.zero_le _, .inl rfl⟩
  simp [Value.cells] at hcs
  obtain ⟨rfl, rfl, rfl⟩ := hcs
  refine ⟨X, Nat.le_trans hl hm, ?_⟩
  by_cases h0 : len = 0
  · exact .inl h0
  have h1 := hcell 0 (by omega)
  have e : y.add 0 = y := by simp [Addr.add]
  rw [e] at h1
  obtain ⟨b, off, rfl, hb'⟩ := addr_plainF h1
  exact .inr ⟨b, off, rfl, hb', hl, hm, fun i hi => by have h2 := hcell i (by omega); rwa [add_plain] at h2⟩
end
end Go.Proofs.YtfhcfdepjhdhfaaDoor
