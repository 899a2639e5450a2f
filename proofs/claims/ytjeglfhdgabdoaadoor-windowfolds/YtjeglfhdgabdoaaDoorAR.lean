/-
  Arrays of eight ints by value, in variables of their own: made, taken whole, laid whole, held against one another.
-/
import Derived.Test.YtjeglfhdgabdoaaDoorIS
import Derived.ChangeKeysEq
import Derived.Deep.WholeRow
namespace Go.Proofs.YtjeglfhdgabdoaaDoor
open Go.ChangeShapes Go.WideShapes Go.ChangeAt Go.RowKit
set_option linter.unusedVariables false

theorem hid {p : Prop} (h : p) : Hid p := h
/-- Eight ints as a value. -/
abbrev arr8 (X : Nat → Int) : Value := .agg (rowA 8 X)
theorem arr8_congr {X Y : Nat → Int} (h : ∀ i, i < 8 → X i = Y i) : arr8 X = arr8 Y := by rw [arr8, arr8, rowA_congr h]
theorem arr8_zero : Value.agg #[.int .i64 0, .int .i64 0, .int .i64 0, .int .i64 0, .int .i64 0, .int .i64 0, .int .i64 0, .int .i64 0] = arr8 (fun _ => 0) := rfl
theorem rowA8_zero : #[Value.int .i64 0, .int .i64 0, .int .i64 0, .int .i64 0, .int .i64 0, .int .i64 0, .int .i64 0, .int .i64 0] = rowA 8 (fun _ => 0) := rfl
theorem rowA_size (n : Nat) (X : Nat → Int) : (rowA n X).size = n := by simp [rowA]
theorem rowA_one (n : Nat) (X : Nat → Int) : (rowA n X).all (·.oneCell') = true := by
  rw [Array.all_eq_true_iff_forall_mem]
  intro v hv
  obtain ⟨j, hj⟩ := Array.mem_iff_getElem?.1 hv
  have hj' : j < n := by
    have := (Array.getElem?_eq_some_iff.1 hj).1
    rwa [rowA_size] at this
  rw [rowA_get hj'] at hj
  rw [← Option.some.inj hj]; rfl
theorem info8 : (Tryd.prog.info? 24).map (·.size) = some 8 := by kernel_rfl
/-- A variable that is an array. -/
def ArrAt (r : Nat) (X : Nat → Int) (w : World) : Prop := IsAt r 24 (rowA 8 X) w
theorem ArrAt.load {r : Nat} {X : Nat → Int} {w : World} (h : ArrAt r X w) : (loadVar 24 ⟨r, 0, none⟩).run Tryd.prog w = .ok (arr8 X) w :=
  run_loadVar_row w r 24 24 (rowA 8 X) (0, 0) _ h Tryd.underlying24 rfl (by rw [rowA_size]; exact info8)
theorem ArrAt.store {r : Nat} {Z : Nat → Int} {w : World} (h : ArrAt r Z w) (X : Nat → Int) : (storeVar 24 ⟨r, 0, none⟩ (arr8 X)).run Tryd.prog w = .ok () (w.setRow r (rowA 8 X)) :=
  run_storeVar_row w r 24 24 (rowA 8 Z) (rowA 8 X) h (by rw [rowA_size]; exact info8) (by rw [rowA_size, rowA_size]) (rowA_one 8 X)
theorem ArrAt.laid {r : Nat} {Z : Nat → Int} {w : World} (h : ArrAt r Z w) (X : Nat → Int) : ArrAt r X (w.setRow r (rowA 8 X)) := setRow_heap w r _ _ _ _ h
theorem ArrAt.kept {r q : Nat} {Z : Nat → Int} {w : World} (h : ArrAt r Z w) (hne : r ≠ q) (cs : Array Value) : ArrAt r Z (w.setRow q cs) := (setRow_other w q r _ hne).trans h
theorem ArrAt.frozen {r : Nat} {X : Nat → Int} {w : World} (h : ArrAt r X w) (j : Nat) : w.frozen? ⟨r, j, none⟩ = false := IsAt.frozen (t := 24) (cs := rowA 8 X) h j
theorem ArrAt.other {r : Nat} {X : Nat → Int} {w : World} (h : ArrAt r X w) {a : Addr} (hr : r ≠ a.block) (v : Value) : ArrAt r X (w.setCell a v) := IsAt.other (t := 24) (cs := rowA 8 X) h hr v
theorem ArrAt.get {r : Nat} {X : Nat → Int} {w : World} (h : ArrAt r X w) {j : Nat} (hj : j < 8) : w.cell? ⟨r, j, none⟩ = some (.int .i64 (X j)) := by
  rw [IsAt.cell (t := 24) (cs := rowA 8 X) h, rowA_get hj]
theorem ArrAt.set {r : Nat} {X : Nat → Int} {w : World} (h : ArrAt r X w) {j : Nat} (hj : j < 8) (v : Int) : ArrAt r (upd X j v) (w.setCell ⟨r, j, none⟩ (.int .i64 v)) := by
  rw [ArrAt, ← rowA_set X v hj]; exact IsAt.set h j _
theorem ArrAt.congr {r : Nat} {X Y : Nat → Int} {w : World} (h : ArrAt r X w) (e : ∀ i, i < 8 → X i = Y i) : ArrAt r Y w := by
  rw [ArrAt, ← rowA_congr e]; exact h
theorem ArrAt.lt {r : Nat} {X : Nat → Int} {w : World} (h : ArrAt r X w) : r < w.heap.size := by
  have h' : w.heap[r]? = some _ := h
  exact (Array.getElem?_eq_some_iff.1 h').1
theorem ArrAt.below {r : Nat} {X : Nat → Int} {w w' : World} (h : ArrAt r X w) (hb : Below w.heap.size w w') : ArrAt r X w' :=
  (hb.block r h.lt).trans h
theorem arr_new (X : Nat → Int) (w : World) : ArrAt w.heap.size X (w.alloc (.cells (rowA 8 X) 24)) := al_new w _
theorem arr_old {r : Nat} {X : Nat → Int} {w : World} (h : ArrAt r X w) (o : Obj) : ArrAt r X (w.alloc o) := (al_old o h.lt).trans h
theorem plainI : Tryd.prog.plainKey 3 = true := by kernel_rfl
theorem cellsI : Tryd.prog.cellsOf 3 = 1 := by kernel_rfl
theorem items_yes (d : Nat) (X : Nat → Int) (w : World) : ∀ l : List Nat, (∀ i, i ∈ l → i < 8) → (Op.eqItems (d + 1) 3 1 (rowA 8 X) (rowA 8 X) l).run Tryd.prog w = .ok true w
  | [], _ => by simp [Op.eqItems]
  | i :: l, h => by
    have hx : (rowA 8 X)[i * 1]? = some (.int .i64 (X i)) := by rw [Nat.mul_one]; exact rowA_get (h i (by simp))
    have p := fun w => run_part_plain (P := Tryd.prog) w plainI hx
    have q := run_equalIn_int (P := Tryd.prog) w d 3 .i64 .i64 (X i) (X i) Tryd.underlying3
    have ih := items_yes d X w l (fun j hj => h j (by simp [hj]))
    simp only [Op.eqItems, Sem.run_bind, p, q, Result.andThen_ok, beq_self_eq_true, Bool.not_true, Bool.false_eq_true, if_false, ih]
/-- The walk's steps: an array taken whole, laid whole, handed back out of its variable. -/
theorem wp_load8 {ops : Array Oper} {rest : List Oper} {o : Oper} {a : Act} {w : World} {Q : Exit → Act → World → Prop} {x : Operand} {r : Nat} {X : Nat → Int} (hgd : o.guard = none) (ho : o.op = .load 24 x)
    (hx : a.eval x = .pointer (some ⟨r, 0, none⟩)) (h : ArrAt r X w) (k : wpList Tryd.prog ops Q rest (a.put o.dst (arr8 X)) w) : wpList Tryd.prog ops Q (o :: rest) a w :=
  wpList_load_row hgd 24 x ho r hx 24 (rowA 8 X) (0, 0) _ h Tryd.underlying24 rfl (by rw [rowA_size]; exact info8) k
theorem wp_store8 {ops : Array Oper} {rest : List Oper} {o : Oper} {a : Act} {w : World} {Q : Exit → Act → World → Prop} {x y : Operand} {r : Nat} {X Z : Nat → Int} (hgd : o.guard = none) (ho : o.op = .store 24 x y)
    (hx : a.eval x = .pointer (some ⟨r, 0, none⟩)) (hy : a.eval y = arr8 X) (h : ArrAt r Z w) (k : wpList Tryd.prog ops Q rest (a.put o.dst undef) (w.setRow r (rowA 8 X))) : wpList Tryd.prog ops Q (o :: rest) a w :=
  wpList_store_row hgd 24 x y ho r (rowA 8 X) hx hy 24 (rowA 8 Z) h (by rw [rowA_size]; exact info8) (by rw [rowA_size, rowA_size]) (rowA_one 8 X) k
theorem ret8 {fn : Func} {p : Tmp} (hfn : fn.results = #[.cell p 24]) (tmps : Array Value) {r : Nat} {X : Nat → Int} {w : World} (hp : tmps.getD p undef = .pointer (some ⟨r, 0, none⟩)) (h : ArrAt r X w) : (results fn tmps).run Tryd.prog w = .ok (arr8 X) w :=
  results_cell_row hfn tmps w r 24 (rowA 8 X) (0, 0) _ hp h Tryd.underlying24 rfl (by rw [rowA_size]; exact info8)
/-- A new variable of noughts, as the walk spells it. -/
theorem arr_new0 (w : World) : ArrAt w.heap.size (fun _ => 0) (w.alloc (.cells #[Value.int .i64 0, Value.int .i64 0, Value.int .i64 0, Value.int .i64 0, Value.int .i64 0, Value.int .i64 0, Value.int .i64 0, Value.int .i64 0] 24)) := arr_new (fun _ => 0) w
theorem arr_old0 {r : Nat} {X : Nat → Int} {w : World} (h : ArrAt r X w) : ArrAt r X (w.alloc (.cells #[Value.int .i64 0, Value.int .i64 0, Value.int .i64 0, Value.int .i64 0, Value.int .i64 0, Value.int .i64 0, Value.int .i64 0, Value.int .i64 0] 24)) := arr_old h _
/-- Arrays are one where all their cells are. -/
theorem arr8_eql {X Y : Nat → Int} (h : ∀ i, i < 8 → X i = Y i) (w : World) : (binOp .eql 24 (arr8 X) (arr8 Y)).run Tryd.prog w = .ok (.bool true) w := by
  rw [arr8_congr h]
  obtain ⟨i, hi, _⟩ := infoI
  have hu := Tryd.underlying24
  unfold arr8
  rw [run_eql_struct, run_equalIn_array (P := Tryd.prog) w 9999 (rowA 8 Y) (rowA 8 Y) hu hi, cellsI, items_yes 9998 Y w (List.range 8) (fun i hi => List.mem_range.1 hi)]
  rfl
theorem arr8_guard (X Y : Nat → Int) (x y : Operand) (w : World) : (eqGuard .eql 24 x y (arr8 X) (arr8 Y)).run Tryd.prog w = .ok () w :=
  run_eqGuard_agg w .eql 24 x y _ _ (by kernel_rfl)
theorem arr8_index (X : Nat → Int) {k : Nat} (hk : k < 8) (w : World) : (Instr.index 24 (arr8 X) (.int .i64 (k : Int))).run Tryd.prog w = .ok (.int .i64 (X k)) w := by
  obtain ⟨i, hi, _⟩ := infoI
  have hu := fun w => run_underlying (P := Tryd.prog) Tryd.underlying24 w
  have hz := fun w => run_sizeOf (P := Tryd.prog) w hi
  have hx : (rowA 8 X)[(k : Int).toNat * 1]? = some (.int .i64 (X k)) := by rw [Nat.mul_one]; exact rowA_get hk
  have p := fun w => run_part_plain (P := Tryd.prog) w plainI hx
  have hc : (0 : Int) ≤ (k : Int) ∧ (k : Int) < ((8 : Nat) : Int) := by omega
  unfold arr8
  simp only [Instr.index, asIntOf, Sem.run_bind, Sem.run_pure, hu, Result.andThen_ok]
  simp only [hc, and_self, if_true, Sem.run_bind, hz, cellsI, Result.andThen_ok, p]
theorem exec_load8 {o : Oper} {ev : Operand → Value} {w : World} {x : Operand} {r : Nat} {X : Nat → Int} (ho : o.op = .load 24 x) (hx : ev x = .pointer (some ⟨r, 0, none⟩)) (h : ArrAt r X w) :
    (execOp ev o).run Tryd.prog w = .ok (.value (arr8 X)) w := by
  unfold execOp
  simp only [ho, hx, Instr.loadAt, Instr.sureAddr, Sem.run_bind, Sem.run_pure, Result.andThen_ok, h.load]
theorem exec_eql8 {o : Oper} {ev : Operand → Value} {w : World} {x y : Operand} {X : Nat → Int} (ho : o.op = .binOp .eql 24 x y 24) (hx : ev x = arr8 X) (hy : ev y = arr8 X) :
    (execOp ev o).run Tryd.prog w = .ok (.value (.bool true)) w := by
  have h1 := arr8_eql (X := X) (Y := X) (fun _ _ => rfl)
  have h2 := arr8_guard X X x y
  unfold execOp
  simp only [ho, hx, hy, Sem.run_bind, Sem.run_pure, Result.andThen_ok, h1, h2]
end Go.Proofs.YtjeglfhdgabdoaaDoor
