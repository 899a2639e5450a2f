/-
  The contracts of octet.Reader's functions and of the document's own reader (splicerref02), each for every state and every number, over the landed text.
-/
import Derived.Test.YtnjekkcfdcbimaaRows
import Derived.WalkKit
import Derived.ProofKit
import Derived.OpenShut
import Derived.Deep.QuietTactic
import Derived.BigQuiet
import Derived.Below
import Derived.Lib.ConvBytes
namespace Go.Proofs.Ytnjekkcfdcbimaa
open Go.ChangeShapes Go.WideShapes Go.ChangeAt Go.RowKit
set_option linter.unusedVariables false

theorem ret_int {k : IntKind} {a b : Int} (h : a = b) : Ending.returned (.int k a) = .returned (.int k b) := by rw [h]
theorem ret_bool {a b : Bool} (h : a = b) : Ending.returned (.bool a) = .returned (.bool b) := by rw [h]
theorem ret_str {a b : ByteArray} (h : a = b) : Ending.returned (.string a) = .returned (.string b) := by rw [h]

/-- Every old block but r is as it was. -/
structure But (r : Nat) (w w' : World) : Prop where
  os : w'.os = w.os
  tape : w'.tape = w.tape
  output : w'.output = w.output
  size : w.heap.size ≤ w'.heap.size
  block : ∀ k, k < w.heap.size → k ≠ r → w'.heap[k]? = w.heap[k]?
theorem But.refl (r : Nat) (w : World) : But r w w := ⟨rfl, rfl, rfl, Nat.le_refl _, fun _ _ _ => rfl⟩
theorem But.trans {r : Nat} {a b c : World} (h : But r a b) (k : But r b c) : But r a c :=
  ⟨k.os.trans h.os, k.tape.trans h.tape, k.output.trans h.output, Nat.le_trans h.size k.size, fun i hi hr => (k.block i (Nat.lt_of_lt_of_le hi h.size) hr).trans (h.block i hi hr)⟩
theorem But.drew {r : Nat} {a w : World} (h : But r a w) : But r a w.drew := ⟨h.os, h.tape, h.output, h.size, h.block⟩
theorem But.drewN {r : Nat} {a w : World} (h : But r a w) (n : Nat) : But r a (w.drewN n) := by
  induction n generalizing w with
  | zero => exact h
  | succ n ih => exact (ih h).drew
theorem But.setCell {r : Nat} {a w : World} (h : But r a w) (o : Nat) (v : Value) : But r a (w.setCell ⟨r, o, none⟩ v) :=
  h.trans ⟨rfl, rfl, rfl, by simp [World.setCell], fun k _ hk => Below.heap_setCell _ _ _ _ hk⟩
theorem But.of_below {r : Nat} {w w' : World} (h : Below w.heap.size w w') : But r w w' := ⟨h.os, h.tape, h.output, h.size, fun k hk _ => h.block k hk⟩
theorem But.below {r B : Nat} {w w' : World} (h : But r w w') (hr : B ≤ r) (hB : B ≤ w.heap.size) : Below B w w' :=
  ⟨h.os, h.tape, h.output, h.size, fun k hk => h.block k (by omega) (by omega)⟩

/-- A row of cells, in block r. -/
abbrev IsAt (r : Nat) (t : TypeId) (cs : Array Value) (w : World) : Prop := w.heap[r]? = some (.cells cs t (0, 0))
theorem IsAt.lt {r t cs w} (h : IsAt r t cs w) : r < w.heap.size := (Array.getElem?_eq_some_iff.1 h).1
theorem IsAt.cell {r t : Nat} {cs : Array Value} {w : World} (h : IsAt r t cs w) (j : Nat) : w.cell? ⟨r, j, none⟩ = cs[j]? := by
  have h' : w.heap[r]? = some (.cells cs t (0, 0)) := h
  simp [World.cell?, h']
theorem IsAt.frozen {r t : Nat} {cs : Array Value} {w : World} (h : IsAt r t cs w) (j : Nat) : w.frozen? ⟨r, j, none⟩ = false := by
  have h' : w.heap[r]? = some (.cells cs t (0, 0)) := h
  simp [World.frozen?, h']
theorem IsAt.set {r t : Nat} {cs : Array Value} {w : World} (h : IsAt r t cs w) (j : Nat) (v : Value) : IsAt r t (cs.setIfInBounds j v) (w.setCell ⟨r, j, none⟩ v) := by
  have h' : w.heap[r]? = some (.cells cs t (0, 0)) := h
  show (w.setCell ⟨r, j, none⟩ v).heap[r]? = _
  simp [World.setCell, Array.getElem?_modify, h']
theorem IsAt.drewN {r t : Nat} {cs : Array Value} {w : World} (h : IsAt r t cs w) (n : Nat) : IsAt r t cs (w.drewN n) := by
  induction n generalizing w with
  | zero => exact h
  | succ n ih => exact ih h

theorem sized_any (k : Int) (w : World) :
    Calls Try.prog 23 #[.int .i64 k] w fun e w' => e = .returned (.bool (decide (1 ≤ k ∧ k ≤ 7))) ∧ w' = w := by
  by_cases h1 : 1 ≤ k
  · by_cases h2 : k ≤ 7
    · go_enter Try.func23, Try.ntmps23
      go_wp2
      go_ret
      exact ⟨ret_bool (by simp [h1, h2]), rfl⟩
    · go_enter Try.func23, Try.ntmps23
      go_wp2
      go_ret
      exact ⟨ret_bool (by simp [h2]), rfl⟩
  · go_enter Try.func23, Try.ntmps23
    go_wp2
    go_ret
    exact ⟨ret_bool (by simp; omega), rfl⟩

/-- What octet.Reader's cells are: good, at k, of s; or bad. -/
def rdCells (s : ByteArray) : Option Nat → Array Value
  | some k => #[.bool true, .string s, .int .i64 k]
  | none => #[.bool false, .string ⟨#[]⟩, .int .i64 0]

theorem bad_nil (w : World) : Calls Try.prog 22 #[.pointer none] w fun e w' => e = .returned (.bool true) ∧ w' = w := by
  go_enter Try.func22, Try.ntmps22
  go_wp2
  go_ret
  exact ⟨rfl, rfl⟩
theorem bad_at (r : Nat) (s : ByteArray) (st : Option Nat) (w : World) (h : IsAt r 52 (rdCells s st) w) :
    Calls Try.prog 22 #[.pointer (some ⟨r, 0, none⟩)] w fun e w' => e = .returned (.bool st.isNone) ∧ w' = w := by
  cases st with
  | none =>
    have c0 : w.cell? ⟨r, 0, none⟩ = some (.bool false) := h.cell 0
    clear h
    go_enter Try.func22, Try.ntmps22
    go_wp2
    go_ret
    exact ⟨rfl, rfl⟩
  | some k =>
    have c0 : w.cell? ⟨r, 0, none⟩ = some (.bool true) := h.cell 0
    clear h
    go_enter Try.func22, Try.ntmps22
    go_wp2
    go_ret
    exact ⟨rfl, rfl⟩
theorem new_any (s : ByteArray) (w : World) :
    Calls Try.prog 13 #[.string s] w fun e w' => e = .returned (.pointer (some ⟨w.heap.size, 0, none⟩)) ∧ w' = w.alloc (.cells (rdCells s (some 0)) 52) := by
  go_enter Try.func13, Try.ntmps13
  go_wp2
  go_ret
  exact ⟨rfl, rfl⟩

theorem left_nil (w : World) : Calls Try.prog 18 #[.pointer none] w fun e w' => e = .returned (.int .i64 0) ∧ w' = w := by
  go_enter Try.func18, Try.ntmps18
  go_wp2_with (go_at_call 22; refine (bad_nil _).mono ?_; rintro e w' ⟨rfl, rfl⟩)
  go_ret
  exact ⟨rfl, rfl⟩
theorem at_nil (w : World) : Calls Try.prog 20 #[.pointer none] w fun e w' => e = .returned (.int .i64 0) ∧ w' = w := by
  go_enter Try.func20, Try.ntmps20
  go_wp2_with (go_at_call 22; refine (bad_nil _).mono ?_; rintro e w' ⟨rfl, rfl⟩)
  go_ret
  exact ⟨rfl, rfl⟩
theorem spoil_nil (w : World) : Calls Try.prog 26 #[.pointer none] w fun e w' => e = .returned (.tuple #[]) ∧ w' = w := by
  go_enter Try.func26, Try.ntmps26
  go_wp2
  go_end0
  exact ⟨rfl, rfl⟩
theorem text_nil (n : Int) (w : World) : Calls Try.prog 14 #[.pointer none, .int .i64 n] w fun e w' => e = .returned (.string ⟨#[]⟩) ∧ w' = w := by
  go_enter Try.func14, Try.ntmps14
  go_wp2_with (first
    | (go_at_call 22; refine (bad_nil _).mono ?_; rintro e w' ⟨rfl, rfl⟩)
    | (go_at_call 26; refine (spoil_nil _).mono ?_; rintro e w' ⟨rfl, rfl⟩))
  go_ret
  exact ⟨rfl, rfl⟩

/-- How many are left, and where it stands. -/
def leftF (s : ByteArray) : Option Nat → Int
  | some k => (s.size : Int) - k
  | none => 0
def atF : Option Nat → Int
  | some k => k
  | none => 0
/-- Is st a state of a reader of s? -/
def StOk (s : ByteArray) (st : Option Nat) : Prop := s.size ≤ 100000 ∧ ∀ k, st = some k → k ≤ s.size

theorem left_at (r : Nat) (s : ByteArray) (st : Option Nat) (w : World) (h : IsAt r 52 (rdCells s st) w) (hs : StOk s st) :
    Calls Try.prog 18 #[.pointer (some ⟨r, 0, none⟩)] w fun e w' => e = .returned (.int .i64 (leftF s st)) ∧ ∃ n, w' = w.drewN n := by
  cases st with
  | none =>
    go_enter Try.func18, Try.ntmps18
    go_wp2_with (go_at_call 22; refine (bad_at r s none _ h).mono ?_; rintro e w' ⟨rfl, rfl⟩)
    go_ret
    exact ⟨rfl, 0, rfl⟩
  | some k =>
    have c1 : w.cell? ⟨r, 1, none⟩ = some (.string s) := h.cell 1
    have c2 : w.cell? ⟨r, 2, none⟩ = some (.int .i64 k) := h.cell 2
    have hk := hs.2 k rfl
    have hz := hs.1
    have HH := h
    clear hs h
    go_enter Try.func18, Try.ntmps18
    go_wp2_with (go_at_call 22; refine (bad_at r s (some k) _ HH).mono ?_; rintro e w' ⟨rfl, rfl⟩)
    go_quiet (fail)
    go_wp2
    go_ret
    exact ⟨rfl, _, rfl⟩
theorem at_at (r : Nat) (s : ByteArray) (st : Option Nat) (w : World) (h : IsAt r 52 (rdCells s st) w) :
    Calls Try.prog 20 #[.pointer (some ⟨r, 0, none⟩)] w fun e w' => e = .returned (.int .i64 (atF st)) ∧ w' = w := by
  cases st with
  | none =>
    go_enter Try.func20, Try.ntmps20
    go_wp2_with (go_at_call 22; refine (bad_at r s none _ h).mono ?_; rintro e w' ⟨rfl, rfl⟩)
    go_ret
    exact ⟨rfl, rfl⟩
  | some k =>
    have c2 : w.cell? ⟨r, 2, none⟩ = some (.int .i64 k) := h.cell 2
    go_enter Try.func20, Try.ntmps20
    go_wp2_with (go_at_call 22; refine (bad_at r s (some k) _ h).mono ?_; rintro e w' ⟨rfl, rfl⟩)
    go_ret
    exact ⟨rfl, rfl⟩
theorem spoil_at (r : Nat) (s : ByteArray) (st : Option Nat) (w : World) (h : IsAt r 52 (rdCells s st) w) :
    Calls Try.prog 26 #[.pointer (some ⟨r, 0, none⟩)] w fun e w' => e = .returned (.tuple #[]) ∧ IsAt r 52 (rdCells s none) w' ∧ But r w w' := by
  have f0 := h.frozen 0
  have f1 := h.frozen 1
  have f2 := h.frozen 2
  obtain ⟨v0, v1, v2, e0⟩ : ∃ v0 v1 v2, rdCells s st = #[v0, v1, v2] := by cases st <;> exact ⟨_, _, _, rfl⟩
  rw [e0] at h
  have c0 : w.cell? ⟨r, 0, none⟩ = some v0 := h.cell 0
  have c1 : w.cell? ⟨r, 1, none⟩ = some v1 := h.cell 1
  have c2 : w.cell? ⟨r, 2, none⟩ = some v2 := h.cell 2
  have H : Hid (IsAt r 52 #[v0, v1, v2] w) := h
  clear h e0
  go_enter Try.func26, Try.ntmps26
  go_wp2
  go_end0
  refine ⟨rfl, ?_, ?_⟩
  · exact ((H.out.set 0 _).set 1 _).set 2 _
  · exact (((But.refl r w).setCell 0 _).setCell 1 _).setCell 2 _

/-- What a reader of s that stands at st hands out, asked for n octets; and where it stands then. -/
def fits (s : ByteArray) (k : Nat) (n : Int) : Bool := decide (0 ≤ n) && decide (n ≤ (s.size : Int) - k)
def nxt (s : ByteArray) (st : Option Nat) (n : Int) : Option Nat :=
  match st with
  | none => none
  | some k => if fits s k n then some (k + n.toNat) else none
def txt (s : ByteArray) (st : Option Nat) (n : Int) : ByteArray :=
  match st with
  | none => ⟨#[]⟩
  | some k => if fits s k n then s.extract k (k + n.toNat) else ⟨#[]⟩
theorem fits_nat (s : ByteArray) (k m : Nat) (h : k + m ≤ s.size) : fits s k m = true := by simp [fits]; omega
theorem fits_no (s : ByteArray) (k : Nat) (n : Int) (h : n < 0 ∨ (s.size : Int) - k < n) : fits s k n = false := by simp [fits]; omega
theorem nxt_ok {s : ByteArray} {st : Option Nat} (n : Int) (h : StOk s st) : StOk s (nxt s st n) := by
  refine ⟨h.1, fun k hk => ?_⟩
  cases st with
  | none => simp [nxt] at hk
  | some j =>
    simp only [nxt, fits] at hk
    by_cases h1 : 0 ≤ n ∧ n ≤ (s.size : Int) - j
    · simp [h1.1, h1.2] at hk
      omega
    · have : (decide (0 ≤ n) && decide (n ≤ (s.size : Int) - j)) = false := by simp; omega
      simp [this] at hk

theorem slice_str (s : ByteArray) (k m : Nat) (h : k + m ≤ s.size) : ∀ w : World,
    (Instr.slice 9 (.string s) (some (.int .i64 k)) (some (.int .i64 ((k : Int) + m))) none).run Try.prog w = .ok (.string (s.extract k (k + m))) w := by
  intro w
  rw [run_slice_string w 9 s .i64 .i64 k (k + m) Try.underlying9 (by omega) (by omega) (by omega)]
  simp
  rfl

theorem text_at (r : Nat) (s : ByteArray) (st : Option Nat) (n : Int) (w : World) (h : IsAt r 52 (rdCells s st) w) (hs : StOk s st) :
    Calls Try.prog 14 #[.pointer (some ⟨r, 0, none⟩), .int .i64 n] w fun e w' => e = .returned (.string (txt s st n)) ∧ IsAt r 52 (rdCells s (nxt s st n)) w' ∧ But r w w' := by
  cases st with
  | none =>
    go_enter Try.func14, Try.ntmps14
    go_wp2_with (first
      | (go_at_call 22; refine (bad_at r s none _ h).mono ?_; rintro e w' ⟨rfl, rfl⟩)
      | (go_at_call 26; refine (spoil_at r s none _ h).mono ?_; rintro e w' ⟨rfl, hr, hb⟩))
    go_ret
    exact ⟨rfl, hr, hb⟩
  | some k =>
    have hk := hs.2 k rfl
    have hz := hs.1
    by_cases hn : 0 ≤ n
    · by_cases hm : n ≤ (s.size : Int) - k
      · obtain ⟨m, rfl⟩ := Int.eq_ofNat_of_zero_le hn
        have c1 : w.cell? ⟨r, 1, none⟩ = some (.string s) := h.cell 1
        have c2 : w.cell? ⟨r, 2, none⟩ = some (.int .i64 k) := h.cell 2
        have f2 := h.frozen 2
        have H : Hid (IsAt r 52 (rdCells s (some k)) w) := h
        have hlf : leftF s (some k) = (s.size : Int) - k := rfl
        have hf := fits_nat s k m (by omega)
        have hx : txt s (some k) (m : Int) = s.extract k (k + m) := by simp [txt, hf]
        have hy : nxt s (some k) (m : Int) = some (k + m) := by simp [nxt, hf]
        rw [hx, hy]
        have hsl := slice_str s k m (by omega)
        clear h hx hy hf
        go_enter Try.func14, Try.ntmps14
        go_wp2_with (first
          | (go_at_call 22; refine (bad_at r s (some k) _ H.out).mono ?_; rintro e w' ⟨rfl, rfl⟩)
          | (go_at_call 18; refine (left_at r s (some k) _ H.out hs).mono ?_; rintro e w' ⟨rfl, d, rfl⟩))
        go_quiet (fail)
        go_wp2
        go_ret
        refine ⟨rfl, ?_, (((But.refl r _).drewN d).setCell 2 _).drewN nq⟩
        have := (((H.out.drewN d).set 2 (.int .i64 ((k : Int) + m))).drewN nq)
        simpa [rdCells] using this
      · have hlf : leftF s (some k) = (s.size : Int) - k := rfl
        have hf := fits_no s k n (by omega)
        have hx : txt s (some k) n = ⟨#[]⟩ := by simp [txt, hf]
        have hy : nxt s (some k) n = none := by simp [nxt, hf]
        rw [hx, hy]
        have H : Hid (IsAt r 52 (rdCells s (some k)) w) := h
        clear h hx hy hf
        go_enter Try.func14, Try.ntmps14
        go_wp2_with (first
          | (go_at_call 22; refine (bad_at r s (some k) _ H.out).mono ?_; rintro e w' ⟨rfl, rfl⟩)
          | (go_at_call 18; refine (left_at r s (some k) _ H.out hs).mono ?_; rintro e w' ⟨rfl, d, rfl⟩)
          | (go_at_call 26; refine (spoil_at r s (some k) _ (H.out.drewN d)).mono ?_; rintro e w' ⟨rfl, hr, hb⟩))
        go_ret
        exact ⟨rfl, hr, ((But.refl r _).drewN d).trans hb⟩
    · have hf := fits_no s k n (by omega)
      have hx : txt s (some k) n = ⟨#[]⟩ := by simp [txt, hf]
      have hy : nxt s (some k) n = none := by simp [nxt, hf]
      rw [hx, hy]
      have H : Hid (IsAt r 52 (rdCells s (some k)) w) := h
      clear h hx hy hf
      go_enter Try.func14, Try.ntmps14
      go_wp2_with (first
        | (go_at_call 22; refine (bad_at r s (some k) _ H.out).mono ?_; rintro e w' ⟨rfl, rfl⟩)
        | (go_at_call 26; refine (spoil_at r s (some k) _ H.out).mono ?_; rintro e w' ⟨rfl, hr, hb⟩))
      go_ret
      exact ⟨rfl, hr, hb⟩
end Go.Proofs.Ytnjekkcfdcbimaa
