/-
  The contracts of rc's small functions and of the document's (splicerref04), each for every number, over the landed text.
-/
import Derived.Test.YtdfpmhdgebajfaaDoorRows
import Derived.Test.YtdfpmhdgebajfaaDoorM
import Derived.WalkKit
import Derived.ProofKit
import Derived.OpenShut
import Derived.Deep.QuietTactic
import Derived.BigQuiet
import Derived.BigRegion
import Derived.Below
import Derived.Lib.ConvBytes
import Derived.Deep.RegionHeld3
import Derived.Handy
namespace Go.Proofs.YtdfpmhdgebajfaaDoor
open Go.ChangeShapes Go.WideShapes Go.ChangeAt Go.RowKit
set_option linter.unusedVariables false
set_option maxRecDepth 100000

theorem ret_int {k : IntKind} {a b : Int} (h : a = b) : Ending.returned (.int k a) = .returned (.int k b) := by rw [h]
theorem ret_bool {a b : Bool} (h : a = b) : Ending.returned (.bool a) = .returned (.bool b) := by rw [h]
theorem ret_str {a b : ByteArray} (h : a = b) : Ending.returned (.string a) = .returned (.string b) := by rw [h]

/-- A row of cells, in block r. -/
abbrev IsAt (r : Nat) (t : TypeId) (cs : Array Value) (w : World) : Prop := w.heap[r]? = some (.cells cs t (0, 0))
theorem IsAt.lt {r t cs w} (h : IsAt r t cs w) : r < w.heap.size := (Array.getElem?_eq_some_iff.1 h).1
theorem IsAt.cell {r t : Nat} {cs : Array Value} {w : World} (h : IsAt r t cs w) (j : Nat) : w.cell? ⟨r, j, none⟩ = cs[j]? := by
  have h' : w.heap[r]? = some (.cells cs t (0, 0)) := h
  simp [World.cell?, h']
theorem IsAt.frozen {r t : Nat} {cs : Array Value} {w : World} (h : IsAt r t cs w) (j : Nat) : w.frozen? ⟨r, j, none⟩ = false := by
  have h' : w.heap[r]? = some (.cells cs t (0, 0)) := h
  simp [World.frozen?, h']
theorem IsAt.set {r t : Nat} {cs : Array Value} {w : World} (h : IsAt r t cs w) (j : Nat) (v : Value) : IsAt r t (cs.setIfInBounds j v) (w.setCell ⟨r, j, none⟩ v) := by
  have h' : w.heap[r]? = some (.cells cs t (0, 0)) := h
  show (w.setCell ⟨r, j, none⟩ v).heap[r]? = _
  simp [World.setCell, Array.getElem?_modify, h']
theorem IsAt.drewN {r t : Nat} {cs : Array Value} {w : World} (h : IsAt r t cs w) (n : Nat) : IsAt r t cs (w.drewN n) := by
  induction n generalizing w with
  | zero => exact h
  | succ n ih => exact ih h
theorem IsAt.below {r t : Nat} {cs : Array Value} {w w' : World} (h : IsAt r t cs w) (hb : Below w.heap.size w w') : IsAt r t cs w' := (hb.block r h.lt).trans h
theorem isAt_ne {r r' t t' : Nat} {cs cs' : Array Value} {w : World} (h : IsAt r t cs w) (h' : IsAt r' t' cs' w) (ht : t ≠ t') : r ≠ r' := by
  rintro rfl
  have e1 : w.heap[r]? = some (.cells cs t (0, 0)) := h
  have e2 : w.heap[r]? = some (.cells cs' t' (0, 0)) := h'
  rw [e1] at e2
  simp at e2
  exact ht e2.2
theorem below_drewN {B : Nat} {a w : World} (h : Below B a w) (n : Nat) : Below B a (w.drewN n) := by
  induction n generalizing w with
  | zero => exact h
  | succ n ih => exact (ih h).drew
theorem region_class {P : Program} {id : Nat} {Q : Exit → Act → World → Prop} {a : Act} {w : World} {l : List Oper} (C : World → Prop) (hm : P.follows .mixedOrders = true) (hB : Region.lexB .any l.toArray = true)
    (h0 : C w.drew) (h : wpQuiet P l.toArray C (fun a' => ∀ w', C w' → Q .normal a' w') l a) : (Code.region id l.toArray true).wp P Q a w :=
  wp_region_quiet (C := C) hm hB h0 (by simpa using h)

/-- The number that stands for a Range of n. -/
def lacks (n : Nat) : Value := .int .i64 (4294967295 - (n : Int))
theorem lacks_eq (n : Nat) : lacks n = .int .i64 (4294967295 - (n : Int)) := rfl

theorem size_any (r n : Nat) (w : World) (hc : w.cell? ⟨r, 0, none⟩ = some (lacks n)) (hn : n < 4294967296) :
    Calls Tryd.prog 56 #[.pointer (some ⟨r, 0, none⟩)] w fun e w' => e = .returned (.int .i64 n) ∧ w' = w := by
  rw [lacks_eq] at hc
  go_enter Tryd.func56, Tryd.ntmps56
  go_wp2
  go_ret
  exact ⟨ret_int (by omega), rfl⟩
theorem quo_nat (n t : Nat) : (n : Int) / (t : Int) = ((n / t : Nat) : Int) := by simp
theorem quo_bd (n t : Nat) (hn : n < 4294967296) : n / t < 4294967296 := Nat.lt_of_le_of_lt (Nat.div_le_self _ _) hn
theorem share_any (r n t : Nat) (w : World) (hc : w.cell? ⟨r, 0, none⟩ = some (lacks n)) (hn : n < 4294967296) (h1 : 1 ≤ t) (h2 : t ≤ 65536) :
    Calls Tryd.prog 41 #[.pointer (some ⟨r, 0, none⟩), .int .i64 t] w fun e w' => e = .returned (.int .i64 ((n / t : Nat) : Int)) ∧ w' = w := by
  have q1 := quo_bd n t hn
  have q2 := quo_nat n t
  have q3 : (n : Int) / (t : Int) < 4294967296 := by omega
  have q4 : 0 ≤ (n : Int) / (t : Int) := Int.ediv_nonneg (by omega) (by omega)
  have Q2 : Hid ((n : Int) / (t : Int) = ((n / t : Nat) : Int)) := q2
  clear q1 q2
  go_enter Tryd.func41, Tryd.ntmps41
  go_wp2_with (go_at_call 56; refine (size_any r n _ hc hn).mono ?_; rintro e w' ⟨rfl, rfl⟩)
  go_ret
  exact ⟨ret_int Q2.out, rfl⟩
/-- The facts of a part that the walks ask. -/
theorem part_facts {n lo hi t : Nat} (hn : n < 4294967296) (p : IsPart lo hi t) :
    (n / t * lo ≤ n) ∧ (n / t * (hi - lo) ≤ n) ∧ narrowN n lo hi t ≤ n ∧ n / t * lo + narrowN n lo hi t ≤ n := by
  have h := narrow_le (rng := n) p
  have k := share_le (rng := n) p.2.2.1 p.2.2.2
  omega
theorem cast_mul (a b : Nat) : (a : Int) * (b : Int) = ((a * b : Nat) : Int) := by simp
theorem cast_sub (a b : Nat) (h : b ≤ a) : (a : Int) - (b : Int) = ((a - b : Nat) : Int) := by omega
theorem narrow_any (r n lo hi t : Nat) (w : World) (hc : w.cell? ⟨r, 0, none⟩ = some (lacks n)) (hf : w.frozen? ⟨r, 0, none⟩ = false) (hn : n < 4294967296) (p : IsPart lo hi t) :
    Calls Tryd.prog 55 #[.pointer (some ⟨r, 0, none⟩), .int .i64 lo, .int .i64 hi, .int .i64 t] w fun e w' => e = .returned (.int .i64 ((n / t * lo : Nat) : Int)) ∧ w' = w.setCell ⟨r, 0, none⟩ (lacks (narrowN n lo hi t)) := by
  obtain ⟨f1, f2, f3, f4⟩ := part_facts hn p
  have HP : Hid (IsPart lo hi t) := p
  obtain ⟨p1, p2, p3, p4⟩ := p
  have e1 := cast_mul (n / t) lo
  have e2 : ((n / t : Nat) : Int) * ((hi : Int) - (lo : Int)) = ((n / t * (hi - lo) : Nat) : Int) := by rw [cast_sub _ _ (by omega)]; exact cast_mul _ _
  by_cases ht : hi = t
  · have e3 : narrowN n lo hi t = n - n / t * lo := if_pos ht
    have q1 : ((n / t : Nat) : Int) * (lo : Int) ≤ 4294967295 := by omega
    have q2 : 0 ≤ ((n / t : Nat) : Int) * (lo : Int) := by omega
    have q3 : ((n / t : Nat) : Int) * ((hi : Int) - (lo : Int)) ≤ 4294967295 := by omega
    have q4 : 0 ≤ ((n / t : Nat) : Int) * ((hi : Int) - (lo : Int)) := by omega
    have HE : Hid (((n / t : Nat) : Int) * (lo : Int) = ((n / t * lo : Nat) : Int)) := e1
    clear e1 e2
    have hh : (hi : Int) = t := by omega
    generalize hR : n / t = R at *
    go_enter Tryd.func55, Tryd.ntmps55
    go_wp2_with (first
      | (go_at_call 41; refine (share_any r n t _ hc hn p1 p2).mono ?_; rintro e w' ⟨rfl, rfl⟩; rw [hR])
      | (go_at_call 56; refine (size_any r n _ hc hn).mono ?_; rintro e w' ⟨rfl, rfl⟩))
    go_ret
    refine ⟨ret_int (by rw [HE.out]), ?_⟩
    rw [lacks_eq, e3, HE.out]
    congr 2
    omega
  · have e3 : narrowN n lo hi t = n / t * (hi - lo) := if_neg ht
    have q1 : ((n / t : Nat) : Int) * (lo : Int) ≤ 4294967295 := by omega
    have q2 : 0 ≤ ((n / t : Nat) : Int) * (lo : Int) := by omega
    have q3 : ((n / t : Nat) : Int) * ((hi : Int) - (lo : Int)) ≤ 4294967295 := by omega
    have q4 : 0 ≤ ((n / t : Nat) : Int) * ((hi : Int) - (lo : Int)) := by omega
    have HE : Hid (((n / t : Nat) : Int) * (lo : Int) = ((n / t * lo : Nat) : Int)) := e1
    have HE2 : Hid (((n / t : Nat) : Int) * ((hi : Int) - (lo : Int)) = ((n / t * (hi - lo) : Nat) : Int)) := e2
    clear e1 e2
    have hh : ¬ (hi : Int) = t := by omega
    generalize hR : n / t = R at *
    go_enter Tryd.func55, Tryd.ntmps55
    go_wp2_with (first
      | (go_at_call 41; refine (share_any r n t _ hc hn p1 p2).mono ?_; rintro e w' ⟨rfl, rfl⟩; rw [hR])
      | (go_at_call 56; refine (size_any r n _ hc hn).mono ?_; rintro e w' ⟨rfl, rfl⟩))
    go_ret
    refine ⟨ret_int (by rw [HE.out]), ?_⟩
    rw [lacks_eq, e3, HE2.out]
theorem widen_no (r n : Nat) (w : World) (hc : w.cell? ⟨r, 0, none⟩ = some (lacks n)) (hn : n < 4294967296) (h : 16777216 ≤ n) :
    Calls Tryd.prog 57 #[.pointer (some ⟨r, 0, none⟩)] w fun e w' => e = .returned (.bool false) ∧ w' = w := by
  have hi : (16777216 : Int) ≤ n := by omega
  have HN : Hid (n < 4294967296) := hn
  clear h hn
  go_enter Tryd.func57, Tryd.ntmps57
  go_wp2_with (go_at_call 56; refine (size_any r n _ hc HN.out).mono ?_; rintro e w' ⟨rfl, rfl⟩)
  go_ret
  exact ⟨rfl, rfl⟩
theorem widen_yes (r n : Nat) (w : World) (hc : w.cell? ⟨r, 0, none⟩ = some (lacks n)) (hf : w.frozen? ⟨r, 0, none⟩ = false) (h : n < 16777216) :
    Calls Tryd.prog 57 #[.pointer (some ⟨r, 0, none⟩)] w fun e w' => e = .returned (.bool true) ∧ w' = w.setCell ⟨r, 0, none⟩ (lacks (n * 256)) := by
  have HN : Hid (n < 4294967296) := by show n < _; omega
  have hi : (n : Int) < 16777216 := by omega
  have hd : decide ((n : Int) ≥ 16777216) = false := decide_eq_false (by omega)
  have HV : Hid ((4294967295 - (n : Int) * 256) = 4294967295 - ((n * 256 : Nat) : Int)) := by show _ = _; omega
  clear h
  go_enter Tryd.func57, Tryd.ntmps57
  go_wp2_with (go_at_call 56; refine (size_any r n _ hc HN.out).mono ?_; rintro e w' ⟨rfl, rfl⟩)
  go_ret
  refine ⟨rfl, ?_⟩
  rw [lacks_eq, ← HV.out]
theorem whole_any (t : Int) (w : World) : Calls Tryd.prog 40 #[.int .i64 t] w fun e w' => e = .returned (.bool (decide (1 ≤ t ∧ t ≤ 65536))) ∧ w' = w := by
  by_cases h1 : 1 ≤ t
  · by_cases h2 : t ≤ 65536
    · go_enter Tryd.func40, Tryd.ntmps40
      go_wp2
      go_ret
      exact ⟨ret_bool (by simp [h1, h2]), rfl⟩
    · go_enter Tryd.func40, Tryd.ntmps40
      go_wp2
      go_ret
      exact ⟨ret_bool (by simp [h2]), rfl⟩
  · go_enter Tryd.func40, Tryd.ntmps40
    go_wp2
    go_ret
    exact ⟨ret_bool (by simp; omega), rfl⟩
/-- Is it a part? -/
def isP (lo hi t : Int) : Bool := decide (1 ≤ t ∧ t ≤ 65536) && decide (0 ≤ lo) && decide (lo < hi) && decide (hi ≤ t)
theorem isP_part {lo hi t : Int} (h : isP lo hi t = true) : ∃ a b c : Nat, lo = a ∧ hi = b ∧ t = c ∧ IsPart a b c := by
  simp [isP] at h
  obtain ⟨⟨⟨⟨h1, h2⟩, h3⟩, h4⟩, h5⟩ := h
  exact ⟨lo.toNat, hi.toNat, t.toNat, by omega, by omega, by omega, by omega, by omega, by omega, by omega⟩
theorem part_isP {a b c : Nat} (p : IsPart a b c) : isP a b c = true := by
  obtain ⟨p1, p2, p3, p4⟩ := p
  simp [isP]
  omega
theorem ispart_any (lo hi t : Int) (w : World) : Calls Tryd.prog 54 #[.int .i64 lo, .int .i64 hi, .int .i64 t] w fun e w' => e = .returned (.bool (isP lo hi t)) ∧ w' = w := by
  by_cases h1 : 1 ≤ t ∧ t ≤ 65536
  · have d1 : decide (1 ≤ t ∧ t ≤ 65536) = true := by simp [h1]
    by_cases h2 : 0 ≤ lo
    · by_cases h3 : lo < hi
      · by_cases h4 : hi ≤ t
        · go_enter Tryd.func54, Tryd.ntmps54
          go_wp2_with (go_at_call 40; refine (whole_any t _).mono ?_; rintro e w' ⟨rfl, rfl⟩; rw [d1])
          go_ret
          exact ⟨ret_bool (by simp [isP, h1, h2, h3, h4]), rfl⟩
        · go_enter Tryd.func54, Tryd.ntmps54
          go_wp2_with (go_at_call 40; refine (whole_any t _).mono ?_; rintro e w' ⟨rfl, rfl⟩; rw [d1])
          go_ret
          exact ⟨ret_bool (by simp [isP]; omega), rfl⟩
      · go_enter Tryd.func54, Tryd.ntmps54
        go_wp2_with (go_at_call 40; refine (whole_any t _).mono ?_; rintro e w' ⟨rfl, rfl⟩; rw [d1])
        go_ret
        exact ⟨ret_bool (by simp [isP]; omega), rfl⟩
    · go_enter Tryd.func54, Tryd.ntmps54
      go_wp2_with (go_at_call 40; refine (whole_any t _).mono ?_; rintro e w' ⟨rfl, rfl⟩; rw [d1])
      go_ret
      exact ⟨ret_bool (by simp [isP]; omega), rfl⟩
  · have d1 : decide (1 ≤ t ∧ t ≤ 65536) = false := by simp; omega
    go_enter Tryd.func54, Tryd.ntmps54
    go_wp2_with (go_at_call 40; refine (whole_any t _).mono ?_; rintro e w' ⟨rfl, rfl⟩; rw [d1])
    go_ret
    exact ⟨ret_bool (by simp [isP]; omega), rfl⟩
theorem right_any (lo hi t : Int) (w : World) : Calls Tryd.prog 51 #[.int .i64 lo, .int .i64 hi, .int .i64 t] w fun e w' => e = .returned (.bool (isP lo hi t)) ∧ w' = w := by
  by_cases h1 : 1 ≤ t
  · by_cases h1' : t ≤ 65536
    · by_cases h2 : 0 ≤ lo
      · by_cases h3 : lo < hi
        · by_cases h4 : hi ≤ t
          · go_enter Tryd.func51, Tryd.ntmps51
            go_wp2
            go_ret
            exact ⟨ret_bool (by simp [isP]; omega), rfl⟩
          · go_enter Tryd.func51, Tryd.ntmps51
            go_wp2
            go_ret
            exact ⟨ret_bool (by simp [isP]; omega), rfl⟩
        · go_enter Tryd.func51, Tryd.ntmps51
          go_wp2
          go_ret
          exact ⟨ret_bool (by simp [isP]; omega), rfl⟩
      · go_enter Tryd.func51, Tryd.ntmps51
        go_wp2
        go_ret
        exact ⟨ret_bool (by simp [isP]; omega), rfl⟩
    · go_enter Tryd.func51, Tryd.ntmps51
      go_wp2
      go_ret
      exact ⟨ret_bool (by simp [isP]; omega), rfl⟩
  · go_enter Tryd.func51, Tryd.ntmps51
    go_wp2
    go_ret
    exact ⟨ret_bool (by simp [isP]; omega), rfl⟩
theorem rnarrow_any (n lo hi t : Nat) (w : World) (hn : n < 4294967296) (p : IsPart lo hi t) :
    Calls Tryd.prog 52 #[.int .i64 n, .int .i64 lo, .int .i64 hi, .int .i64 t] w fun e w' => e = .returned (.int .i64 (narrowN n lo hi t : Nat)) ∧ w' = w := by
  obtain ⟨f1, f2, f3, f4⟩ := part_facts hn p
  obtain ⟨p1, p2, p3, p4⟩ := p
  have e1 := cast_mul (n / t) lo
  have e2 : ((n / t : Nat) : Int) * ((hi : Int) - (lo : Int)) = ((n / t * (hi - lo) : Nat) : Int) := by rw [cast_sub _ _ (by omega)]; exact cast_mul _ _
  have e0 := quo_nat n t
  rw [← e0] at e1 e2
  have q := quo_bd n t hn
  have q5 : (n : Int) / (t : Int) < 4294967296 := by omega
  have q6 : 0 ≤ (n : Int) / (t : Int) := Int.ediv_nonneg (by omega) (by omega)
  have q1 : ((n : Int) / (t : Int)) * (lo : Int) ≤ 4294967295 := by omega
  have q2 : 0 ≤ ((n : Int) / (t : Int)) * (lo : Int) := by omega
  have q3 : ((n : Int) / (t : Int)) * ((hi : Int) - (lo : Int)) ≤ 4294967295 := by omega
  have q4 : 0 ≤ ((n : Int) / (t : Int)) * ((hi : Int) - (lo : Int)) := by omega
  have HE : Hid (((n : Int) / (t : Int)) * (lo : Int) = ((n / t * lo : Nat) : Int)) := e1
  have HE2 : Hid (((n : Int) / (t : Int)) * ((hi : Int) - (lo : Int)) = ((n / t * (hi - lo) : Nat) : Int)) := e2
  clear e0 e1 e2
  by_cases ht : hi = t
  · have e3 : narrowN n lo hi t = n - n / t * lo := if_pos ht
    have hh : (hi : Int) = t := by omega
    go_enter Tryd.func52, Tryd.ntmps52
    go_wp2
    go_ret
    exact ⟨ret_int (by rw [HE.out, e3]; omega), rfl⟩
  · have e3 : narrowN n lo hi t = n / t * (hi - lo) := if_neg ht
    have hh : ¬ (hi : Int) = t := by omega
    have hd : ((hi : Int) == (t : Int)) = false := by simpa using hh
    have hh1 : (hi : Int) - (lo : Int) ≤ 65536 := by omega
    have hh2 : 0 ≤ (hi : Int) - (lo : Int) := by omega
    have E3 : Hid (narrowN n lo hi t = n / t * (hi - lo)) := e3
    clear q1 q2 f1 f2 f3 f4 e3 ht HE
    go_enter Tryd.func52, Tryd.ntmps52
    go_wp2
    go_ret
    exact ⟨ret_int (by rw [HE2.out, E3.out]), rfl⟩
end Go.Proofs.YtdfpmhdgebajfaaDoor
