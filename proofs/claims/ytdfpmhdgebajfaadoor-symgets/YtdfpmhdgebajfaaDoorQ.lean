/-
  The contracts of sym's small functions, and of the document's (splicerref05).
-/
import Derived.Test.YtdfpmhdgebajfaaDoorO
import Derived.Test.YtdfpmhdgebajfaaDoorS
import Derived.Test.YtdfpmhdgebajfaaDoorP
import Derived.LoopN
namespace Go.Proofs.YtdfpmhdgebajfaaDoor
open Go.ChangeShapes Go.WideShapes Go.ChangeAt Go.RowKit
set_option linter.unusedVariables false
set_option maxRecDepth 100000

theorem isAt_alloc (w : World) (cs : Array Value) (t : TypeId) : IsAt w.heap.size t cs (w.alloc (.cells cs t)) := by
  show (w.heap.push (Obj.cells cs t))[w.heap.size]? = _
  exact Array.getElem?_push_size
def bitsB (n : Int) : Bool := decide (0 ≤ n) && decide (n ≤ 31)
def boundB (n : Int) : Bool := decide (1 ≤ n) && decide (n ≤ 2147483648)
theorem bitsB_yes {n : Int} (h : bitsB n = true) : 0 ≤ n ∧ n ≤ 31 := by simpa [bitsB] using h
theorem bitsB_no {n : Int} (h : bitsB n = false) : n < 0 ∨ 31 < n := by
  simp [bitsB] at h
  omega
theorem boundB_yes {n : Int} (h : boundB n = true) : 1 ≤ n ∧ n ≤ 2147483648 := by simpa [boundB] using h
theorem boundB_no {n : Int} (h : boundB n = false) : n < 1 ∨ 2147483648 < n := by
  simp [boundB] at h
  omega
theorem arebits_any (n : Int) (w : World) : Calls Tryd.prog 31 #[.int .i64 n] w fun e w' => e = .returned (.bool (bitsB n)) ∧ w' = w := by
  by_cases h1 : 0 ≤ n
  · by_cases h2 : n ≤ 31
    · go_enter Tryd.func31, Tryd.ntmps31
      go_wp2
      go_ret
      exact ⟨ret_bool (by simp [bitsB, h1, h2]), rfl⟩
    · go_enter Tryd.func31, Tryd.ntmps31
      go_wp2
      go_ret
      exact ⟨ret_bool (by simp [bitsB, h2]), rfl⟩
  · go_enter Tryd.func31, Tryd.ntmps31
    go_wp2
    go_ret
    exact ⟨ret_bool (by simp [bitsB]; omega), rfl⟩
theorem isbound_any (n : Int) (w : World) : Calls Tryd.prog 34 #[.int .i64 n] w fun e w' => e = .returned (.bool (boundB n)) ∧ w' = w := by
  by_cases h1 : 1 ≤ n
  · by_cases h2 : n ≤ 2147483648
    · go_enter Tryd.func34, Tryd.ntmps34
      go_wp2
      go_ret
      exact ⟨ret_bool (by simp [boundB, h1, h2]), rfl⟩
    · go_enter Tryd.func34, Tryd.ntmps34
      go_wp2
      go_ret
      exact ⟨ret_bool (by simp [boundB, h2]), rfl⟩
  · go_enter Tryd.func34, Tryd.ntmps34
    go_wp2
    go_ret
    exact ⟨ret_bool (by simp [boundB]; omega), rfl⟩
theorem low_any (n : Nat) (h1 : 1 ≤ n) (h2 : n ≤ 2147483648) (w : World) : Calls Tryd.prog 35 #[.int .i64 n] w fun e w' => e = .returned (.int .i64 (sh n : Int)) ∧ w' = w := by
  have b1 : (1 : Int) ≤ n := by omega
  have b2 : (n : Int) ≤ 2147483648 := by omega
  by_cases c0 : n - 1 < 4096
  · have d0 : (n : Int) - 1 < 4096 := by omega
    have E : Hid (sh n = 0) := by show sh n = _; unfold sh;  rw [if_pos (by omega)]
    clear h1 h2 c0
    go_enter Tryd.func35, Tryd.ntmps35
    go_wp2
    refine wp_loop_rounds 1 ?_
    rw [rounds_succ]
    go_wp2
    go_ret
    exact ⟨ret_int (by rw [E.out]; rfl), rfl⟩
  · skip
    by_cases c1 : n - 1 < 1048576
    · have d1 : (n : Int) - 1 < 1048576 := by omega
      have f0 : 4096 ≤ (n : Int) - 1 := by omega
      have g1 : ((n : Int) - 1) / 256 < 4096 := by omega
      have E : Hid (sh n = 8) := by show sh n = _; unfold sh; rw [if_neg (by omega)]; rw [if_pos (by omega)]
      clear h1 h2 c0 c1
      go_enter Tryd.func35, Tryd.ntmps35
      go_wp2
      refine wp_loop_rounds 2 ?_
      rw [rounds_succ]
      go_wp2
      rw [rounds_succ]
      go_wp2
      go_ret
      exact ⟨ret_int (by rw [E.out]; rfl), rfl⟩
    · skip
      by_cases c2 : n - 1 < 268435456
      · have d2 : (n : Int) - 1 < 268435456 := by omega
        have f0 : 4096 ≤ (n : Int) - 1 := by omega
        have f1 : 1048576 ≤ (n : Int) - 1 := by omega
        have g1 : 4096 ≤ ((n : Int) - 1) / 256 := by omega
        have g2 : ((n : Int) - 1) / 65536 < 4096 := by omega
        have E : Hid (sh n = 16) := by show sh n = _; unfold sh; rw [if_neg (by omega)]; rw [if_neg (by omega)]; rw [if_pos (by omega)]
        clear h1 h2 c0 c1 c2
        go_enter Tryd.func35, Tryd.ntmps35
        go_wp2
        refine wp_loop_rounds 3 ?_
        rw [rounds_succ]
        go_wp2
        rw [rounds_succ]
        go_wp2
        rw [rounds_succ]
        go_wp2
        go_ret
        exact ⟨ret_int (by rw [E.out]; rfl), rfl⟩
      · skip
        have d3 : (n : Int) - 1 < 2147483648 := by omega
        have f0 : 4096 ≤ (n : Int) - 1 := by omega
        have f1 : 1048576 ≤ (n : Int) - 1 := by omega
        have f2 : 268435456 ≤ (n : Int) - 1 := by omega
        have g1 : 4096 ≤ ((n : Int) - 1) / 256 := by omega
        have g2 : 4096 ≤ ((n : Int) - 1) / 65536 := by omega
        have g3 : ((n : Int) - 1) / 16777216 < 4096 := by omega
        have E : Hid (sh n = 24) := by show sh n = _; unfold sh; rw [if_neg (by omega)]; rw [if_neg (by omega)]; rw [if_neg (by omega)]
        clear h1 h2 c0 c1 c2
        go_enter Tryd.func35, Tryd.ntmps35
        go_wp2
        refine wp_loop_rounds 4 ?_
        rw [rounds_succ]
        go_wp2
        rw [rounds_succ]
        go_wp2
        rw [rounds_succ]
        go_wp2
        rw [rounds_succ]
        go_wp2
        go_ret
        exact ⟨ret_int (by rw [E.out]; rfl), rfl⟩
theorem rlow_any (n : Nat) (h1 : 1 ≤ n) (h2 : n ≤ 2147483648) (w : World) : Calls Tryd.prog 36 #[.int .i64 n] w fun e w' => e = .returned (.int .i64 (sh n : Int)) ∧ w' = w := by
  have b1 : (1 : Int) ≤ n := by omega
  have b2 : (n : Int) ≤ 2147483648 := by omega
  by_cases c0 : n - 1 < 4096
  · have d0 : (n : Int) - 1 < 4096 := by omega
    have E : Hid (sh n = 0) := by show sh n = _; unfold sh;  rw [if_pos (by omega)]
    clear h1 h2 c0
    go_enter Tryd.func36, Tryd.ntmps36
    go_wp2
    refine wp_loop_rounds 1 ?_
    rw [rounds_succ]
    go_wp2
    go_ret
    exact ⟨ret_int (by rw [E.out]; rfl), rfl⟩
  · skip
    by_cases c1 : n - 1 < 1048576
    · have d1 : (n : Int) - 1 < 1048576 := by omega
      have f0 : 4096 ≤ (n : Int) - 1 := by omega
      have g1 : ((n : Int) - 1) / 256 < 4096 := by omega
      have E : Hid (sh n = 8) := by show sh n = _; unfold sh; rw [if_neg (by omega)]; rw [if_pos (by omega)]
      clear h1 h2 c0 c1
      go_enter Tryd.func36, Tryd.ntmps36
      go_wp2
      refine wp_loop_rounds 2 ?_
      rw [rounds_succ]
      go_wp2
      rw [rounds_succ]
      go_wp2
      go_ret
      exact ⟨ret_int (by rw [E.out]; rfl), rfl⟩
    · skip
      by_cases c2 : n - 1 < 268435456
      · have d2 : (n : Int) - 1 < 268435456 := by omega
        have f0 : 4096 ≤ (n : Int) - 1 := by omega
        have f1 : 1048576 ≤ (n : Int) - 1 := by omega
        have g1 : 4096 ≤ ((n : Int) - 1) / 256 := by omega
        have g2 : ((n : Int) - 1) / 65536 < 4096 := by omega
        have E : Hid (sh n = 16) := by show sh n = _; unfold sh; rw [if_neg (by omega)]; rw [if_neg (by omega)]; rw [if_pos (by omega)]
        clear h1 h2 c0 c1 c2
        go_enter Tryd.func36, Tryd.ntmps36
        go_wp2
        refine wp_loop_rounds 3 ?_
        rw [rounds_succ]
        go_wp2
        rw [rounds_succ]
        go_wp2
        rw [rounds_succ]
        go_wp2
        go_ret
        exact ⟨ret_int (by rw [E.out]; rfl), rfl⟩
      · skip
        have d3 : (n : Int) - 1 < 2147483648 := by omega
        have f0 : 4096 ≤ (n : Int) - 1 := by omega
        have f1 : 1048576 ≤ (n : Int) - 1 := by omega
        have f2 : 268435456 ≤ (n : Int) - 1 := by omega
        have g1 : 4096 ≤ ((n : Int) - 1) / 256 := by omega
        have g2 : 4096 ≤ ((n : Int) - 1) / 65536 := by omega
        have g3 : ((n : Int) - 1) / 16777216 < 4096 := by omega
        have E : Hid (sh n = 24) := by show sh n = _; unfold sh; rw [if_neg (by omega)]; rw [if_neg (by omega)]; rw [if_neg (by omega)]
        clear h1 h2 c0 c1 c2
        go_enter Tryd.func36, Tryd.ntmps36
        go_wp2
        refine wp_loop_rounds 4 ?_
        rw [rounds_succ]
        go_wp2
        rw [rounds_succ]
        go_wp2
        rw [rounds_succ]
        go_wp2
        rw [rounds_succ]
        go_wp2
        go_ret
        exact ⟨ret_int (by rw [E.out]; rfl), rfl⟩
theorem even1_at (a : Addr) (t x : Int) (w : World) (h : w.cell? a = some (.int .i64 t)) (hx : 0 ≤ x) (hx2 : x ≤ 65536) : Calls Tryd.prog 60 #[.int .i64 x, .pointer (some a)] w fun e w' => e = .returned (.tuple #[.int .i64 x, .int .i64 (x + 1), .int .i64 t]) ∧ Below w.heap.size w w' := by
  go_enter Tryd.func60, Tryd.ntmps60
  go_wp2
  go_quiet (fail)
  go_wp2
  go_returns
  exact ⟨rfl, below_drewN (Below.refl _ w) _⟩
theorem even_any (t : Int) (w : World) : Calls Tryd.prog 43 #[.int .i64 t] w fun e w' => e = .returned (.func (.func 60) #[] #[.pointer (some ⟨w.heap.size, 0, none⟩)]) ∧ w'.cell? ⟨w.heap.size, 0, none⟩ = some (.int .i64 t) ∧ Below w.heap.size w w' := by
  have hmf : ∀ (fn : Fn) (first cap : Array Value) (w : World), (Instr.makeFunc fn first cap).run Tryd.prog w = .ok (.func fn first cap) w := fun _ _ _ _ => rfl
  have HC : Hid ((w.alloc (.cells #[.int .i64 t] 3)).cell? ⟨w.heap.size, 0, none⟩ = some (.int .i64 t)) := (isAt_alloc w #[.int .i64 t] 3).cell 0
  go_enter Tryd.func43, Tryd.ntmps43
  go_wp2
  go_ret
  exact ⟨rfl, HC.out, (Below.refl _ w).alloc (Nat.le_refl _) _⟩
def edgeCells : Array Value := #[.int .i64 0, .int .i64 24, .int .i64 32, .int .i64 40, .int .i64 45, .int .i64 50, .int .i64 53, .int .i64 56, .int .i64 64]
theorem diffs_any (w : World) : Calls Tryd.prog 37 #[] w fun e w' => e = .returned (.func (.func 53) #[] #[.pointer (some ⟨w.heap.size, 0, none⟩)]) ∧ IsAt w.heap.size 89 edgeCells w' ∧ Below w.heap.size w w' := by
  have hmf : ∀ (fn : Fn) (first cap : Array Value) (w : World), (Instr.makeFunc fn first cap).run Tryd.prog w = .ok (.func fn first cap) w := fun _ _ _ _ => rfl
  go_enter Tryd.func37, Tryd.ntmps37
  go_wp2
  go_ret
  exact ⟨rfl, isAt_alloc w _ _, (Below.refl _ w).alloc (Nat.le_refl _) _⟩
theorem diffs1_at (r j : Nat) (w : World) (h : IsAt r 89 edgeCells w) (hj : j ≤ 7) : Calls Tryd.prog 53 #[.int .i64 (j : Int), .pointer (some ⟨r, 0, none⟩)] w fun e w' => e = .returned (.tuple #[.int .i64 (edge j : Int), .int .i64 (edge (j + 1) : Int), .int .i64 64]) ∧ Below w.heap.size w w' := by
  have hc : ∀ k, w.cell? ⟨r, k, none⟩ = edgeCells[k]? := fun k => h.cell k
  have hjj : j = 0 ∨ j = 1 ∨ j = 2 ∨ j = 3 ∨ j = 4 ∨ j = 5 ∨ j = 6 ∨ j = 7 := by omega
  rcases hjj with rfl | rfl | rfl | rfl | rfl | rfl | rfl | rfl
  · have k0 : w.cell? ⟨r, 0, none⟩ = some (.int .i64 0) := hc 0
    have k1 : w.cell? ⟨r, 1, none⟩ = some (.int .i64 24) := hc 1
    clear hc hj
    go_enter Tryd.func53, Tryd.ntmps53
    go_wp2
    go_quiet (fail)
    go_wp2
    go_returns
    exact ⟨rfl, below_drewN (Below.refl _ w) _⟩
  · have k0 : w.cell? ⟨r, 1, none⟩ = some (.int .i64 24) := hc 1
    have k1 : w.cell? ⟨r, 2, none⟩ = some (.int .i64 32) := hc 2
    clear hc hj
    go_enter Tryd.func53, Tryd.ntmps53
    go_wp2
    go_quiet (fail)
    go_wp2
    go_returns
    exact ⟨rfl, below_drewN (Below.refl _ w) _⟩
  · have k0 : w.cell? ⟨r, 2, none⟩ = some (.int .i64 32) := hc 2
    have k1 : w.cell? ⟨r, 3, none⟩ = some (.int .i64 40) := hc 3
    clear hc hj
    go_enter Tryd.func53, Tryd.ntmps53
    go_wp2
    go_quiet (fail)
    go_wp2
    go_returns
    exact ⟨rfl, below_drewN (Below.refl _ w) _⟩
  · have k0 : w.cell? ⟨r, 3, none⟩ = some (.int .i64 40) := hc 3
    have k1 : w.cell? ⟨r, 4, none⟩ = some (.int .i64 45) := hc 4
    clear hc hj
    go_enter Tryd.func53, Tryd.ntmps53
    go_wp2
    go_quiet (fail)
    go_wp2
    go_returns
    exact ⟨rfl, below_drewN (Below.refl _ w) _⟩
  · have k0 : w.cell? ⟨r, 4, none⟩ = some (.int .i64 45) := hc 4
    have k1 : w.cell? ⟨r, 5, none⟩ = some (.int .i64 50) := hc 5
    clear hc hj
    go_enter Tryd.func53, Tryd.ntmps53
    go_wp2
    go_quiet (fail)
    go_wp2
    go_returns
    exact ⟨rfl, below_drewN (Below.refl _ w) _⟩
  · have k0 : w.cell? ⟨r, 5, none⟩ = some (.int .i64 50) := hc 5
    have k1 : w.cell? ⟨r, 6, none⟩ = some (.int .i64 53) := hc 6
    clear hc hj
    go_enter Tryd.func53, Tryd.ntmps53
    go_wp2
    go_quiet (fail)
    go_wp2
    go_returns
    exact ⟨rfl, below_drewN (Below.refl _ w) _⟩
  · have k0 : w.cell? ⟨r, 6, none⟩ = some (.int .i64 53) := hc 6
    have k1 : w.cell? ⟨r, 7, none⟩ = some (.int .i64 56) := hc 7
    clear hc hj
    go_enter Tryd.func53, Tryd.ntmps53
    go_wp2
    go_quiet (fail)
    go_wp2
    go_returns
    exact ⟨rfl, below_drewN (Below.refl _ w) _⟩
  · have k0 : w.cell? ⟨r, 7, none⟩ = some (.int .i64 56) := hc 7
    have k1 : w.cell? ⟨r, 8, none⟩ = some (.int .i64 64) := hc 8
    clear hc hj
    go_enter Tryd.func53, Tryd.ntmps53
    go_wp2
    go_quiet (fail)
    go_wp2
    go_returns
    exact ⟨rfl, below_drewN (Below.refl _ w) _⟩
theorem rsmall_any (v : Int) (w : World) : Calls Tryd.prog 39 #[.int .i64 v] w fun e w' => e = .returned (.tuple #[.int .i64 (edge (plV v) : Int), .int .i64 (edge (plV v + 1) : Int)]) ∧ w' = w := by
  by_cases h : plV v < 7
  · have : v = 0 ∨ v = -1 ∨ v = 1 ∨ v = -2 ∨ v = 2 ∨ v = -3 ∨ v = 3 := by
      unfold plV at h
      repeat' split at h
      all_goals omega
    clear h
    rcases this with rfl | rfl | rfl | rfl | rfl | rfl | rfl
    all_goals
      go_enter Tryd.func39, Tryd.ntmps39
      go_wp2
      go_ret2
      exact ⟨rfl, rfl⟩
  · have n0 : ¬ v = 0 := by intro e; subst e; exact h (by decide)
    have n1 : ¬ v = -1 := by intro e; subst e; exact h (by decide)
    have n2 : ¬ v = 1 := by intro e; subst e; exact h (by decide)
    have n3 : ¬ v = -2 := by intro e; subst e; exact h (by decide)
    have n4 : ¬ v = 2 := by intro e; subst e; exact h (by decide)
    have n5 : ¬ v = -3 := by intro e; subst e; exact h (by decide)
    have n6 : ¬ v = 3 := by intro e; subst e; exact h (by decide)
    have E : Hid (plV v = 7) := by show plV v = 7; have := plV_le v; omega
    clear h
    go_enter Tryd.func39, Tryd.ntmps39
    go_wp2
    go_ret2
    exact ⟨by rw [E.out]; rfl, rfl⟩
end Go.Proofs.YtdfpmhdgebajfaaDoor
