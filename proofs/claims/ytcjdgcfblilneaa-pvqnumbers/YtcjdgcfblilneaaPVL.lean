/-
  The program's small calls: within, number, place, from, Count, Size.
-/
import Derived.Test.YtcjdgcfblilneaaPVK
import Derived.Test.YtcjdgcfblilneaaPVC
import Derived.Test.YtcjdgcfblilneaaPVD
namespace Go.Proofs.Ytcjdgcfblilneaa
open Go.ChangeShapes Go.WideShapes Go.ChangeAt Go.RowKit
set_option linter.unusedVariables false

def pwB (x lo hi : Int) : Bool := decide (lo ≤ x) && decide (x ≤ hi)
theorem pwB_yes {x lo hi : Int} (h1 : lo ≤ x) (h2 : x ≤ hi) : pwB x lo hi = true := by simp [pwB, h1, h2]
theorem pwB_no {x lo hi : Int} (h : x < lo ∨ hi < x) : pwB x lo hi = false := by simp [pwB]; omega
theorem pwithin_any (x lo hi : Int) (w : World) : Calls Try.prog 18 #[.int .i64 x, .int .i64 lo, .int .i64 hi] w fun e w' => e = .returned (.bool (pwB x lo hi)) ∧ w' = w := by
  by_cases h1 : lo ≤ x
  · have e : pwB x lo hi = decide (x ≤ hi) := by simp [pwB, h1]
    rw [e]
    go_enter Try.func18, Try.ntmps18
    go_wp2
    go_ret
    exact ⟨rfl, rfl⟩
  · rw [pwB_no (by omega)]
    have h2 : x < lo := by omega
    have h3 : decide (lo ≤ x) = false := by simpa using h1
    go_enter Try.func18, Try.ntmps18
    go_wp2
    go_ret
    exact ⟨rfl, rfl⟩
theorem pnumber_any (o : Nat) (ho : o ≤ 1000) (w : World) : Calls Try.prog 25 #[.int .i64 (o : Int)] w fun e w' => e = .returned (.int .i64 (pvV o)) ∧ w' = w := by
  by_cases h : o % 2 = 1
  · have e : pvV o = ((o : Int) + 1) / 2 := by rw [pvV, if_pos h]; omega
    have hm : ((o : Int) % 2) = 1 := by omega
    go_enter Try.func25, Try.ntmps25
    go_wp2
    go_ret
    exact ⟨ret_int e.symm, rfl⟩
  · have e : pvV o = -((o : Int) / 2) := by rw [pvV, if_neg h]; omega
    have hm : ((o : Int) % 2) = 0 := by omega
    go_enter Try.func25, Try.ntmps25
    go_wp2
    go_ret
    exact ⟨ret_int e.symm, rfl⟩
theorem pplace_any (v : Int) (h : v.natAbs ≤ 24) (w : World) : Calls Try.prog 23 #[.int .i64 v] w fun e w' => e = .returned (.int .i64 ((pvP v : Nat) : Int)) ∧ w' = w := by
  by_cases h0 : 0 < v
  · have e : ((pvP v : Nat) : Int) = 2 * v - 1 := by rw [pvP, if_pos h0]; omega
    rw [e]
    clear e
    have h1 : v ≤ 24 := by omega
    go_enter Try.func23, Try.ntmps23
    go_wp2
    go_ret
    exact ⟨rfl, rfl⟩
  · have e : ((pvP v : Nat) : Int) = -2 * v := by rw [pvP, if_neg h0]; omega
    rw [e]
    clear e
    have h1 : -24 ≤ v := by omega
    have h2 : v ≤ 0 := by omega
    go_enter Try.func23, Try.ntmps23
    go_wp2
    go_ret
    exact ⟨rfl, rfl⟩
theorem absF_nat {x : Int} (h : x.natAbs ≤ 1000) : absF x = ((x.natAbs : Nat) : Int) := by
  rw [absF, if_pos (by omega)]; omega
/-- The table stands in block g. -/
def PvTab (g : Nat) (w : World) : Prop := g < w.heap.size ∧ ∀ a b, a < 9 → b < 25 → w.cell? ⟨g, a * 25 + b, none⟩ = some (.int .i64 (pvT a b))
theorem Told.tab {r : Nat} {w0 w : World} (h : Told r 9 0 w0 w) : PvTab r w :=
  ⟨h.elim fun F h => h.1.lt, fun a b ha hb => h.get ha hb (.inl ha)⟩
theorem Told.bel {r n k : Nat} {w0 w : World} (h : Told r n k w0 w) : Below w0.heap.size w0 w := by
  obtain ⟨F, h1, h2, h3⟩ := h; exact h2
theorem PvTab.to {g : Nat} {w0 w1 : World} (h : PvTab g w0) (hb : Below w0.heap.size w0 w1) : PvTab g w1 :=
  ⟨Nat.lt_of_lt_of_le h.1 hb.size, fun a b ha hc => by rw [hb.cell (p := ⟨g, a * 25 + b, none⟩) h.1]; exact h.2 a b ha hc⟩
theorem PvTab.other {g r j : Nat} {w : World} (h : PvTab g w) (hr : g ≠ r) (v : Value) : PvTab g (w.setCell ⟨r, j, none⟩ v) :=
  ⟨by simp [World.setCell]; exact h.1, fun a b ha hb => by
    have e := heap_setCell_other w ⟨r, j, none⟩ g v hr
    have h2 := h.2 a b ha hb
    unfold World.cell? at h2 ⊢
    rw [show (w.setCell ⟨r, j, none⟩ v).heap[(⟨g, a * 25 + b, none⟩ : Addr).block]? = w.heap[g]? from e]; exact h2⟩
theorem pfrom_any (g p b k : Nat) (hp : (p + 1) / 2 ≤ k) (hb : b < 9) (hk : k ≤ 24) (w : World) (h : PvTab g w) :
    Calls Try.prog 24 #[.pointer (some ⟨g, 0, none⟩), .int .i64 (p : Int), .int .i64 (b : Int), .int .i64 (k : Int)] w fun e w' => e = .returned (.int .i64 (pvT b (k - (p + 1) / 2))) ∧ Below w.heap.size w w' := by
  obtain ⟨A, hA⟩ : ∃ A, A = (p + 1) / 2 := ⟨_, rfl⟩
  obtain ⟨z, hz⟩ : ∃ z, z = k - A := ⟨_, rfl⟩
  rw [← hA, ← hz]
  have hy : (k : Int) - (A : Int) = (z : Int) := by omega
  have hz25 : z < 25 := by omega
  have hA24 : A ≤ 24 := by omega
  have HD := hid (fun W (hW : Below w.heap.size w W) => (h.to hW).2 b z hb hz25)
  have K1 : Hid (∀ W, Below w.heap.size w W → Calls Try.prog 25 #[.int .i64 (p : Int)] W fun e w' => e = .returned (.int .i64 (pvV p)) ∧ Below w.heap.size w w') := fun W hW =>
    (pnumber_any p (by omega) W).mono fun e w' ⟨he, hb⟩ => ⟨he, by rw [hb]; exact hW⟩
  have K2 : Hid (∀ W, Below w.heap.size w W → Calls Try.prog 19 #[.int .i64 (pvV p)] W fun e w' => e = .returned (.int .i64 (A : Int)) ∧ Below w.heap.size w w') := fun W hW =>
    (abs_any (pvV p) W).mono fun e w' ⟨he, hb⟩ => ⟨by rw [he, absF_nat (by rw [pvV_abs]; omega), pvV_abs, ← hA], below_then hW hb⟩
  clear h hp hA hz
  generalize pvV p = v at *
  generalize pvT b z = t at *
  go_enter Try.func24, Try.ntmps24
  go_wp2
  refine region_below (by kernel_rfl) (by kernel_rfl) ?_
  repeat (go_big_quiet_step (first
    | (intro hq; rfl)
    | (intro hq; rw [HD.out _ hq]; exact ⟨rfl, rfl⟩)
    | (intro hq; go_at_call 25; (with_reducible exact K1.out _ hq))
    | (intro hq; go_at_call 19; (with_reducible exact K2.out _ hq))))
  refine wpQuiet_nil ?_
  intro w8 hw8
  go_wp2
  go_ret
  exact ⟨rfl, hw8⟩
theorem pvq_count (n k : Int) (w : World) : Calls Try.prog 10 #[.int .i64 n, .int .i64 k] w fun e w' => e = .returned (.int .i64 (pvCnt n k)) ∧ Below w.heap.size w w' := by
  have K1 : Hid (Calls Try.prog 18 #[.int .i64 n, .int .i64 0, .int .i64 8] w fun e w' => e = .returned (.bool (pwB n 0 8)) ∧ w' = w) := pwithin_any n 0 8 w
  have K2 : Hid (Calls Try.prog 18 #[.int .i64 k, .int .i64 0, .int .i64 24] w fun e w' => e = .returned (.bool (pwB k 0 24)) ∧ w' = w) := pwithin_any k 0 24 w
  by_cases h1 : 0 ≤ n ∧ n ≤ 8
  · rw [pwB_yes h1.1 h1.2] at K1
    by_cases h2 : 0 ≤ k ∧ k ≤ 24
    · rw [pwB_yes h2.1 h2.2] at K2
      obtain ⟨m, rfl⟩ : ∃ m : Nat, n = (m : Int) := ⟨n.toNat, by omega⟩
      obtain ⟨j, rfl⟩ : ∃ j : Nat, k = (j : Int) := ⟨k.toNat, by omega⟩
      rw [pvCnt_nat (by omega) (by omega)]
      have K3 := hid (counted_any w)
      have hm : m < 9 := by omega
      have hj : j < 25 := by omega
      clear h1 h2
      go_enter Try.func10, Try.ntmps10
      go_wp2_with (first
        | (go_at_call 18; (with_reducible refine K1.out.mono ?_); rintro e w1 ⟨rfl, rfl⟩)
        | (go_at_call 18; (with_reducible refine K2.out.mono ?_); rintro e w1 ⟨rfl, rfl⟩)
        | fail)
      refine Calls.mono K3.out ?_
      rintro e w2 ⟨rfl, ht⟩
      have hc := ht.get (a := m) (b := j) hm hj (.inl hm)
      have HB := hid ht.bel
      clear ht
      go_wp2
      go_ret
      exact ⟨rfl, HB.out⟩
    · rw [pwB_no (by omega)] at K2
      rw [pvCnt, if_neg (by omega)]
      clear h1 h2
      go_enter Try.func10, Try.ntmps10
      go_wp2_with (first
        | (go_at_call 18; (with_reducible refine K1.out.mono ?_); rintro e w1 ⟨rfl, rfl⟩)
        | (go_at_call 18; (with_reducible refine K2.out.mono ?_); rintro e w1 ⟨rfl, rfl⟩))
      go_ret
      exact ⟨rfl, Below.refl _ _⟩
  · rw [pwB_no (by omega)] at K1
    rw [pvCnt, if_neg (by omega)]
    clear h1
    go_enter Try.func10, Try.ntmps10
    go_wp2_with (first
        | (go_at_call 18; (with_reducible refine K1.out.mono ?_); rintro e w1 ⟨rfl, rfl⟩)
        | (go_at_call 18; (with_reducible refine K2.out.mono ?_); rintro e w1 ⟨rfl, rfl⟩))
    go_ret
    exact ⟨rfl, Below.refl _ _⟩
end Go.Proofs.Ytcjdgcfblilneaa
