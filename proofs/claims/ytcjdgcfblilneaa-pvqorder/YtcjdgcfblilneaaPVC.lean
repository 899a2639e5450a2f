/-
  The document's Count and Size.
-/
import Derived.Test.YtcjdgcfblilneaaPVB
namespace Go.Proofs.Ytcjdgcfblilneaa
open Go.ChangeShapes Go.WideShapes Go.ChangeAt Go.RowKit
set_option linter.unusedVariables false

theorem rcount_no (n k : Int) (h : n < 0 ∨ 8 < n ∨ k < 0 ∨ 24 < k) (w : World) : Calls Try.prog 11 #[.int .i64 n, .int .i64 k] w fun e w' => e = .returned (.int .i64 0) ∧ w' = w := by
  by_cases h1 : n < 0
  · clear h
    go_enter Try.func11, Try.ntmps11
    go_wp2
    go_ret
    exact ⟨rfl, rfl⟩
  by_cases h2 : 8 < n
  · clear h
    go_enter Try.func11, Try.ntmps11
    go_wp2
    go_ret
    exact ⟨rfl, rfl⟩
  by_cases h3 : k < 0
  · clear h
    go_enter Try.func11, Try.ntmps11
    go_wp2
    go_ret
    exact ⟨rfl, rfl⟩
  have h4 : 24 < k := by omega
  clear h
  go_enter Try.func11, Try.ntmps11
  go_wp2
  go_ret
  exact ⟨rfl, rfl⟩
theorem rcount_yes (n k : Nat) (hn : n ≤ 8) (hk : k ≤ 24) (w : World) : Calls Try.prog 11 #[.int .i64 n, .int .i64 k] w fun e w' => e = .returned (.int .i64 (pvT n k)) ∧ Below w.heap.size w w' := by
  have K := hid (rrows_any n hn w)
  obtain ⟨y, hy⟩ : ∃ y, y = pvT n k := ⟨_, rfl⟩
  rw [← hy]
  have HY := hid hy
  clear hy
  go_enter Try.func11, Try.ntmps11
  go_wp2_with (fail)
  refine Calls.mono K.out ?_
  rintro e w1 ⟨a, cap, rfl, hl, hb⟩
  have HB := hid hb
  obtain ⟨b, off, ab, ao, ci, rfl, hci, hci2, hrow⟩ := hl.row (show n < n + 1 by omega) (by omega)
  have d1 := (hrow w1 (Below.refl _ _)).1
  have d2 := (hrow w1 (Below.refl _ _)).2 k (by omega)
  rw [← HY.out] at d2
  clear hl hrow hb K HY
  go_wp2
  go_ret
  exact ⟨rfl, HB.out⟩
/-- P16.1: Count, of any numbers. -/
theorem rcount_any (n k : Int) (w : World) : Calls Try.prog 11 #[.int .i64 n, .int .i64 k] w fun e w' => e = .returned (.int .i64 (pvCnt n k)) ∧ Below w.heap.size w w' := by
  by_cases h : 0 ≤ n ∧ n ≤ 8 ∧ 0 ≤ k ∧ k ≤ 24
  · obtain ⟨m, rfl⟩ : ∃ m : Nat, n = (m : Int) := ⟨n.toNat, by omega⟩
    obtain ⟨j, rfl⟩ : ∃ j : Nat, k = (j : Int) := ⟨k.toNat, by omega⟩
    rw [pvCnt_nat (by omega) (by omega)]
    exact rcount_yes m j (by omega) (by omega) w
  · rw [pvCnt, if_neg h]
    exact (rcount_no n k (by omega) w).mono fun e w' ⟨he, hb⟩ => ⟨he, by rw [hb]; exact Below.refl _ _⟩

/-- How far from 0 in all, if they are pulses. -/
def pvSz (n : Nat) (X : Nat → Int) : Int := if pvOk n X = true then ((pvF X n : Nat) : Int) else 0
theorem rsize_any (a : Option Addr) (len cap : Nat) (X : Nat → Int) (hl : len ≤ maxLen) (w : World) (h : IsInts w a len cap X) :
    Calls Try.prog 9 #[.slice a len cap] w fun e w' => e = .returned (.tuple #[.int .i64 (pvSz len X), .bool (pvOk len X)]) ∧ w' = w := by
  by_cases h0 : len = 0
  · subst h0
    have e1 : pvOk 0 X = false := rfl
    have e2 : pvSz 0 X = 0 := by rw [pvSz, if_neg (by simp [e1])]
    rw [e1, e2]
    clear h
    go_enter Try.func9, Try.ntmps9
    go_wp2
    go_ret2
    exact ⟨rfl, rfl⟩
  by_cases h8 : 8 < len
  · have e1 : pvOk len X = false := by simp [pvOk]; omega
    have e2 : pvSz len X = 0 := by rw [pvSz, if_neg (by simp [e1])]
    rw [e1, e2]
    unfold maxLen at hl
    clear h
    go_enter Try.func9, Try.ntmps9
    go_wp2
    go_ret2
    exact ⟨rfl, rfl⟩
  obtain ⟨b, off, rfl, hc⟩ := h.cells (by omega)
  have hc := hc w (Below.refl _ _)
  have HC := hid hc
  have hle : ∀ i, i ≤ len → pvF X i ≤ 200 := fun i hi => by have := pvF_le X i; omega
  have HLE := hid hle
  have H1 : 1 ≤ len := by omega
  have H2 : len ≤ 8 := by omega
  have e1 : pvOk len X = decide (pvF X len ≤ 24) := by simp [pvOk, H1, H2]
  have HE : Hid ((pvF X len ≤ 24 ∧ pvSz len X = ((pvF X len : Nat) : Int) ∧ pvOk len X = true) ∨ (24 < pvF X len ∧ pvSz len X = 0 ∧ pvOk len X = false)) := by
    by_cases h : pvF X len ≤ 24
    · have e2 := e1.trans (decide_eq_true h)
      exact .inl ⟨h, by rw [pvSz, if_pos e2], e2⟩
    · have e2 := e1.trans (decide_eq_false h)
      exact .inr ⟨by omega, by rw [pvSz, if_neg (by rw [e2]; simp)], e2⟩
  generalize pvSz len X = R at HE ⊢
  generalize pvOk len X = O at HE ⊢
  clear h hc hle e1 h0 h8 hl
  go_enter Try.func9, Try.ntmps9
  go_wp2
  go_loop [4, 5] (fun s i => ∃ k : Nat, k ≤ len ∧ i = .int .i64 k ∧ s = .int .i64 ((pvF X k : Nat) : Int)) (fun _ i => len - (intOf i).toNat)
  case atStart => exact ⟨0, Nat.zero_le _, rfl, rfl⟩
  case round =>
    obtain ⟨k, hk, rfl, hs⟩ := hrel
    by_cases hlt : k < len
    · have hck := HC.out k hlt
      have hb := HLE.out k (by omega)
      have KF := hid (rfar_any (X k) w)
      have hd := pvD_le (X k)
      have HV := hid (show ((pvF X k : Nat) : Int) + ((pvD (X k) : Nat) : Int) = ((pvF X (k + 1) : Nat) : Int) by rw [pvF]; omega)
      generalize X k = x at *
      generalize pvF X k = s0 at *
      generalize pvD x = dd at *
      subst hs
      go_wp2_with (go_at_call 20; (with_reducible refine KF.out.mono ?_); rintro e w1 ⟨rfl, rfl⟩)
      exact ⟨⟨k + 1, by omega, by go_num, congrArg (Value.int .i64) HV.out⟩, by simp [intOf]; omega⟩
    · obtain rfl : k = len := by omega
      have hb := HLE.out k (by omega)
      rcases HE.out with ⟨h24, hR, hO⟩ | ⟨h24, hR, hO⟩
      · subst hR hO
        clear HE
        subst hs
        go_wp2
        go_ret2
        exact ⟨rfl, rfl⟩
      · subst hR hO
        clear HE
        subst hs
        go_wp2
        go_ret2
        exact ⟨rfl, rfl⟩
end Go.Proofs.Ytcjdgcfblilneaa
