/-
  The document's Less.
-/
import Derived.Test.YtcjdgcfblilneaaPVB
namespace Go.Proofs.Ytcjdgcfblilneaa
open Go.ChangeShapes Go.WideShapes Go.ChangeAt Go.RowKit
set_option linter.unusedVariables false

set_option maxRecDepth 100000 in
theorem rless_any (a c : Option Addr) (n cap cap' : Nat) (X Y : Nat → Int) (h1 : 1 ≤ n) (h8 : n ≤ 8) (hX : ∀ p, p < n → (X p).natAbs ≤ 24) (hY : ∀ p, p < n → (Y p).natAbs ≤ 24) (w : World) (h : IsInts w a n cap X) (h' : IsInts w c n cap' Y) :
    Calls Try.prog 17 #[.slice a n cap, .slice c n cap'] w fun e w' => e = .returned (.bool (pvLess X Y n n)) ∧ Below w.heap.size w w' := by
  obtain ⟨b, off, rfl, hc⟩ := h.cells (by omega)
  obtain ⟨d, off', rfl, hd⟩ := h'.cells (by omega)
  have HC := hid hc
  have HD := hid hd
  have HX := hid hX
  have HY := hid hY
  obtain ⟨R, hR⟩ : ∃ R : Bool, R = pvLess X Y n n := ⟨_, rfl⟩
  rw [← hR]
  have HR := hid hR
  have HB := hid (Below.refl w.heap.size w)
  clear h h' hc hd hX hY hR
  go_enter Try.func17, Try.ntmps17
  go_wp2
  go_loopw [5] (fun i wr => ∃ p : Nat, p ≤ n ∧ i = .int .i64 p ∧ Hid (pvLess X Y n (n - p) = R) ∧ Hid (Below w.heap.size w wr)) (fun i _ => n - (intOf i).toNat)
  case atStart => exact ⟨0, Nat.zero_le _, rfl, HR.out.symm, HB.out⟩
  case round =>
    clear HB HR
    obtain ⟨p, hp, rfl, HL, HW⟩ := hrel
    obtain ⟨w5, e5⟩ : ∃ w5, w5 = wr := ⟨_, rfl⟩
    subst e5
    by_cases hlt : p < n
    · obtain ⟨r, hr⟩ : ∃ r, n - p = r + 1 := ⟨n - 1 - p, by omega⟩
      have er : n - 1 - r = p := by omega
      have D1 : Hid (∀ w0 W, Below w.heap.size w w0 → Below w0.heap.size w0 W → W.cell? ⟨b, off + p, none⟩ = some (.int .i64 (X p))) := fun w0 W h0 hW => HC.out W (below_then h0 hW) p hlt
      have D2 : Hid (∀ w0 W, Below w.heap.size w w0 → Below w0.heap.size w0 W → W.cell? ⟨d, off' + p, none⟩ = some (.int .i64 (Y p))) := fun w0 W h0 hW => HD.out W (below_then h0 hW) p hlt
      have hx := HX.out p hlt
      have hy := HY.out p hlt
      have KF : Hid (∀ x : Int, x.natAbs ≤ 24 → ∀ B0 w0 W, Below B0 w0 W → Calls Try.prog 20 #[.int .i64 x] W fun e w' => e = .returned (.int .i64 ((x.natAbs : Nat) : Int)) ∧ Below B0 w0 w') := fun x hx B0 w0 W hW =>
        (rfar_any x W).mono fun e w' ⟨he, hb⟩ => ⟨by rw [he, pvD, if_neg (by omega)], by rw [hb]; exact hW⟩
      have KX := hid (KF.out (X p) hx)
      have KY := hid (KF.out (Y p) hy)
      have hL := HL.out
      rw [hr, pvLess, er] at hL
      have h3 := pvP_lt (X p) (Y p)
      generalize X p = x at *
      generalize Y p = y at *
      clear KF HC HD HX HY
      by_cases hxy : x = y
      · rw [if_pos hxy] at hL
        have HL2 := hid hL
        subst hxy
        clear hL h3 KX KY
        go_wp2
        refine region_below (by kernel_rfl) (by kernel_rfl) ?_
        repeat (go_big_quiet_step (first
          | (intro hq; rfl)
          | (intro hq; rw [D1.out _ _ HW.out hq]; exact ⟨rfl, rfl⟩)
          | (intro hq; rw [D2.out _ _ HW.out hq]; exact ⟨rfl, rfl⟩)))
        refine wpQuiet_nil ?_
        intro w6 hw6
        have HW6 := hid (below_then HW.out hw6)
        clear hw6 D1 D2
        go_wp2
        exact ⟨⟨p + 1, by omega, by go_num, by rw [show n - (p + 1) = r by omega]; exact HL2, HW6⟩, by simp [intOf]; omega⟩
      · rw [if_neg hxy] at hL
        have hne : (x == y) = false := by simpa using hxy
        have HL2 := hid hL
        have H3 := hid h3
        have HNE := hid hxy
        clear hL h3 hxy
        go_wp2
        refine region_below (by kernel_rfl) (by kernel_rfl) ?_
        repeat (go_big_quiet_step (first
          | (intro hq; rfl)
          | (intro hq; rw [D1.out _ _ HW.out hq]; exact ⟨rfl, rfl⟩)
          | (intro hq; rw [D2.out _ _ HW.out hq]; exact ⟨rfl, rfl⟩)))
        refine wpQuiet_nil ?_
        intro w6 hw6
        have HW6 := hid (below_then HW.out hw6)
        clear hw6
        go_wp2
        refine region_below (by kernel_rfl) (by kernel_rfl) ?_
        repeat (go_big_quiet_step (first
          | (intro hq; rfl)
          | (intro hq; rw [D1.out _ _ HW6.out hq]; exact ⟨rfl, rfl⟩)
          | (intro hq; rw [D2.out _ _ HW6.out hq]; exact ⟨rfl, rfl⟩)
          | (intro hq; go_at_call 20; (with_reducible exact KX.out _ _ _ hq))
          | (intro hq; go_at_call 20; (with_reducible exact KY.out _ _ _ hq))))
        refine wpQuiet_nil ?_
        intro w7 hw7
        have HW7 := hid (below_then HW6.out hw7)
        clear hw7
        by_cases hab : x.natAbs = y.natAbs
        · have hb9 : (((x.natAbs : Nat) : Int) != ((y.natAbs : Nat) : Int)) = false := by rw [hab]; simp
          have HE : Hid (decide (y < x) = R) := by
            show _ = _
            rw [← HL2.out]
            exact decide_eq_decide.2 ⟨fun h => H3.out.2 (.inr ⟨hab, h⟩), fun h => (H3.out.1 h).elim (fun h => by omega) (fun h => h.2)⟩
          clear hab
          go_wp2
          refine region_below (by kernel_rfl) (by kernel_rfl) ?_
          repeat (go_big_quiet_step (first
            | (intro hq; rfl)
            | (intro hq; rw [D1.out _ _ HW7.out hq]; exact ⟨rfl, rfl⟩)
            | (intro hq; rw [D2.out _ _ HW7.out hq]; exact ⟨rfl, rfl⟩)))
          refine wpQuiet_nil ?_
          intro w8 hw8
          have HW8 := hid (below_then HW7.out hw8)
          clear hw8
          go_wp2
          go_ret
          exact ⟨ret_bool HE.out, HW8.out⟩
        · have hb9 : (((x.natAbs : Nat) : Int) != ((y.natAbs : Nat) : Int)) = true := by simp; omega
          have HE : Hid (decide (x.natAbs < y.natAbs) = R) := by
            show _ = _
            rw [← HL2.out]
            exact decide_eq_decide.2 ⟨fun h => H3.out.2 (.inl (by omega)), fun h => (H3.out.1 h).elim (fun h => by omega) (fun h => absurd h.1 hab)⟩
          clear hab
          go_wp2
          refine region_below (by kernel_rfl) (by kernel_rfl) ?_
          repeat (go_big_quiet_step (first
            | (intro hq; rfl)
            | (intro hq; rw [D1.out _ _ HW7.out hq]; exact ⟨rfl, rfl⟩)
            | (intro hq; rw [D2.out _ _ HW7.out hq]; exact ⟨rfl, rfl⟩)
            | (intro hq; go_at_call 20; (with_reducible exact KX.out _ _ _ hq))
            | (intro hq; go_at_call 20; (with_reducible exact KY.out _ _ _ hq))))
          refine wpQuiet_nil ?_
          intro w8 hw8
          have HW8 := hid (below_then HW7.out hw8)
          clear hw8
          go_wp2
          go_ret
          exact ⟨ret_bool HE.out, HW8.out⟩
    · obtain rfl : p = n := by omega
      have hL := HL.out
      rw [Nat.sub_self] at hL
      have hL2 : R = false := hL.symm
      subst hL2
      clear hL
      go_wp2
      go_ret
      exact ⟨rfl, HW.out⟩
end Go.Proofs.Ytcjdgcfblilneaa
