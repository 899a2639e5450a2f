/-
  The document's Exact.
-/
import Derived.Test.YtfhcfdepjhdhfaaDoorYB
import Derived.Test.YtfhcfdepjhdhfaaDoorZM
import Derived.Test.YtfhcfdepjhdhfaaDoorZD
namespace Go.Proofs.YtfhcfdepjhdhfaaDoor
open Go.ChangeShapes Go.WideShapes Go.ChangeAt Go.RowKit
set_option linter.unusedVariables false

/-- The exact sums, in parts of 2^20 of a sample. -/
def exF (n n' : Nat) (X Y : Nat → Int) (i : Nat) : Int :=
  if i < 4 then partF n (wF (7 - i)) (xsum n X (n - 4 + i)) + partF n' (wF i) (xsum n' Y (3 - i))
  else if i < 8 then partF n (-wF (7 - i)) (xsum n X (n + 3 - i)) + partF n' (wF i) (xsum n' Y (i - 4))
  else partF n' 32768 (xsum n' Y (i - 4))
theorem part_bd {n : Nat} (hn : IsN n) {w s : Int} (h1 : -32768 ≤ w) (h2 : w ≤ 32768) (h3 : -72057594037927936 ≤ s) (h4 : s ≤ 72057594037927936) : -1125899906842624 ≤ partF n w s ∧ partF n w s ≤ 1125899906842624 := by
  have b := mul_bd (x := w) (y := s) (a := 32768) (b := 72057594037927936) h1 h2 h3 h4
  unfold partF dB
  generalize w * s = x at *
  split <;> omega
set_option maxRecDepth 100000 in
set_option maxHeartbeats 4000000 in
theorem rexact_any {n n' : Nat} (hN : IsN n) (hN' : IsN n') (a a' : Option Addr) (cap cap' : Nat) (X Y : Nat → Int) (hX : ∀ i, i < n → -33554432 ≤ X i ∧ X i ≤ 33554432) (hY : ∀ i, i < n' → -33554432 ≤ Y i ∧ Y i ≤ 33554432) (w : World) (h : IsInts w a n cap X) (h' : IsInts w a' n' cap' Y) :
    Calls Tryd.prog 18 #[.slice a n cap, .slice a' n' cap'] w (OPost n' (exF n n' X Y) w) := by
  obtain ⟨i0, hi, hz0, hz1, hz2⟩ := infoI
  have HI : Hid (Tryd.prog.info? 3 = some i0) := hi
  have K := hid (rsums12_any hN a cap X hX w h)
  have H' := hid h'
  have HY := hid hY
  have hge := hN.ge
  have hle := hN.le
  have hge' := hN'.ge
  have hle' := hN'.le
  have HN := hid hN
  have HN' := hid hN'
  have HA0 : Hid (∀ k, -72057594037927936 ≤ xsum n X k ∧ xsum n X k ≤ 72057594037927936) := fun k => by have := xsum_bd hX k; omega
  have HB0 : Hid (∀ k, -72057594037927936 ≤ xsum n' Y k ∧ xsum n' Y k ≤ 72057594037927936) := fun k => by have := xsum_bd hY k; omega
  clear hi h h' hX hY hN hN'
  go_enter Tryd.func18, Tryd.ntmps18
  go_wp2_with (fail)
  refine Calls.mono K.out ?_
  rintro e w1 ⟨a1, c1, rfl, i1, b1⟩
  have K2 := hid (rsums12_any HN'.out a' cap' Y HY.out w1 (H'.out.below b1))
  have B1 := hid b1
  obtain ⟨ab, ao, rfl, hac⟩ := i1.cells (by omega)
  have HAC := hid hac
  clear i1 b1 hac K
  go_wp2_with (fail)
  refine Calls.mono K2.out ?_
  rintro e w2 ⟨a2, c2, rfl, i2, b2⟩
  obtain ⟨bb, bo, rfl, hbc⟩ := i2.cells (by omega)
  have HBC := hid hbc
  have B2 := hid b2
  clear i2 b2 hbc K2
  go_wp2_with (fail)
  refine (rW_any _).mono ?_
  rintro e w3 ⟨rfl, rfl⟩
  have HV := hid (show RowAt w2.heap.size 8 wF (w2.alloc (.cells (rowA 8 wF) 3)) ∧ Below w2.heap.size w2 (w2.alloc (.cells (rowA 8 wF) 3)) from ⟨al_new w2 _, (Below.refl _ w2).alloc (Nat.le_refl _) _⟩)
  generalize w2.alloc (.cells (rowA 8 wF) 3) = W0 at HV ⊢
  generalize hv : w2.heap.size = v at HV ⊢
  have HVE := hid hv
  clear hv
  obtain ⟨B, hB⟩ : ∃ B, B = W0.heap.size := ⟨_, rfl⟩
  have HB := hid hB
  have D1 : Hid (∀ W, Below B W0 W → ∀ i, i < n → W.cell? ⟨ab, ao + i, none⟩ = some (.int .i64 (xsum n X i))) := fun W hW i hi => HAC.out W (below_then B2.out (by rw [HVE.out]; exact HV.out.2.trans (hW.mono (by rw [hB]; exact HV.out.1 |> fun h => Nat.le_of_lt (RowAt.lt h))))) i hi
  have D2 : Hid (∀ W, Below B W0 W → ∀ i, i < n' → W.cell? ⟨bb, bo + i, none⟩ = some (.int .i64 (xsum n' Y i))) := fun W hW i hi => HBC.out W (by rw [HVE.out]; exact HV.out.2.trans (hW.mono (by rw [hB]; exact Nat.le_of_lt (RowAt.lt HV.out.1)))) i hi
  have D3 : Hid (∀ W, Below B W0 W → ∀ i, i < 8 → W.cell? ⟨v, i, none⟩ = some (.int .i64 (wF i))) := fun W hW i hi => (RowAt.below HV.out.1 (by rw [← hB]; exact hW)).get hi
  have HE : Hid (∀ W, Below B W0 W → Below w.heap.size w W) := fun W hW => below_then B1.out (below_then B2.out (by rw [HVE.out]; exact HV.out.2.trans (hW.mono (by rw [hB]; exact Nat.le_of_lt (RowAt.lt HV.out.1)))))
  have HEB : Hid (w.heap.size ≤ B) := by
    have h1 := B1.out.size
    have h2 := B2.out.size
    have h3 := HV.out.2.size
    have h4 := HVE.out
    show w.heap.size ≤ B
    rw [hB]
    have h5 := RowAt.lt HV.out.1
    omega
  clear HAC HBC HV hB B1 B2
  have KP : Hid (∀ p s, (-32768 ≤ p ∧ p ≤ 32768) → (-72057594037927936 ≤ s ∧ s ≤ 72057594037927936) → ∀ W, Calls Tryd.prog 38 #[.int .i64 p, .int .i64 s, .int .i64 (byB n)] W fun e w' => e = .returned (.int .i64 (partF n p s)) ∧ Below W.heap.size W w') := fun p s hp hs W => rparts12_any HN.out p s hp hs W
  have KQ : Hid (∀ p s, (-32768 ≤ p ∧ p ≤ 32768) → (-72057594037927936 ≤ s ∧ s ≤ 72057594037927936) → ∀ W, Calls Tryd.prog 38 #[.int .i64 p, .int .i64 s, .int .i64 (byB n')] W fun e w' => e = .returned (.int .i64 (partF n' p s)) ∧ Below W.heap.size W w') := fun p s hp hs W => rparts12_any HN'.out p s hp hs W
  have PP : Hid (∀ p s, (-32768 ≤ p ∧ p ≤ 32768) → (-72057594037927936 ≤ s ∧ s ≤ 72057594037927936) → -1125899906842624 ≤ partF n p s ∧ partF n p s ≤ 1125899906842624) := fun p s hp hs => part_bd HN.out hp.1 hp.2 hs.1 hs.2
  have PQ : Hid (∀ p s, (-32768 ≤ p ∧ p ≤ 32768) → (-72057594037927936 ≤ s ∧ s ≤ 72057594037927936) → -1125899906842624 ≤ partF n' p s ∧ partF n' p s ≤ 1125899906842624) := fun p s hp hs => part_bd HN'.out hp.1 hp.2 hs.1 hs.2
  generalize byB n = by1 at *
  generalize byB n' = by2 at *
  go_wp2
  go_loopw [10, 11] (fun o i wr => ∃ k : Nat, k ≤ 4 ∧ i = .int .i64 k ∧ Hid (wr.ownsRow B 3 1 o k (intL k (exF n n' X Y))) ∧ Hid (Below B W0 wr) ∧ Hid (B ≤ wr.heap.size)) (fun _ i _ => 4 - (intOf i).toNat)
  case atStart => exact ⟨0, by omega, rfl, World.ownsRow_nil _ _ _ _, by rw [HB.out]; exact Below.refl _ _, by rw [HB.out]; exact Nat.le_refl _⟩
  case round =>
    obtain ⟨k, hk, rfl, HO, HW, HZ⟩ := hrel
    by_cases hlt : k < 4
    · have d1 : ∀ W, Below wr.heap.size wr W → W.cell? ⟨v, 7 - k, none⟩ = some (.int .i64 (wF (7 - k))) := fun W hW => D3.out W (HW.out.trans (hW.mono HZ.out)) _ (by omega)
      have d2 : ∀ W, Below wr.heap.size wr W → W.cell? ⟨ab, ao + (n - 4 + k), none⟩ = some (.int .i64 (xsum n X (n - 4 + k))) := fun W hW => D1.out W (HW.out.trans (hW.mono HZ.out)) _ (by omega)
      have d3 : ∀ W, Below wr.heap.size wr W → W.cell? ⟨v, k, none⟩ = some (.int .i64 (wF k)) := fun W hW => D3.out W (HW.out.trans (hW.mono HZ.out)) _ (by omega)
      have d4 : ∀ W, Below wr.heap.size wr W → W.cell? ⟨bb, bo + (3 - k), none⟩ = some (.int .i64 (xsum n' Y (3 - k))) := fun W hW => D2.out W (HW.out.trans (hW.mono HZ.out)) _ (by omega)
      have x1 : (7 : Int) - (k : Int) = ((7 - k : Nat) : Int) := by omega
      have x2 : (n : Int) - 4 + (k : Int) = ((n - 4 + k : Nat) : Int) := by omega
      have x3 : (3 : Int) - (k : Int) = ((3 - k : Nat) : Int) := by omega
      have y1 : 7 - k < 8 := by omega
      have y2 : n - 4 + k < n := by omega
      have y3 : 3 - k < n' := by omega
      have u1 : -32768 ≤ wF (7 - k) ∧ wF (7 - k) ≤ 32768 := by have := wF_bd (7 - k); omega
      have u2 : -32768 ≤ wF k ∧ wF k ≤ 32768 := by have := wF_bd k; omega
      have K1 : Hid (∀ W, Below wr.heap.size wr W → Calls Tryd.prog 38 #[.int .i64 (wF (7 - k)), .int .i64 (xsum n X (n - 4 + k)), .int .i64 by1] W fun e w' => e = .returned (.int .i64 (partF n (wF (7 - k)) (xsum n X (n - 4 + k)))) ∧ Below wr.heap.size wr w') := fun W hW => (KP.out _ _ u1 (HA0.out _) W).mono fun e w' ⟨he, hb⟩ => ⟨he, below_then hW hb⟩
      have K2 : Hid (∀ W, Below wr.heap.size wr W → Calls Tryd.prog 38 #[.int .i64 (wF k), .int .i64 (xsum n' Y (3 - k)), .int .i64 by2] W fun e w' => e = .returned (.int .i64 (partF n' (wF k) (xsum n' Y (3 - k)))) ∧ Below wr.heap.size wr w') := fun W hW => (KQ.out _ _ u2 (HB0.out _) W).mono fun e w' ⟨he, hb⟩ => ⟨he, below_then hW hb⟩
      have p1 := PP.out _ _ u1 (HA0.out (n - 4 + k))
      have p2 := PQ.out _ _ u2 (HB0.out (3 - k))
      have HEX : exF n n' X Y k = partF n (wF (7 - k)) (xsum n X (n - 4 + k)) + partF n' (wF k) (xsum n' Y (3 - k)) := by rw [exF, if_pos hlt]
      generalize partF n (wF (7 - k)) (xsum n X (n - 4 + k)) = q1 at *
      generalize partF n' (wF k) (xsum n' Y (3 - k)) = q2 at *
      have m1 : wrap64 (q1 + q2) = q1 + q2 := wr_in (by omega) (by omega)
      obtain ⟨c, hc⟩ : ∃ c, c = q1 + q2 := ⟨_, rfl⟩
      have HCC := hid (hc.trans HEX.symm)
      rw [← hc] at m1
      have hqc : q1 + q2 = c := hc.symm
      clear HEX p1 p2 u1 u2 hc
      generalize xsum n X (n - 4 + k) = s1 at *
      generalize xsum n' Y (3 - k) = s2 at *
      generalize wF (7 - k) = g1 at *
      generalize wF k = g2 at *
      generalize 7 - k = z1 at *
      generalize n - 4 + k = z2 at *
      generalize 3 - k = z3 at *
      go_wp2
      refine wp_region_held_drew (S := fun _ => True) (by kernel_rfl) trivial (fun _ => ?_)
      refine wpAnyH_take (i := 0) (v := u10) rfl (by kernel_rfl) (by kernel_rfl) (by kernel_rfl) (fun _ _ _ h => h) (Or.inl ⟨by rfl, ?_⟩) trivial ?_
      · intro wz _; simp only [List.getElem_toArray, List.getElem_cons_zero]; go_simp; try (with_reducible rfl)
      simp only [List.getElem_toArray, List.getElem_cons_zero, Act.put, List.setIfInBounds_toArray, List.set_cons_zero, List.set_cons_succ]
      refine' anyH_tail (C := Below wr.heap.size wr) 1 28 (by kernel_rfl) (by kernel_rfl) (by kernel_rfl) (by decide) (by decide) (by kernel_rfl) (by kernel_rfl) (Below.refl _ _).drew (Qa := fun a' => a' = _) ?_ ?_
      rotate_left
      · dsimp only [idleTail, idleN, List.drop]
        repeat (go_big_quiet_step (first
          | (intro hq; rfl)
          | (intro hq; rw [d1 _ hq]; exact ⟨rfl, rfl⟩)
          | (intro hq; rw [d2 _ hq]; exact ⟨rfl, rfl⟩)
          | (intro hq; rw [d3 _ hq]; exact ⟨rfl, rfl⟩)
          | (intro hq; rw [d4 _ hq]; exact ⟨rfl, rfl⟩)
          | (intro hq; go_at_call 38; (with_reducible exact K1.out _ hq))
          | (intro hq; go_at_call 38; (with_reducible exact K2.out _ hq))))
        refine wpQuiet_nil ?_
        exact rfl
      · rintro a' w2 hb2 rfl
        dsimp only [List.drop]
        have HB2 := hid (HW.out.trans (hb2.mono HZ.out))
        have HZ2 := hid (Nat.le_trans HZ.out hb2.size)
        have HO2 := hid (owns_below HO.out hb2)
        clear hb2 HO HW HZ d1 d2 d3 d4 K1 K2
        have HA : Hid ((w2.alloc (.cells #[.int .i64 c] 3)).ownsRow B 3 1 u10 k (intL k (exF n n' X Y))) := HO2.out.alloc _
        have HS : Hid (B ≤ (w2.alloc (.cells #[.int .i64 c] 3)).heap.size) := Nat.le_trans HZ2.out (by simp)
        go_wp2_with (at_builtin; refine wpList_append_lies _ rfl _ _ _ rfl B 3 i0 (.int .i64 0) 1 8 Tryd.underlying23 HI.out hz0 hz1 hz2 rfl (by omega) _ _ _ rfl HA.out ⟨w2.heap.size, 0, none⟩ 1 1 [.int .i64 c] rfl rfl (World.news_of_block (cs := #[.int .i64 c]) (heap_alloc_new w2 _)) (by intro u hu; simp at hu; subst hu; rfl) (by omega) (by unfold maxLen; omega) (by omega) HS.out _ rfl ?_)
        intro gg cap1 w4 hown hgr _ _
        obtain ⟨o1, o2, o3⟩ := oi_step HO2.out HB2.out HZ2.out HCC.out hown hgr
        have O1 := hid o1
        have O2 := hid o2
        have O3 := hid o3
        clear hown hgr o1 o2 o3 HA HS
        go_wp2
        exact ⟨⟨k + 1, by omega, by go_num, O1, O2, O3⟩, by simp [intOf]; omega⟩
    · obtain rfl : k = 4 := by omega
      rw [show ((4 : Nat) : Int) = (4 : Int) from rfl]
      go_wp2
      go_loopw [10, 12] (fun o i wr => ∃ k : Nat, 4 ≤ k ∧ k ≤ 8 ∧ i = .int .i64 k ∧ Hid (wr.ownsRow B 3 1 o k (intL k (exF n n' X Y))) ∧ Hid (Below B W0 wr) ∧ Hid (B ≤ wr.heap.size)) (fun _ i _ => 8 - (intOf i).toNat)
      case atStart => exact ⟨4, by omega, by omega, rfl, HO, HW, HZ⟩
      case round =>
        clear HO HW HZ
        obtain ⟨k, hk4, hk, rfl, HO, HW, HZ⟩ := hrel
        by_cases hlt : k < 8
        · have d1 : ∀ W, Below wr.heap.size wr W → W.cell? ⟨v, 7 - k, none⟩ = some (.int .i64 (wF (7 - k))) := fun W hW => D3.out W (HW.out.trans (hW.mono HZ.out)) _ (by omega)
          have d2 : ∀ W, Below wr.heap.size wr W → W.cell? ⟨ab, ao + (n + 3 - k), none⟩ = some (.int .i64 (xsum n X (n + 3 - k))) := fun W hW => D1.out W (HW.out.trans (hW.mono HZ.out)) _ (by omega)
          have d3 : ∀ W, Below wr.heap.size wr W → W.cell? ⟨v, k, none⟩ = some (.int .i64 (wF k)) := fun W hW => D3.out W (HW.out.trans (hW.mono HZ.out)) _ (by omega)
          have d4 : ∀ W, Below wr.heap.size wr W → W.cell? ⟨bb, bo + (k - 4), none⟩ = some (.int .i64 (xsum n' Y (k - 4))) := fun W hW => D2.out W (HW.out.trans (hW.mono HZ.out)) _ (by omega)
          have x1 : (7 : Int) - (k : Int) = ((7 - k : Nat) : Int) := by omega
          have x2 : (n : Int) + 3 - (k : Int) = ((n + 3 - k : Nat) : Int) := by omega
          have x3 : (k : Int) - 4 = ((k - 4 : Nat) : Int) := by omega
          have y1 : 7 - k < 8 := by omega
          have y2 : n + 3 - k < n := by omega
          have y3 : k - 4 < n' := by omega
          have u1 : -32768 ≤ -wF (7 - k) ∧ -wF (7 - k) ≤ 32768 := by have := wF_bd (7 - k); omega
          have u2 : -32768 ≤ wF k ∧ wF k ≤ 32768 := by have := wF_bd k; omega
          have K1 : Hid (∀ W, Below wr.heap.size wr W → Calls Tryd.prog 38 #[.int .i64 (-wF (7 - k)), .int .i64 (xsum n X (n + 3 - k)), .int .i64 by1] W fun e w' => e = .returned (.int .i64 (partF n (-wF (7 - k)) (xsum n X (n + 3 - k)))) ∧ Below wr.heap.size wr w') := fun W hW => (KP.out _ _ u1 (HA0.out _) W).mono fun e w' ⟨he, hb⟩ => ⟨he, below_then hW hb⟩
          have K2 : Hid (∀ W, Below wr.heap.size wr W → Calls Tryd.prog 38 #[.int .i64 (wF k), .int .i64 (xsum n' Y (k - 4)), .int .i64 by2] W fun e w' => e = .returned (.int .i64 (partF n' (wF k) (xsum n' Y (k - 4)))) ∧ Below wr.heap.size wr w') := fun W hW => (KQ.out _ _ u2 (HB0.out _) W).mono fun e w' ⟨he, hb⟩ => ⟨he, below_then hW hb⟩
          have p1 := PP.out _ _ u1 (HA0.out (n + 3 - k))
          have p2 := PQ.out _ _ u2 (HB0.out (k - 4))
          have HEX : exF n n' X Y k = partF n (-wF (7 - k)) (xsum n X (n + 3 - k)) + partF n' (wF k) (xsum n' Y (k - 4)) := by rw [exF, if_neg (by omega), if_pos hlt]
          generalize partF n (-wF (7 - k)) (xsum n X (n + 3 - k)) = q1 at *
          generalize partF n' (wF k) (xsum n' Y (k - 4)) = q2 at *
          have m1 : wrap64 (q1 + q2) = q1 + q2 := wr_in (by omega) (by omega)
          obtain ⟨c, hc⟩ : ∃ c, c = q1 + q2 := ⟨_, rfl⟩
          have HCC := hid (hc.trans HEX.symm)
          rw [← hc] at m1
          have hqc : q1 + q2 = c := hc.symm
          have m0 : wrap64 (-wF (7 - k)) = -wF (7 - k) := wr_in (by omega) (by omega)
          clear HEX p1 p2 u1 u2 hc
          generalize xsum n X (n + 3 - k) = s1 at *
          generalize xsum n' Y (k - 4) = s2 at *
          generalize wF (7 - k) = g1 at *
          generalize wF k = g2 at *
          generalize 7 - k = z1 at *
          generalize n + 3 - k = z2 at *
          generalize k - 4 = z3 at *
          go_wp2
          refine wp_region_held_drew (S := fun _ => True) (by kernel_rfl) trivial (fun _ => ?_)
          refine wpAnyH_take (i := 0) (v := u10) rfl (by kernel_rfl) (by kernel_rfl) (by kernel_rfl) (fun _ _ _ h => h) (Or.inl ⟨by rfl, ?_⟩) trivial ?_
          · intro wz _; simp only [List.getElem_toArray, List.getElem_cons_zero]; go_simp; try (with_reducible rfl)
          simp only [List.getElem_toArray, List.getElem_cons_zero, Act.put, List.setIfInBounds_toArray, List.set_cons_zero, List.set_cons_succ]
          refine' anyH_tail (C := Below wr.heap.size wr) 1 29 (by kernel_rfl) (by kernel_rfl) (by kernel_rfl) (by decide) (by decide) (by kernel_rfl) (by kernel_rfl) (Below.refl _ _).drew (Qa := fun a' => a' = _) ?_ ?_
          rotate_left
          · dsimp only [idleTail, idleN, List.drop]
            repeat (go_big_quiet_step (first
              | (intro hq; rfl)
              | (intro hq; rw [d1 _ hq]; exact ⟨rfl, rfl⟩)
              | (intro hq; rw [d2 _ hq]; exact ⟨rfl, rfl⟩)
              | (intro hq; rw [d3 _ hq]; exact ⟨rfl, rfl⟩)
              | (intro hq; rw [d4 _ hq]; exact ⟨rfl, rfl⟩)
              | (intro hq; go_at_call 38; (with_reducible exact K1.out _ hq))
              | (intro hq; go_at_call 38; (with_reducible exact K2.out _ hq))))
            refine wpQuiet_nil ?_
            exact rfl
          · rintro a' w2 hb2 rfl
            dsimp only [List.drop]
            have HB2 := hid (HW.out.trans (hb2.mono HZ.out))
            have HZ2 := hid (Nat.le_trans HZ.out hb2.size)
            have HO2 := hid (owns_below HO.out hb2)
            clear hb2 HO HW HZ d1 d2 d3 d4 K1 K2
            have HA : Hid ((w2.alloc (.cells #[.int .i64 c] 3)).ownsRow B 3 1 u10 k (intL k (exF n n' X Y))) := HO2.out.alloc _
            have HS : Hid (B ≤ (w2.alloc (.cells #[.int .i64 c] 3)).heap.size) := Nat.le_trans HZ2.out (by simp)
            go_wp2_with (at_builtin; refine wpList_append_lies _ rfl _ _ _ rfl B 3 i0 (.int .i64 0) 1 8 Tryd.underlying23 HI.out hz0 hz1 hz2 rfl (by omega) _ _ _ rfl HA.out ⟨w2.heap.size, 0, none⟩ 1 1 [.int .i64 c] rfl rfl (World.news_of_block (cs := #[.int .i64 c]) (heap_alloc_new w2 _)) (by intro u hu; simp at hu; subst hu; rfl) (by omega) (by unfold maxLen; omega) (by omega) HS.out _ rfl ?_)
            intro gg cap1 w4 hown hgr _ _
            obtain ⟨o1, o2, o3⟩ := oi_step HO2.out HB2.out HZ2.out HCC.out hown hgr
            have O1 := hid o1
            have O2 := hid o2
            have O3 := hid o3
            clear hown hgr o1 o2 o3 HA HS
            go_wp2
            exact ⟨⟨k + 1, by omega, by omega, by go_num, O1, O2, O3⟩, by simp [intOf]; omega⟩
        · obtain rfl : k = 8 := by omega
          rw [show ((8 : Nat) : Int) = (8 : Int) from rfl]
          go_wp2
          go_loopw [10, 13] (fun o i wr => ∃ k : Nat, 4 ≤ k ∧ k + 4 ≤ n' ∧ i = .int .i64 k ∧ Hid (wr.ownsRow B 3 1 o (k + 4) (intL (k + 4) (exF n n' X Y))) ∧ Hid (Below B W0 wr) ∧ Hid (B ≤ wr.heap.size)) (fun _ i _ => n' - (intOf i).toNat)
          case atStart => exact ⟨4, by omega, by omega, rfl, HO, HW, HZ⟩
          case round =>
            clear HO HW HZ
            obtain ⟨k, hk4, hk, rfl, HO, HW, HZ⟩ := hrel
            by_cases hlt : k + 4 < n'
            · have hd : (k : Int) < (n' : Int) - 4 := by omega
              have d1 := D2.out _ HW.out k (by omega)
              have u1 : (-32768 : Int) ≤ 32768 ∧ (32768 : Int) ≤ 32768 := by omega
              have K1 := hid (KQ.out 32768 (xsum n' Y k) u1 (HB0.out _) wr)
              obtain ⟨c, hc⟩ : ∃ c, c = partF n' 32768 (xsum n' Y k) := ⟨_, rfl⟩
              rw [← hc] at K1
              have HCC : Hid (c = exF n n' X Y (k + 4)) := by
                show c = _
                rw [exF, if_neg (by omega), if_neg (by omega), show k + 4 - 4 = k by omega]; exact hc
              have hkn : k < n' := by omega
              clear hc
              go_wp2_with (first
                | (go_at_call 38; refine Calls.mono K1.out ?_; rintro e w2 ⟨rfl, hb2⟩
                   have HB2 := hid (HW.out.trans (hb2.mono HZ.out))
                   have HZ2 := hid (Nat.le_trans HZ.out hb2.size)
                   have HO2 := hid (owns_below HO.out hb2)
                   have HA : Hid ((w2.alloc (.cells #[.int .i64 c] 3)).ownsRow B 3 1 u10 (k + 4) (intL (k + 4) (exF n n' X Y))) := HO2.out.alloc _
                   have HS : Hid (B ≤ (w2.alloc (.cells #[.int .i64 c] 3)).heap.size) := Nat.le_trans HZ2.out (by simp)
                   clear hb2 HO HW HZ d1 K1)
                | (at_builtin; refine wpList_append_lies _ rfl _ _ _ rfl B 3 i0 (.int .i64 0) 1 8 Tryd.underlying23 HI.out hz0 hz1 hz2 rfl (by omega) _ _ _ rfl HA.out ⟨w2.heap.size, 0, none⟩ 1 1 [.int .i64 c] rfl rfl (World.news_of_block (cs := #[.int .i64 c]) (heap_alloc_new w2 _)) (by intro u hu; simp at hu; subst hu; rfl) (by omega) (by unfold maxLen; omega) (by omega) HS.out _ rfl ?_))
              intro gg cap1 w4 hown hgr _ _
              obtain ⟨o1, o2, o3⟩ := oi_step HO2.out HB2.out HZ2.out HCC.out hown hgr
              have O1 := hid o1
              have O2 := hid o2
              have O3 := hid o3
              clear hown hgr o1 o2 o3 HA HS
              go_wp2
              exact ⟨⟨k + 1, by omega, by omega, by go_num, by rw [show k + 1 + 4 = k + 4 + 1 by omega]; exact O1, O2, O3⟩, by simp [intOf]; omega⟩
            · obtain rfl : n' = k + 4 := by omega
              have hd : ¬ ((k : Int) < ((k + 4 : Nat) : Int) - 4) := by omega
              obtain ⟨a1, c1, rfl, i1⟩ := own_ints HO.out
              have I1 := hid i1
              clear i1
              go_wp2
              go_ret
              exact ⟨a1, c1, rfl, I1.out, HE.out _ HW.out, fun x hx => Nat.le_trans HEB.out (own_new HO.out x hx)⟩
end Go.Proofs.YtfhcfdepjhdhfaaDoor
