/-
  The document's Join.
-/
import Derived.Test.YtmeldmmeaiiflaaDoorLYB
import Derived.Test.YtmeldmmeaiiflaaDoorSA
import Derived.Test.YtmeldmmeaiiflaaDoorIL
namespace Go.Proofs.YtmeldmmeaiiflaaDoor
open Go.ChangeShapes Go.WideShapes Go.ChangeAt Go.RowKit
set_option linter.unusedVariables false

/-- The 64 numbers of the bands' lists. -/
def joinF (Y : Nat → Nat → Int) (i : Nat) : Int := Y (ofF (i : Int)).toNat (i - begN (ofF (i : Int)).toNat)
theorem joinF_at (Y : Nat → Nat → Int) {b i : Nat} (hb : b < 13) (hi : i < widN b) : joinF Y (begN b + i) = Y b i := by
  have h := of_in hb (k := ((begN b + i : Nat) : Int)) (by omega) (by omega)
  rw [joinF, h, Int.toNat_natCast, Nat.add_sub_cancel_left]
/-- The list of a band, in whatever world behind. -/
theorem join_row {w : World} {a : Option Addr} {cap : Nat} {N : Nat → Nat} {Y : Nat → Nat → Int} (h : IsListsV w a 13 cap N Y) :
    ∃ b off, a = some ⟨b, off, none⟩ ∧ ∀ i, i < 13 → ∃ ai ci, (∀ W, Below w.heap.size w W → W.cell? ⟨b, off + i, none⟩ = some (.slice ai (N i) ci)) ∧ ∀ W, Below w.heap.size w W → IsInts W ai (N i) ci (Y i) := by
  obtain ⟨b, off, e, _, h2⟩ := h.get (by omega)
  exact ⟨b, off, e, h2⟩
theorem rjoin_any (good : Bool) (b1 : Nat) (hb1 : b1 ≤ 13) (a : Option Addr) (cap : Nat) (N : Nat → Nat) (Y : Nat → Nat → Int) (hl : ∀ i, i < b1 → N i = widN i) (hg : good = true → b1 = 13) (hbad : good = false → b1 < 13 ∧ N b1 ≠ widN b1 ∧ N b1 ≤ maxLen) (w : World) (h : IsListsV w a 13 cap N Y) :
    Calls Tryd.prog 17 #[.slice a 13 cap] w fun e w' => (if good then (∃ a' cap', e = .returned (.slice a' 64 cap') ∧ IsInts w' a' 64 cap' (joinF Y)) else e = .returned (.slice none 0 0)) ∧ Below w.heap.size w w' := by
  obtain ⟨i0, hi, hz0, hz1, hz2⟩ := infoI
  have HI : Hid (Tryd.prog.info? 3 = some i0) := hi
  obtain ⟨lb, lo, rfl, hc⟩ := join_row h
  have HC := hid hc
  have HLN := hid hl
  have HG := hid hg
  have HBD := hid hbad
  obtain ⟨B, hB⟩ : ∃ B, B = w.heap.size := ⟨_, rfl⟩
  have HB := hid hB
  rw [← hB] at HC
  clear h hi hB hc hl hg hbad
  go_enter Tryd.func17, Tryd.ntmps17
  go_wp2
  go_loopw [3, 4] (fun o i wr => ∃ k : Nat, k ≤ b1 ∧ i = .int .i64 k ∧ Hid (wr.ownsRow B 3 1 o (begN k) (intL (begN k) (joinF Y))) ∧ Hid (Below B w wr) ∧ Hid (B ≤ wr.heap.size)) (fun _ i _ => b1 - (intOf i).toNat)
  case atStart => exact ⟨0, by omega, rfl, World.ownsRow_nil _ _ _ _, by rw [HB.out]; exact Below.refl _ _, by rw [HB.out]; exact Nat.le_refl _⟩
  case round =>
    obtain ⟨k, hk, rfl, HO, HW, HZ⟩ := hrel
    by_cases hk13 : k < 13
    · obtain ⟨ai, ci, c1, i1⟩ := HC.out k hk13
      have hca := fun V (hV : Below wr.heap.size wr V) => c1 V (HW.out.trans (hV.mono HZ.out))
      have HCA := hid hca
      have KW := hid (fun V (hV : Below wr.heap.size wr V) => (rwidth_nat (b := k) hk13 V).mono (fun e w' h => (⟨h.1, by rw [h.2]; exact hV⟩ : e = .returned (.int .i64 ((widN k : Nat) : Int)) ∧ Below wr.heap.size wr w')))
      by_cases hlt : k < b1
      · have hNk := HLN.out k hlt
        have hw := widN_in k
        have h64 := begN_in hk13
        have hnx := begN_next hk13
        have HJ := hid (fun i (hi : i < widN k) => joinF_at Y hk13 hi)
        have HII := hid (fun V (hV : Below wr.heap.size wr V) => i1 V (HW.out.trans (hV.mono HZ.out)))
        rw [hNk] at HCA HII
        clear hca c1 i1 hNk
        generalize hx : widN k = x at KW HCA HII hw h64 hnx HJ
        have HXX := hid hx
        clear hx
        go_wp2
        refine region_below (by kernel_rfl) (by kernel_rfl) ?_
        repeat (go_big_quiet_step (first
          | (intro hq; rfl)
          | (intro hq; rw [HCA.out _ hq]; exact ⟨rfl, rfl⟩)
          | (intro hq; go_at_call 7; exact KW.out _ hq)))
        refine wpQuiet_nil ?_
        intro w2 hq
        obtain ⟨ab, ao, rfl, hac⟩ := (HII.out w2 hq).cells (by omega)
        have hcell := HCA.out _ hq
        have HAC := hid (hac w2 (Below.refl _ _))
        have HO2 := hid (owns_below HO.out hq)
        have HW2 := hid (HW.out.trans (hq.mono HZ.out))
        have HZ2 := hid (Nat.le_trans HZ.out hq.size)
        have HMM := hid (show begN k + x = begN (k + 1) by omega)
        have hyx : begN k + x ≤ 64 := h64
        have hx1 : 0 < x := by omega
        clear HO HW HZ hq hac HCA KW HII hw h64 hnx
        generalize hy : begN k = y at HO2 HMM HJ hyx
        clear hy
        go_wp2_with (at_builtin; refine wpList_append_lies _ rfl _ _ _ rfl B 3 i0 (.int .i64 0) 1 8 Tryd.underlying22 HI.out hz0 hz1 hz2 rfl (by omega) _ _ _ rfl HO2.out ⟨ab, ao, none⟩ x _ (intL x (Y k)) rfl (by rw [intL_len, Nat.mul_one]) (intL_cells HAC.out) (intL_one _ _) hx1 (by unfold maxLen; omega) (by omega) HZ2.out _ rfl ?_)
        intro gg cap1 w4 hown hgr hor _
        rw [intL_more y x (joinF Y) (Y k) HJ.out] at hown
        have HO4 := hid hown
        have HW4 := hid (Below.grown HW2.out hgr HZ2.out (fun j hj => (HO2.out.lt j hj).1))
        have HZ4 := hid (Nat.le_trans HZ2.out hgr.size)
        clear hown hgr hor HO2 HW2 HZ2 HAC hcell
        rw [HMM.out] at HO4 ⊢
        go_wp2
        exact ⟨⟨k + 1, by omega, by go_num, HO4, HW4, HZ4⟩, by simp [intOf]; omega⟩
      · obtain rfl : k = b1 := by omega
        have hgf : good = false := by
          cases good with
          | false => rfl
          | true => have := HG.out rfl; omega
        obtain ⟨_, hne, hmx⟩ := HBD.out hgf
        have hneb : ((N k : Int) != ((widN k : Nat) : Int)) = true := by
          have : ((N k : Int) == ((widN k : Nat) : Int)) = false := by simp; omega
          rw [bne, this]; rfl
        unfold maxLen at hmx
        subst hgf
        clear hca c1 i1 hne HBD HG HLN HC
        generalize N k = nk at *
        generalize widN k = x at *
        go_wp2
        refine region_below (by kernel_rfl) (by kernel_rfl) ?_
        repeat (go_big_quiet_step (first
          | (intro hq; rfl)
          | (intro hq; rw [HCA.out _ hq]; exact ⟨rfl, rfl⟩)
          | (intro hq; go_at_call 7; exact KW.out _ hq)))
        refine wpQuiet_nil ?_
        intro w2 hq
        have HW2 := hid (HW.out.trans (hq.mono HZ.out))
        clear hq HCA KW
        go_wp2
        go_ret
        refine ⟨?_, by rw [← HB.out]; exact HW2.out⟩
        simp
    · obtain rfl : k = 13 := by omega
      have hgt : good = true := by
        cases good with
        | true => rfl
        | false => have := (HBD.out rfl).1; omega
      subst hgt
      rw [begN_all] at HO
      obtain ⟨a1, c1, rfl, l1⟩ := own_ints HO.out
      have L1 := hid l1
      clear l1 HO
      go_wp2
      go_ret
      refine ⟨?_, by rw [← HB.out]; exact HW.out⟩
      exact ⟨a1, c1, rfl, L1.out⟩
theorem rjoin_no (a : Option Addr) (len cap : Nat) (hl : len ≤ maxLen) (h : len ≠ 13) (w : World) :
    Calls Tryd.prog 17 #[.slice a len cap] w fun e w' => e = .returned (.slice none 0 0) ∧ w' = w := by
  have h1' : ((len : Int) != 13) = true := by
    have : ((len : Int) == 13) = false := by simp; omega
    rw [bne, this]; rfl
  unfold maxLen at hl
  go_enter Tryd.func17, Tryd.ntmps17
  go_wp2
  go_ret
  exact ⟨rfl, rfl⟩
end Go.Proofs.YtmeldmmeaiiflaaDoor
