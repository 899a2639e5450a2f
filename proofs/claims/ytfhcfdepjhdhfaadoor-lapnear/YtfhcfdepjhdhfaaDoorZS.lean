/-
  The contract of the document's Fold.
-/
import Derived.Test.YtfhcfdepjhdhfaaDoorZR
import Derived.Test.YtfhcfdepjhdhfaaDoorZM
import Derived.Test.YtfhcfdepjhdhfaaDoorZC
import Derived.Test.YtfhcfdepjhdhfaaDoorZD
namespace Go.Proofs.YtfhcfdepjhdhfaaDoor
open Go.ChangeShapes Go.WideShapes Go.ChangeAt Go.RowKit
set_option linter.unusedVariables false

theorem rfold_no (len : Nat) (a : Option Addr) (cap : Nat) (X : Nat → Int) (hl : len ≤ 1000) (hX : fold24 X len = false) (w : World) (h : IsInts w a len cap X) :
    Calls Tryd.prog 43 #[.slice a len cap] w fun e w' => e = .returned (.slice none 0 0) ∧ w' = w := by
  have K2 := hid (rwithin_g (-16777216) 16777216 a len cap X hl w h)
  clear h
  unfold fold24 at hX
  by_cases hn : (len == 16 || len == 72) = true
  · rw [hn, Bool.true_and] at hX
    have K3 := K2.out
    rw [hX] at K3
    have K3 := hid K3
    have hn' : len = 16 ∨ len = 72 := by simpa using hn
    clear hn hX K2
    rcases hn' with rfl | rfl
    · go_enter Tryd.func43, Tryd.ntmps43
      go_wp2_with (go_at_call 29; (with_reducible refine K3.out.mono ?_); rintro e w1 ⟨rfl, rfl⟩)
      go_ret
      exact ⟨rfl, rfl⟩
    · go_enter Tryd.func43, Tryd.ntmps43
      go_wp2_with (go_at_call 29; (with_reducible refine K3.out.mono ?_); rintro e w1 ⟨rfl, rfl⟩)
      go_ret
      exact ⟨rfl, rfl⟩
  · have hn' : ¬ (len = 16 ∨ len = 72) := by simpa using hn
    have e1 : (((len : Int) - 8) == 8) = false := by simp; omega
    have e2 : (((len : Int) - 8) == 64) = false := by simp; omega
    have e3 : (((len : Int) - 8) != 8) = true := by rw [bne, e1]; rfl
    have e4 : (((len : Int) - 8) != 64) = true := by rw [bne, e2]; rfl
    clear hn hX K2
    go_enter Tryd.func43, Tryd.ntmps43
    go_wp2
    go_ret
    exact ⟨rfl, rfl⟩
set_option maxRecDepth 100000 in
set_option maxHeartbeats 4000000 in
theorem rfold_yes (n len : Nat) (hn : n = 8 ∨ n = 64) (hlen : len = n + 8) (a : Option Addr) (cap : Nat) (X : Nat → Int) (hX : Fit24 X len) (w : World) (h : IsInts w a len cap X) :
    Calls Tryd.prog 43 #[.slice a len cap] w (OPost n (wFoldF n X) w) := by
  obtain ⟨i0, hi, hz0, hz1, hz2⟩ := infoI
  have HI : Hid (Tryd.prog.info? 3 = some i0) := hi
  have K2 : Hid (Calls Tryd.prog 29 #[.slice a len cap, .int .i64 (-16777216), .int .i64 16777216] w fun e w' => e = .returned (.bool true) ∧ w' = w) := by
    have := rwithin_g (-16777216) 16777216 a len cap X (by omega) w h
    rwa [(allIn_iff (-16777216) 16777216 X len).2 hX] at this
  have hle : (len : Int) - 8 = (n : Int) := by omega
  obtain ⟨b, off, rfl, hc⟩ := h.cells (by omega)
  have HLn := hid hlen
  have HX := hid hX
  have HC := hid hc
  have hb1 : (((n : Int) != 8) = false) ∨ (((n : Int) != 8) = true ∧ ((n : Int) != 64) = false) := by
    rcases hn with rfl | rfl
    · exact .inl rfl
    · exact .inr ⟨rfl, rfl⟩
  have h64 : n ≤ 64 := by omega
  have h8 : 8 ≤ n := by omega
  have h16 : 16 ≤ len := by omega
  have h72 : len ≤ 72 := by omega
  clear hlen hc hX h hn hi
  go_enter Tryd.func43, Tryd.ntmps43
  rcases hb1 with hbb | ⟨hbb, hbc⟩
  all_goals
    go_wp2_with (go_at_call 29; (with_reducible refine K2.out.mono ?_); rintro e w1 ⟨rfl, rfl⟩)
    refine (rW_any _).mono ?_
    rintro e w2 ⟨rfl, rfl⟩
    have hv := al_new w1 (.cells (rowA 8 wF) 3)
    have HV : Hid (RowAt w1.heap.size 8 wF (w1.alloc (.cells (rowA 8 wF) 3)) ∧ Below w1.heap.size w1 (w1.alloc (.cells (rowA 8 wF) 3))) := ⟨hv, (Below.refl _ w1).alloc (Nat.le_refl _) _⟩
    clear hv K2
    generalize w1.alloc (.cells (rowA 8 wF) 3) = W0 at HV ⊢
    obtain ⟨s0, hs0⟩ : ∃ s0, s0 = w1.heap.size := ⟨_, rfl⟩
    have HV' : Hid (RowAt w1.heap.size 8 wF W0 ∧ Below s0 w1 W0) := by rw [hs0]; exact HV
    clear HV
    have HV := HV'
    clear HV'
    rw [← hs0] at HC
    have HS0 := hid hs0
    clear hs0
    generalize w1.heap.size = v at HV ⊢
    obtain ⟨B, hB⟩ : ∃ B, B = W0.heap.size := ⟨_, rfl⟩
    have HB := hid hB
    have HCX : Hid (∀ W, Below B W0 W → ∀ i, i < len → W.cell? ⟨b, off + i, none⟩ = some (.int .i64 (X i))) := fun W hW i hi => HC.out W (HV.out.2.trans (hW.mono (by rw [hB, HS0.out]; exact HV.out.2.size))) i hi
    have HCS : Hid (∀ W, Below B W0 W → ∀ i, i < 8 → W.cell? ⟨v, i, none⟩ = some (.int .i64 (wF i))) := fun W hW i hi => (HV.out.1.below (by rw [← hB]; exact hW)).get hi
    have HBL : Hid (∀ W, Below B W0 W → Below w1.heap.size w1 W) := fun W hW => by
      rw [← HS0.out]; exact HV.out.2.trans (hW.mono (by rw [hB, HS0.out]; exact HV.out.2.size))
    clear HC HV hB
    go_wp2
    go_loopw [5, 6] (fun o i wr => ∃ k : Nat, k ≤ n ∧ i = .int .i64 k ∧ Hid (wr.ownsRow B 3 1 o k (intL k (wFoldF n X))) ∧ Hid (Below B W0 wr) ∧ Hid (B ≤ wr.heap.size)) (fun _ i _ => n - (intOf i).toNat)
    case atStart => exact ⟨0, by omega, rfl, World.ownsRow_nil _ _ _ _, by rw [HB.out]; exact Below.refl _ _, by rw [HB.out]; exact Nat.le_refl _⟩
    case round =>
      obtain ⟨k, hk, rfl, HO, HW, HZ⟩ := hrel
      by_cases hlt : k < n
      · by_cases h4 : k < 4
        · have hu : (4 : Int) + (k : Int) = ((4 + k : Nat) : Int) := by omega
          have hv : (3 : Int) - (k : Int) = ((3 - k : Nat) : Int) := by omega
          have d1 : ∀ W, Below wr.heap.size wr W → W.cell? ⟨v, 4 + k, none⟩ = some (.int .i64 (wF (4 + k))) := fun W hW => HCS.out W (HW.out.trans (hW.mono HZ.out)) _ (by omega)
          have d2 : ∀ W, Below wr.heap.size wr W → W.cell? ⟨b, off + (4 + k), none⟩ = some (.int .i64 (X (4 + k))) := fun W hW => HCX.out W (HW.out.trans (hW.mono HZ.out)) _ (by omega)
          have d3 : ∀ W, Below wr.heap.size wr W → W.cell? ⟨v, 3 - k, none⟩ = some (.int .i64 (wF (3 - k))) := fun W hW => HCS.out W (HW.out.trans (hW.mono HZ.out)) _ (by omega)
          have d4 : ∀ W, Below wr.heap.size wr W → W.cell? ⟨b, off + (3 - k), none⟩ = some (.int .i64 (X (3 - k))) := fun W hW => HCX.out W (HW.out.trans (hW.mono HZ.out)) _ (by omega)
          have b1 := HX.out (4 + k) (by omega)
          have b2 := HX.out (3 - k) (by omega)
          have bu := wF_bd (4 + k)
          have bv := wF_bd (3 - k)
          have M1 := mul_bd' bu.1 bu.2 b1.1 b1.2
          have M2 := mul_bd' bv.1 bv.2 b2.1 b2.2
          have H1 : wFoldF n X k = shrF (wF (4 + k) * X (4 + k) + wF (3 - k) * X (3 - k)) 15 := by
            rw [fold_head X h4, shr_sh15 (by omega) (by omega)]
          have m1 : wrap64 (wF (4 + k) * X (4 + k)) = wF (4 + k) * X (4 + k) := wwr_in (by omega)
          have m2 : wrap64 (wF (3 - k) * X (3 - k)) = wF (3 - k) * X (3 - k) := wwr_in (by omega)
          have m3 : wrap64 (wF (4 + k) * X (4 + k) + wF (3 - k) * X (3 - k)) = wF (4 + k) * X (4 + k) + wF (3 - k) * X (3 - k) := wwr_in (by omega)
          have hu8 : 4 + k < 8 := by omega
          have hv8 : 3 - k < 8 := by omega
          have hul : 4 + k < len := by omega
          have hvl : 3 - k < len := by omega
          clear b1 b2 bu bv M1 M2
          generalize X (4 + k) = xu at *
          generalize X (3 - k) = xv at *
          generalize wF (4 + k) = su at *
          generalize wF (3 - k) = sv at *
          generalize 4 + k = u at *
          generalize 3 - k = z at *
          have HK := hid (fun W => shrR_any (su * xu + sv * xv) 15 W)
          rw [← H1] at HK
          obtain ⟨c, hc⟩ : ∃ c, c = wFoldF n X k := ⟨_, rfl⟩
          rw [← hc] at HK
          have HCC := hid hc
          clear hc H1
          have hK : Hid (∀ W, Below wr.heap.size wr W → Calls Tryd.prog 52 #[.int .i64 (su * xu + sv * xv), .int .i64 15] W fun e w' => e = .returned (.int .i64 c) ∧ Below wr.heap.size wr w') := fun W hW =>
            (HK.out W).mono fun e w' ⟨he, hb⟩ => ⟨he, below_then hW hb⟩
          go_wp2
          refine wp_region_held_drew (S := fun _ => True) (by kernel_rfl) trivial (fun _ => ?_)
          refine wpAnyH_take (i := 0) (v := u5) rfl (by kernel_rfl) (by kernel_rfl) (by kernel_rfl) (fun _ _ _ h => h) (Or.inl ⟨by rfl, ?_⟩) trivial ?_
          · intro wz _; simp only [List.getElem_toArray, List.getElem_cons_zero]; go_simp; try (with_reducible rfl)
          simp only [List.getElem_toArray, List.getElem_cons_zero, Act.put, List.setIfInBounds_toArray, List.set_cons_zero, List.set_cons_succ]
          refine' anyH_tail (C := Below wr.heap.size wr) 1 25 (by kernel_rfl) (by kernel_rfl) (by kernel_rfl) (by decide) (by decide) (by kernel_rfl) (by kernel_rfl) (Below.refl _ _).drew (Qa := fun a' => a' = _) ?_ ?_
          rotate_left
          · dsimp only [idleTail, idleN, List.drop]
            repeat (go_big_quiet_step (first
              | (intro hq; rfl)
              | (intro hq; rw [d1 _ hq]; exact ⟨rfl, rfl⟩)
              | (intro hq; rw [d2 _ hq]; exact ⟨rfl, rfl⟩)
              | (intro hq; rw [d3 _ hq]; exact ⟨rfl, rfl⟩)
              | (intro hq; rw [d4 _ hq]; exact ⟨rfl, rfl⟩)
              | (intro hq; go_at_call 52; (with_reducible exact hK.out _ hq))))
            refine wpQuiet_nil ?_
            exact rfl
          · rintro a' w2 hb2 rfl
            dsimp only [List.drop]
            have HB2 : Hid (Below B W0 w2) := HW.out.trans (hb2.mono HZ.out)
            have HZ2 : Hid (B ≤ w2.heap.size) := Nat.le_trans HZ.out hb2.size
            have HO2 : Hid (w2.ownsRow B 3 1 u5 k (intL k (wFoldF n X))) := owns_below HO.out hb2
            clear hb2 HO HW HZ hK HK d1 d2 d3 d4
            have HA : Hid ((w2.alloc (.cells #[.int .i64 c] 3)).ownsRow B 3 1 u5 k (intL k (wFoldF n X))) := HO2.out.alloc _
            have HS : Hid (B ≤ (w2.alloc (.cells #[.int .i64 c] 3)).heap.size) := Nat.le_trans HZ2.out (by simp)
            go_wp2_with (at_builtin; refine wpList_append_lies _ rfl _ _ _ rfl B 3 i0 (.int .i64 0) 1 8 Tryd.underlying23 HI.out hz0 hz1 hz2 rfl (by omega) _ _ _ rfl HA.out ⟨w2.heap.size, 0, none⟩ 1 1 [.int .i64 c] rfl rfl (World.news_of_block (cs := #[.int .i64 c]) (heap_alloc_new w2 _)) (by intro u hu; simp at hu; subst hu; rfl) (by omega) (by unfold maxLen; omega) (by omega) HS.out _ rfl ?_)
            intro gg cap1 w4 hown hgr _ _
            obtain ⟨o1, o2, o3⟩ := oi_step HO2.out HB2.out HZ2.out HCC.out hown hgr
            have O1 := hid o1
            have O2 := hid o2
            have O3 := hid o3
            clear hown hgr o1 o2 o3 HA HS
            go_wp2
            exact ⟨⟨k + 1, by omega, by go_num, O1, O2, O3⟩, by simp [intOf]; omega⟩
        · by_cases ht : n - 4 ≤ k
          · have hi1 : (n : Int) - 1 - (k : Int) = ((n - 1 - k : Nat) : Int) := by omega
            have H0 : wFoldF n X k = sh15 (wF (4 + (n - 1 - k)) * X (n + 3 - (n - 1 - k)) - wF (3 - (n - 1 - k)) * X (n + 4 + (n - 1 - k))) := by
              rw [wFoldF, if_neg h4, if_pos ht]; rfl
            have hgt : decide ((n : Int) - 4 ≤ (k : Int)) = true := decide_eq_true (by omega)
            have hi8 : n - 1 - k < 4 := by omega
            have hlk : ¬ k < 4 := h4
            clear h4 ht
            generalize n - 1 - k = i at *
            have hu : (4 : Int) + (i : Int) = ((4 + i : Nat) : Int) := by omega
            have hv : (3 : Int) - (i : Int) = ((3 - i : Nat) : Int) := by omega
            have hxu : (n : Int) + 3 - (i : Int) = ((n + 3 - i : Nat) : Int) := by omega
            have hxv : (n : Int) + 4 + (i : Int) = ((n + 4 + i : Nat) : Int) := by omega
            have hul : n + 3 - i < len := by omega
            have hvl : n + 4 + i < len := by omega
            have hu8 : 4 + i < 8 := by omega
            have hv8 : 3 - i < 8 := by omega
            have d1 : ∀ W, Below wr.heap.size wr W → W.cell? ⟨v, 4 + i, none⟩ = some (.int .i64 (wF (4 + i))) := fun W hW => HCS.out W (HW.out.trans (hW.mono HZ.out)) _ hu8
            have d2 : ∀ W, Below wr.heap.size wr W → W.cell? ⟨b, off + (n + 3 - i), none⟩ = some (.int .i64 (X (n + 3 - i))) := fun W hW => HCX.out W (HW.out.trans (hW.mono HZ.out)) _ hul
            have d3 : ∀ W, Below wr.heap.size wr W → W.cell? ⟨v, 3 - i, none⟩ = some (.int .i64 (wF (3 - i))) := fun W hW => HCS.out W (HW.out.trans (hW.mono HZ.out)) _ hv8
            have d4 : ∀ W, Below wr.heap.size wr W → W.cell? ⟨b, off + (n + 4 + i), none⟩ = some (.int .i64 (X (n + 4 + i))) := fun W hW => HCX.out W (HW.out.trans (hW.mono HZ.out)) _ hvl
            have b1 := HX.out (n + 3 - i) hul
            have b2 := HX.out (n + 4 + i) hvl
            have bu := wF_bd (4 + i)
            have bv := wF_bd (3 - i)
            have M1 := mul_bd' bu.1 bu.2 b1.1 b1.2
            have M2 := mul_bd' bv.1 bv.2 b2.1 b2.2
            have H1 : wFoldF n X k = shrF (wF (4 + i) * X (n + 3 - i) - wF (3 - i) * X (n + 4 + i)) 15 := by
              rw [H0, shr_sh15 (by omega) (by omega)]
            have m1 : wrap64 (wF (4 + i) * X (n + 3 - i)) = wF (4 + i) * X (n + 3 - i) := wwr_in (by omega)
            have m2 : wrap64 (wF (3 - i) * X (n + 4 + i)) = wF (3 - i) * X (n + 4 + i) := wwr_in (by omega)
            have m3 : wrap64 (wF (4 + i) * X (n + 3 - i) - wF (3 - i) * X (n + 4 + i)) = wF (4 + i) * X (n + 3 - i) - wF (3 - i) * X (n + 4 + i) := wwr_in (by omega)
            clear b1 b2 bu bv M1 M2 H0
            generalize X (n + 3 - i) = xu at *
            generalize X (n + 4 + i) = xv at *
            generalize wF (4 + i) = su at *
            generalize wF (3 - i) = sv at *
            generalize 4 + i = u at *
            generalize 3 - i = z at *
            generalize n + 3 - i = p1 at *
            generalize n + 4 + i = p2 at *
            have HK := hid (fun W => shrR_any (su * xu - sv * xv) 15 W)
            rw [← H1] at HK
            obtain ⟨c, hc⟩ : ∃ c, c = wFoldF n X k := ⟨_, rfl⟩
            rw [← hc] at HK
            have HCC := hid hc
            clear hc H1
            have hK : Hid (∀ W, Below wr.heap.size wr W → Calls Tryd.prog 52 #[.int .i64 (su * xu - sv * xv), .int .i64 15] W fun e w' => e = .returned (.int .i64 c) ∧ Below wr.heap.size wr w') := fun W hW =>
              (HK.out W).mono fun e w' ⟨he, hb⟩ => ⟨he, below_then hW hb⟩
            go_wp2
            refine wp_region_held_drew (S := fun _ => True) (by kernel_rfl) trivial (fun _ => ?_)
            refine wpAnyH_take (i := 0) (v := u5) rfl (by kernel_rfl) (by kernel_rfl) (by kernel_rfl) (fun _ _ _ h => h) (Or.inl ⟨by rfl, ?_⟩) trivial ?_
            · intro wz _; simp only [List.getElem_toArray, List.getElem_cons_zero]; go_simp; try (with_reducible rfl)
            simp only [List.getElem_toArray, List.getElem_cons_zero, Act.put, List.setIfInBounds_toArray, List.set_cons_zero, List.set_cons_succ]
            refine' anyH_tail (C := Below wr.heap.size wr) 1 29 (by kernel_rfl) (by kernel_rfl) (by kernel_rfl) (by decide) (by decide) (by kernel_rfl) (by kernel_rfl) (Below.refl _ _).drew (Qa := fun a' => a' = _) ?_ ?_
            rotate_left
            · dsimp only [idleTail, idleN, List.drop]
              repeat (go_big_quiet_step (first
                | (intro hq; rfl)
                | (intro hq; rw [d1 _ hq]; exact ⟨rfl, rfl⟩)
                | (intro hq; rw [d2 _ hq]; exact ⟨rfl, rfl⟩)
                | (intro hq; rw [d3 _ hq]; exact ⟨rfl, rfl⟩)
                | (intro hq; rw [d4 _ hq]; exact ⟨rfl, rfl⟩)
                | (intro hq; go_at_call 52; (with_reducible exact hK.out _ hq))))
              refine wpQuiet_nil ?_
              exact rfl
            · rintro a' w2 hb2 rfl
              dsimp only [List.drop]
              have HB2 : Hid (Below B W0 w2) := HW.out.trans (hb2.mono HZ.out)
              have HZ2 : Hid (B ≤ w2.heap.size) := Nat.le_trans HZ.out hb2.size
              have HO2 : Hid (w2.ownsRow B 3 1 u5 k (intL k (wFoldF n X))) := owns_below HO.out hb2
              clear hb2 HO HW HZ hK HK d1 d2 d3 d4
              have HA : Hid ((w2.alloc (.cells #[.int .i64 c] 3)).ownsRow B 3 1 u5 k (intL k (wFoldF n X))) := HO2.out.alloc _
              have HS : Hid (B ≤ (w2.alloc (.cells #[.int .i64 c] 3)).heap.size) := Nat.le_trans HZ2.out (by simp)
              go_wp2_with (at_builtin; refine wpList_append_lies _ rfl _ _ _ rfl B 3 i0 (.int .i64 0) 1 8 Tryd.underlying23 HI.out hz0 hz1 hz2 rfl (by omega) _ _ _ rfl HA.out ⟨w2.heap.size, 0, none⟩ 1 1 [.int .i64 c] rfl rfl (World.news_of_block (cs := #[.int .i64 c]) (heap_alloc_new w2 _)) (by intro u hu; simp at hu; subst hu; rfl) (by omega) (by unfold maxLen; omega) (by omega) HS.out _ rfl ?_)
              intro gg cap1 w4 hown hgr _ _
              obtain ⟨o1, o2, o3⟩ := oi_step HO2.out HB2.out HZ2.out HCC.out hown hgr
              have O1 := hid o1
              have O2 := hid o2
              have O3 := hid o3
              clear hown hgr o1 o2 o3 HA HS
              go_wp2
              exact ⟨⟨k + 1, by omega, by go_num, O1, O2, O3⟩, by simp [intOf]; omega⟩
          · have hu : (4 : Int) + (k : Int) = ((4 + k : Nat) : Int) := by omega
            have hgt : ¬ ((n : Int) - 4 ≤ (k : Int)) := by omega
            have hul : 4 + k < len := by omega
            have d2 := HCX.out wr HW.out _ hul
            obtain ⟨c, hc⟩ : ∃ c, c = wFoldF n X k := ⟨_, rfl⟩
            have H1 : wFoldF n X k = X (4 + k) := by rw [wFoldF, if_neg h4, if_neg ht]
            rw [← H1, ← hc] at d2
            have HCC := hid hc
            have HB2 := HW
            have HZ2 := HZ
            have HO2 := HO
            clear hc H1 HO HW HZ
            generalize 4 + k = u at *
            have HA : Hid ((wr.alloc (.cells #[.int .i64 c] 3)).ownsRow B 3 1 u5 k (intL k (wFoldF n X))) := HO2.out.alloc _
            have HS : Hid (B ≤ (wr.alloc (.cells #[.int .i64 c] 3)).heap.size) := Nat.le_trans HZ2.out (by simp)
            go_wp2_with (at_builtin; refine wpList_append_lies _ rfl _ _ _ rfl B 3 i0 (.int .i64 0) 1 8 Tryd.underlying23 HI.out hz0 hz1 hz2 rfl (by omega) _ _ _ rfl HA.out ⟨wr.heap.size, 0, none⟩ 1 1 [.int .i64 c] rfl rfl (World.news_of_block (cs := #[.int .i64 c]) (heap_alloc_new wr _)) (by intro u hu; simp at hu; subst hu; rfl) (by omega) (by unfold maxLen; omega) (by omega) HS.out _ rfl ?_)
            intro gg cap1 w4 hown hgr _ _
            obtain ⟨o1, o2, o3⟩ := oi_step HO2.out HB2.out HZ2.out HCC.out hown hgr
            have O1 := hid o1
            have O2 := hid o2
            have O3 := hid o3
            clear hown hgr o1 o2 o3 HA HS
            go_wp2
            exact ⟨⟨k + 1, by omega, by go_num, O1, O2, O3⟩, by simp [intOf]; omega⟩
      · obtain rfl : k = n := by omega
        obtain ⟨a1, c1, rfl, i1⟩ := own_ints HO.out
        have I1 := hid i1
        clear i1
        go_wp2
        go_ret
        exact ⟨a1, c1, rfl, I1.out, HBL.out _ HW.out, fun x hx => Nat.le_trans (by have := (HBL.out W0 (by rw [HB.out]; exact Below.refl _ _)).size; rw [HB.out]; exact this) (own_new HO.out x hx)⟩
end Go.Proofs.YtfhcfdepjhdhfaaDoor
