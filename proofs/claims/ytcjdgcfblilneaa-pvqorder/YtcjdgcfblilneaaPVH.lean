/-
  The program's Vector.
-/
import Derived.Test.YtcjdgcfblilneaaPVO
import Derived.Deep.RegionWith
import Derived.Deep.CutRange
namespace Go.Proofs.Ytcjdgcfblilneaa
open Go.ChangeShapes Go.WideShapes Go.ChangeAt Go.RowKit
set_option linter.unusedVariables false

theorem pvq_vecno (n k i : Int) (h : n < 1 ∨ i < 0 ∨ pvCnt n k ≤ i) (w : World) : Calls Try.prog 14 #[.int .i64 n, .int .i64 k, .int .i64 i] w (VPost 0 (fun _ => 0) false w) := by
  by_cases h1 : n < 1
  · go_enter Try.func14, Try.ntmps14
    go_wp2
    go_ret2
    exact ⟨none, 0, rfl, .inl rfl, Below.refl _ _, fun x hx => by cases hx⟩
  · have K1 := hid (pvq_count n k w)
    have hc : 0 ≤ pvCnt n k ∧ pvCnt n k ≤ 33232930569601 := by
      unfold pvCnt
      split
      · next h => have := pvC_bd (n := n.toNat) (k := k.toNat) (by omega) (by omega); omega
      · omega
    have K2 := hid (fun W => pwithin_any i 0 (pvCnt n k - 1) W)
    rw [pwB_no (by omega)] at K2
    have hd : decide (n < 1) = false := decide_eq_false h1
    generalize pvCnt n k = c at *
    clear h
    go_enter Try.func14, Try.ntmps14
    go_wp2_with (fail)
    refine Calls.mono K1.out ?_
    rintro e w1 ⟨rfl, b1⟩
    have B1 := hid b1
    clear b1 K1
    go_wp2_with (fail)
    refine Calls.mono (K2.out _) ?_
    rintro e w2 ⟨rfl, rfl⟩
    go_wp2
    go_ret2
    exact ⟨none, 0, rfl, .inl rfl, B1.out, fun x hx => by cases hx⟩
/-- The table and a row of noughts, in one order and in the other. -/
def VStart (n g r : Nat) (w wc : World) : Prop := PvTab g wc ∧ RowAt r n (fun _ => 0) wc ∧ w.heap.size ≤ r ∧ Below w.heap.size w wc ∧ g ≠ r
theorem start_one {n : Nat} {w w2 w3 : World} (hb : Below w.heap.size w w2) (ht : Told w2.drew.heap.size 9 0 w2.drew w3) : VStart n w2.heap.size w3.heap.size w (w3.alloc (.cells (rowA n (fun _ => 0)) 3)) := by
  have e : w2.drew.heap.size = w2.heap.size := rfl
  have h1 := ht.tab
  have h2 := below_then hb.drew (ht.bel)
  rw [e] at h1
  exact ⟨h1.to ((Below.refl _ _).alloc (Nat.le_refl _) _), al_new w3 _, h2.size, h2.alloc h2.size _, Nat.ne_of_lt h1.1⟩
theorem start_two {n : Nat} {w w2 w3 : World} (hb : Below w.heap.size w w2) (ht : Told (w2.alloc (.cells (rowA n (fun _ => 0)) 3)).drew.heap.size 9 0 (w2.alloc (.cells (rowA n (fun _ => 0)) 3)).drew w3) :
    VStart n (w2.heap.size + 1) w2.heap.size w w3 := by
  have e : (w2.alloc (.cells (rowA n (fun _ => 0)) 3)).drew.heap.size = w2.heap.size + 1 := al_size _ _
  have h1 := ht.tab
  have h2 := ht.bel
  have h3 : Below w.heap.size w (w2.alloc (.cells (rowA n (fun _ => 0)) 3)).drew := (hb.alloc hb.size _).drew
  rw [e] at h1
  have h4 : RowAt w2.heap.size n (fun _ => 0) (w2.alloc (.cells (rowA n (fun _ => 0)) 3)).drew := al_new w2 _
  exact ⟨h1, h4.below h2, hb.size, below_then h3 h2, by omega⟩
/-- The first p are told. -/
def VOn (n g r : Nat) (F : Nat → Int) (p : Nat) (w wc : World) : Prop := ∃ Y, PvTab g wc ∧ RowAt r n Y wc ∧ (∀ j, j < p → Y j = F j) ∧ w.heap.size ≤ r ∧ Below w.heap.size w wc ∧ g ≠ r
theorem VStart.on {n g r : Nat} {F : Nat → Int} {w wc : World} (h : VStart n g r w wc) : VOn n g r F 0 w wc := ⟨_, h.1, h.2.1, fun j hj => by omega, h.2.2.1, h.2.2.2.1, h.2.2.2.2⟩
theorem VOn.to {n g r : Nat} {F : Nat → Int} {p : Nat} {w wc W : World} (h : VOn n g r F p w wc) (hb : Below wc.heap.size wc W) : VOn n g r F p w W := by
  obtain ⟨Y, h1, h2, h3, h4, h5, h6⟩ := h
  exact ⟨Y, h1.to hb, h2.below hb, h3, h4, below_then h5 hb, h6⟩
theorem VOn.tab {n g r : Nat} {F : Nat → Int} {p : Nat} {w wc : World} (h : VOn n g r F p w wc) : PvTab g wc := by
  obtain ⟨Y, h1, h2, h3, h4, h5, h6⟩ := h; exact h1
theorem VOn.open' {n g r : Nat} {F : Nat → Int} {p : Nat} {w wc : World} (h : VOn n g r F p w wc) {j : Nat} (hj : j < n) : (∃ v : Int, wc.cell? ⟨r, j, none⟩ = some (.int .i64 v)) ∧ wc.frozen? ⟨r, j, none⟩ = false := by
  obtain ⟨Y, h1, h2, h3, h4, h5, h6⟩ := h
  exact ⟨⟨_, h2.get hj⟩, h2.frozen j⟩
theorem VOn.get {n g r : Nat} {F : Nat → Int} {p : Nat} {w wc : World} (h : VOn n g r F p w wc) {j : Nat} (hp : p ≤ n) (hj : j < p) : wc.cell? ⟨r, j, none⟩ = some (.int .i64 (F j)) := by
  obtain ⟨Y, h1, h2, h3, h4, h5, h6⟩ := h
  rw [h2.get (by omega), h3 j hj]
theorem VOn.set {n g r : Nat} {F : Nat → Int} {p : Nat} {w wc : World} (h : VOn n g r F p w wc) (hp : p < n) {v : Int} (hv : v = F p) : VOn n g r F (p + 1) w (wc.setCell ⟨r, p, none⟩ (.int .i64 v)) := by
  obtain ⟨Y, h1, h2, h3, h4, h5, h6⟩ := h
  refine ⟨_, h1.other h6 _, h2.set hp v, fun j hj => ?_, h4, h5.setCell h4 _, h6⟩
  unfold upd
  by_cases e : j = p
  · rw [if_pos e, hv, e]
  · rw [if_neg e]; exact h3 j (by omega)
theorem VOn.post {n g r : Nat} {F : Nat → Int} {w wc : World} (h : VOn n g r F n w wc) (hn : n ≤ 8) : VPost n F true w (.returned (.tuple #[.slice (some ⟨r, 0, none⟩) n n, .bool true])) wc := by
  obtain ⟨Y, h1, h2, h3, h4, h5, h6⟩ := h
  exact ⟨_, _, rfl, (h2.congr h3).ints (by unfold maxLen; omega), h5, fun x hx => by cases hx; exact h4⟩
set_option maxRecDepth 100000 in
set_option maxHeartbeats 1000000 in
theorem pvq_vec (n k i : Nat) (hn1 : 1 ≤ n) (hn : n ≤ 8) (hk : k ≤ 24) (hi : i < pvC n k) (w : World) : Calls Try.prog 14 #[.int .i64 n, .int .i64 k, .int .i64 i] w (VPost n (pvVec n k i) true w) := by
  have K1 := hid (pvq_count (n : Int) (k : Int) w)
  rw [pvCnt_nat hn hk] at K1
  obtain ⟨c, hc⟩ : ∃ c : Int, c = ((pvC n k : Nat) : Int) := ⟨_, rfl⟩
  have hcb := pvC_bd hn hk
  have K2 := hid (fun W => pwithin_any (i : Int) 0 (((pvC n k : Nat) : Int) - 1) W)
  rw [pwB_yes (by omega) (by omega), ← hc] at K2
  rw [← hc] at K1
  have hcb2 : 1 ≤ c ∧ c ≤ 33232930569601 := by omega
  have hd : decide ((n : Int) < 1) = false := decide_eq_false (by omega)
  have hi0 : (i : Int) ≤ 33232930569601 := by omega
  have HS := hid (pvS_in hi)
  have HSL := hid (pvS_le n k i)
  obtain ⟨F, hF⟩ : ∃ F, F = pvVec n k i := ⟨_, rfl⟩
  have HF := hid hF
  rw [← hF]
  have HN := hid (And.intro hn1 (And.intro hn hk))
  have HI := hid hi
  have K3 := hid (fun W => counted_any W)
  have hmk := make_ints (n := n) (by omega)
  clear hi hF hc hcb
  go_enter Try.func14, Try.ntmps14
  go_wp2_with (fail)
  refine Calls.mono K1.out ?_
  rintro e w1 ⟨rfl, b1⟩
  have B1 := hid b1
  clear b1 K1
  go_wp2_with (fail)
  refine Calls.mono (K2.out _) ?_
  rintro e w2 ⟨rfl, rfl⟩
  go_upto_region 3 with fail
  go_cut [8, 9] from 24 (fun s8 s9 wc => ∃ g r, s8 = .pointer (some ⟨g, 0, none⟩) ∧ s9 = .slice (some ⟨r, 0, none⟩) n n ∧ Hid (VStart n g r w wc))
  case first =>
    go_region_with (go_at_call 21; (with_reducible refine Calls.mono (K3.out _) ?_); rintro e w3 ⟨rfl, ht⟩)
    · have H := hid (start_one (n := n) B1.out ht)
      clear ht
      go_wp2_with fail
      go_meet
      exact ⟨_, _, rfl, rfl, H⟩
    · have H := hid (start_two B1.out ht)
      clear ht
      go_wp2_with fail
      go_meet
      exact ⟨_, _, rfl, rfl, H⟩
  case rest =>
    obtain ⟨g, r, rfl, rfl, HV⟩ := hcut
    clear K3 hmk K2
    have HO := hid (HV.out.on (F := F))
    clear HV
    go_wp2
    go_loopw [1, 2, 29] (fun kk ii at' wr => ∃ p q : Nat, p + q = n ∧ at' = .int .i64 (p : Int) ∧ kk = .int .i64 (((pvS n k i p).1 : Nat) : Int) ∧ ii = .int .i64 (((pvS n k i p).2 : Nat) : Int) ∧ Hid (VOn n g r F p w wr)) (fun _ _ at' _ => n - (intOf at').toNat)
    case atStart => exact ⟨0, n, by omega, rfl, rfl, rfl, HO.out⟩
    case round =>
      clear HO
      obtain ⟨p, q, hpq, rfl, hkk, hii, HO⟩ := hrel
      obtain ⟨w5, e5⟩ : ∃ w5, w5 = wr := ⟨_, rfl⟩
      subst e5
      by_cases hlt : p < n
      · obtain ⟨m, hm⟩ : ∃ m, m = n - 1 - p := ⟨_, rfl⟩
        have y1 : (n : Int) - (p : Int) - 1 = (m : Int) := by omega
        have hn8 := HN.out
        have s1 := HS.out p (by omega)
        have s2 := HSL.out p
        have s3 := pvS_top hlt s1
        have s4 := pvOrd_le n k i p
        have s5 := pvOrd_at n k i p
        have s6 : ∀ o, o < pvOrd n k i p ↔ pvA (pvC (n - 1 - p)) (pvS n k i p).1 (o + 1) ≤ (pvS n k i p).2 := fun o => pvO_iff s3 o
        have s7 := pvS_succ n k i p
        have s8 : F p = pvV (pvOrd n k i p) := by rw [HF.out]; rfl
        have s9 := pvC_bd (n := n - p) (k := (pvS n k i p).1) (by omega) (by omega)
        rw [← hm] at s3 s5 s6 s7
        have HNX := hid s7
        clear s7
        generalize hKg : (pvS n k i p).1 = K at *
        generalize hIg : (pvS n k i p).2 = I at *
        generalize pvOrd n k i p = O at *
        have hK24 : K ≤ 24 := by omega
        have hI9 : I ≤ 33232930569601 := by omega
        have m8 : (m : Int) < 8 := by omega
        have hO48 : O ≤ 48 := by omega
        have HO5 := hid (And.intro s4 (And.intro s5 s8))
        have H6 := hid s6
        have HI0 := hid (show I - pvA (pvC m) K 0 = I from Nat.sub_zero I)
        have HB5 := hid (Below.refl w5.heap.size w5)
        have HM8 := hid (show m < 8 by omega)
        clear s1 s2 s3 s4 s5 s6 s8 s9 hKg hIg hm hn8
        subst hkk hii
        go_wp2
        go_loopw [2, 11] (fun ii v wt => ∃ o : Nat, o ≤ O ∧ v = .int .i64 (o : Int) ∧ ii = .int .i64 ((I - pvA (pvC m) K o : Nat) : Int) ∧ Hid (Below w5.heap.size w5 wt)) (fun _ v _ => O - (intOf v).toNat)
        case atStart => exact ⟨0, Nat.zero_le _, rfl, by rw [HI0.out], HB5.out⟩
        case round =>
          clear HB5 HI0
          obtain ⟨o, ho, rfl, hii, HB6⟩ := hrel
          obtain ⟨w6, e6⟩ : ∃ w6, w6 = wr := ⟨_, rfl⟩
          subst e6
          have h4 := HO5.out.1
          have KF : Hid (∀ W, Below w6.heap.size w6 W → Calls Try.prog 24 #[.pointer (some ⟨g, 0, none⟩), .int .i64 (o : Int), .int .i64 (m : Int), .int .i64 (K : Int)] W fun e w' => e = .returned (.int .i64 (pvT m (K - (o + 1) / 2))) ∧ Below w6.heap.size w6 w') := fun W hW =>
            (pfrom_any g o m K (by omega) (by have := HM8.out; omega) hK24 W (HO.out.tab.to (below_then HB6.out hW))).mono fun e w' ⟨he, hb⟩ => ⟨he, below_then hW hb⟩
          have HB7 := hid (Below.refl w6.heap.size w6)
          have ht : 0 ≤ pvT m (K - (o + 1) / 2) ∧ pvT m (K - (o + 1) / 2) ≤ 33232930569601 := by
            have := pvC_bd (n := m) (k := K - (o + 1) / 2) (by have := HM8.out; omega) (by omega)
            unfold pvT; omega
          have hj : 0 ≤ ((I - pvA (pvC m) K o : Nat) : Int) ∧ ((I - pvA (pvC m) K o : Nat) : Int) ≤ 33232930569601 := by omega
          by_cases hlo : o < O
          · have hle := (H6.out o).1 hlo
            have hV : ((I - pvA (pvC m) K (o + 1) : Nat) : Int) = ((I - pvA (pvC m) K o : Nat) : Int) - pvT m (K - (o + 1) / 2) := by
              rw [pvA] at hle ⊢; rw [pvT]; omega
            have hge : pvT m (K - (o + 1) / 2) ≤ ((I - pvA (pvC m) K o : Nat) : Int) := by
              rw [pvA] at hle; rw [pvT]; omega
            have HV := hid hV
            clear hV hle
            generalize ((I - pvA (pvC m) K o : Nat) : Int) = J at *
            generalize pvT m (K - (o + 1) / 2) = T at *
            subst hii
            go_wp2_with (fail)
            refine Calls.mono (KF.out _ HB7.out) ?_
            rintro e w7 ⟨rfl, b7⟩
            have B7 := hid b7
            clear b7
            go_wp2_with (fail)
            refine Calls.mono (KF.out _ B7.out) ?_
            rintro e w8 ⟨rfl, b8⟩
            have B8 := hid (below_then HB6.out b8)
            clear b8
            go_wp2
            exact ⟨⟨o + 1, by omega, by go_num, congrArg (Value.int .i64) HV.out.symm, B8⟩, by simp [intOf]; omega⟩
          · obtain rfl : o = O := by omega
            have hle : ¬ pvA (pvC m) K (o + 1) ≤ I := fun h => absurd ((H6.out o).2 h) (Nat.lt_irrefl _)
            have hge : ((I - pvA (pvC m) K o : Nat) : Int) < pvT m (K - (o + 1) / 2) := by
              have := HO5.out.2.1
              rw [pvA] at hle; rw [pvT]; omega
            have HJ := hid (show (pvS n k i (p + 1)).1 = K - (o + 1) / 2 ∧ (pvS n k i (p + 1)).2 = I - pvA (pvC m) K o by rw [HNX.out]; exact ⟨rfl, rfl⟩)
            have hAb := pvV_abs o
            have hA24 : (o + 1) / 2 ≤ K := by omega
            have HVA := hid (show (K : Int) - (((o + 1) / 2 : Nat) : Int) = (((pvS n k i (p + 1)).1 : Nat) : Int) by rw [HJ.out.1]; omega)
            have KN := hid (fun W => pnumber_any o (by omega) W)
            have KA : Hid (∀ W, Calls Try.prog 19 #[.int .i64 (pvV o)] W fun e w' => e = .returned (.int .i64 (((o + 1) / 2 : Nat) : Int)) ∧ Below W.heap.size W w') := fun W =>
              (abs_any (pvV o) W).mono fun e w' ⟨he, hb⟩ => ⟨by rw [he, absF_nat (by omega), hAb], hb⟩
            have HFp := hid (show pvV o = F p from HO5.out.2.2.symm)
            have hA0 : 0 ≤ (((o + 1) / 2 : Nat) : Int) ∧ (((o + 1) / 2 : Nat) : Int) ≤ K := by omega
            clear hle HNX hAb hA24 H6 HO5
            generalize pvV o = v at *
            generalize (((o + 1) / 2 : Nat) : Int) = A at *
            generalize hJg : ((I - pvA (pvC m) K o : Nat) : Int) = J at *
            have HJg := hid hJg
            clear hJg
            generalize pvT m (K - (o + 1) / 2) = T at *
            subst hii
            go_wp2_with (fail)
            refine Calls.mono (KF.out _ HB7.out) ?_
            rintro e w7 ⟨rfl, b7⟩
            have HO7 := hid (HO.out.to (below_then HB6.out b7))
            clear b7 HO HB6 HB7 KF
            obtain ⟨⟨v0, hc⟩, hf⟩ := HO7.out.open' hlt
            have HO8 := hid (HO7.out.set hlt HFp.out)
            have HG8 := hid (HO8.out.get (show p + 1 ≤ n by omega) (Nat.lt_succ_self p))
            rw [← HFp.out] at HG8
            clear HO7 HFp
            go_wp2_with (first
              | (go_at_call 25; (with_reducible refine Calls.mono (KN.out _) ?_); rintro e w8 ⟨rfl, rfl⟩)
              | (go_at_call 19; (with_reducible refine Calls.mono (KA.out _) ?_); rintro e w9 ⟨rfl, b9⟩))
            exact ⟨⟨p + 1, n - (p + 1), by omega, by go_num, congrArg (Value.int .i64) HVA.out, by rw [HJ.out.2, HJg.out], HO8.out.to b9⟩, by simp [intOf]; omega⟩
      · obtain rfl : p = n := by omega
        have HE := hid (HO.out.post HN.out.2.1)
        clear HO
        subst hkk hii
        go_wp2
        go_ret2
        exact HE.out
end Go.Proofs.Ytcjdgcfblilneaa
