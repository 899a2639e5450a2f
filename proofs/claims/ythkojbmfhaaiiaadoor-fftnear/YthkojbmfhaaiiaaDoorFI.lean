/-
  The contract of the document's Direct.
-/
import Derived.Test.YthkojbmfhaaiiaaDoorFD
import Derived.Test.YthkojbmfhaaiiaaDoorD
import Derived.Test.YthkojbmfhaaiiaaDoorNShrR
namespace Go.Proofs.YthkojbmfhaaiiaaDoor
open Go.ChangeShapes Go.WideShapes Go.ChangeAt Go.RowKit
set_option linter.unusedVariables false

theorem tdivd : ∀ m : Nat, m < 7 → (512 : Int).tdiv ((2 ^ m : Nat) : Int) = ((2 ^ (9 - m) : Nat) : Int) := by decide +kernel
theorem pw_le : ∀ m : Nat, m < 7 → 2 ^ (9 - m) ≤ 512 := by decide +kernel
theorem dturn {m n i k : Nat} (hm : m ≤ 6) (hn : n = 2 ^ m) (hi : i < 64) (hk : k < 64) : ∃ (c ci : Nat) (th : Int), (512 : Int).tdiv (n : Int) = (c : Int) ∧ wrap64 (c : Int) = (c : Int) ∧ wrap64 ((c : Int) * (i : Int)) = (ci : Int) ∧ wrap64 ((ci : Int) * (k : Int)) = th ∧ 0 ≤ th ∧ th ≤ 2097152 ∧ Hid (th = ((2 ^ (9 - m) * i * k : Nat) : Int)) := by
  have h1 := pw_le m (by omega)
  have h2 : 2 ^ (9 - m) * i ≤ 512 * 64 := Nat.mul_le_mul h1 (by omega)
  have h3 : 2 ^ (9 - m) * i * k ≤ 512 * 64 * 64 := Nat.mul_le_mul h2 (by omega)
  refine ⟨2 ^ (9 - m), 2 ^ (9 - m) * i, ((2 ^ (9 - m) * i * k : Nat) : Int), ?_, ?_, ?_, ?_, ?_, ?_, rfl⟩
  · rw [hn]; exact tdivd m (by omega)
  · generalize 2 ^ (9 - m) = z at *; unfold wrap64; omega
  · rw [← Int.natCast_mul]; generalize 2 ^ (9 - m) * i = z at *; unfold wrap64; omega
  · rw [← Int.natCast_mul]; generalize 2 ^ (9 - m) * i * k = z at *; unfold wrap64; omega
  · omega
  · omega
theorem dprod {x c : Int} (hx : -1048576 ≤ x ∧ x ≤ 1048576) (hc : -16777216 ≤ c ∧ c ≤ 16777216) : ∃ p, wrap64 (x * c) = p ∧ -17592186044416 ≤ p ∧ p ≤ 17592186044416 ∧ Hid (p = x * c) := by
  have h := mul_bd hx.1 hx.2 hc.1 hc.2
  refine ⟨x * c, ?_, by omega, by omega, rfl⟩
  generalize x * c = z at *
  unfold wrap64; omega
theorem shr24_of {x : Int} (h : -2251799813685248 ≤ x ∧ x ≤ 2251799813685248) : shrF x 24 = shr24 x := by
  rw [shrF, if_pos (by omega)]; rfl
set_option maxRecDepth 100000 in
set_option maxHeartbeats 1000000 in
theorem rdirect_any {m : Nat} (hm : m ≤ 6) (n : Nat) (hn : n = 2 ^ m) (a c : Option Addr) (ca cb : Nat) (F : Nat → P2) (bd : ∀ x, Bd 1048576 (F x)) (k : Nat) (hk : k < n) (w : World) (h : IsInts w a n ca (fst F)) (h' : IsInts w c n cb (snd F)) :
    Calls Tryd.prog 11 #[.slice a n ca, .slice c n cb, .int .i64 k] w fun e w' => e = .returned (.tuple #[.int .i64 (shr24 (dRe m F k)), .int .i64 (shr24 (dIm m F k))]) ∧ Below w.heap.size w w' := by
  have H64 : n ≤ 64 := by rw [hn]; exact Nat.pow_le_pow_right (by omega) (show m ≤ 6 from hm)
  have hnz : ((n : Int) == 0) = false := by simp; omega
  rcases h with h | ⟨b, off, rfl, hb, _, _, hc⟩
  · omega
  rcases h' with h' | ⟨b', off', rfl, hb', _, _, hc'⟩
  · omega
  obtain ⟨g1, hg1⟩ : ∃ g : Nat → Int, g = fun i => cRe (F i) ((2 ^ (9 - m) * i * k : Nat) : Int) := ⟨_, rfl⟩
  obtain ⟨g2, hg2⟩ : ∃ g : Nat → Int, g = fun i => cIm (F i) ((2 ^ (9 - m) * i * k : Nat) : Int) := ⟨_, rfl⟩
  have HR : Hid (dRe m F k = sumN n g1 ∧ dIm m F k = sumN n g2) := by rw [hg1, hg2, hn]; exact ⟨rfl, rfl⟩
  have HB : Hid (∀ i, i ≤ n → (-2251799813685248 ≤ sumN i g1 ∧ sumN i g1 ≤ 2251799813685248) ∧ (-2251799813685248 ≤ sumN i g2 ∧ sumN i g2 ≤ 2251799813685248)) := fun i hi => by
    have s1 := sumN_bd (B := 35184372088832) i (g := g1) (fun j _ => by rw [hg1]; exact cRe_bd (bd j) _)
    have s2 := sumN_bd (B := 35184372088832) i (g := g2) (fun j _ => by rw [hg2]; exact cIm_bd (bd j) _)
    omega
  have HS : Hid (∀ i, sumN (i + 1) g1 = sumN i g1 + cRe (F i) ((2 ^ (9 - m) * i * k : Nat) : Int) ∧ sumN (i + 1) g2 = sumN i g2 + cIm (F i) ((2 ^ (9 - m) * i * k : Nat) : Int)) := fun i => by rw [hg1, hg2]; exact ⟨rfl, rfl⟩
  have HT : Hid (∀ i, i < n → _) := fun i hi => dturn (i := i) (k := k) hm hn (by omega) (by omega)
  have HF : Hid (∀ x, Bd 1048576 (F x)) := bd
  have HC : Hid (∀ W, Below w.heap.size w W → (∀ i, i < n → W.cell? ⟨b, off + i, none⟩ = some (.int .i64 (F i).1)) ∧ (∀ i, i < n → W.cell? ⟨b', off' + i, none⟩ = some (.int .i64 (F i).2))) := fun W h =>
    ⟨fun i hi => by rw [h.cell (p := ⟨b, off + i, none⟩) hb]; exact hc i hi, fun i hi => by rw [h.cell (p := ⟨b', off' + i, none⟩) hb']; exact hc' i hi⟩
  have HE : Hid (∀ W, Calls Tryd.prog 22 #[.int .i64 (sumN n g1), .int .i64 24] W fun e w' => e = .returned (.int .i64 (shr24 (dRe m F k))) ∧ Below W.heap.size W w') := fun W => by
    have := shrR_any (sumN n g1) 24 W
    have e : shrF (sumN n g1) 24 = shr24 (dRe m F k) := by rw [HR.out.1]; exact shr24_of (HB.out n (Nat.le_refl _)).1
    rw [e] at this
    exact this
  have HE' : Hid (∀ W, Calls Tryd.prog 22 #[.int .i64 (sumN n g2), .int .i64 24] W fun e w' => e = .returned (.int .i64 (shr24 (dIm m F k))) ∧ Below W.heap.size W w') := fun W => by
    have := shrR_any (sumN n g2) 24 W
    have e : shrF (sumN n g2) 24 = shr24 (dIm m F k) := by rw [HR.out.2]; exact shr24_of (HB.out n (Nat.le_refl _)).2
    rw [e] at this
    exact this
  generalize shr24 (dRe m F k) = R1 at *
  generalize shr24 (dIm m F k) = R2 at *
  obtain ⟨B, hB⟩ : ∃ B, B = w.heap.size := ⟨_, rfl⟩
  have H0 : Hid (Below B w w) := Below.refl _ _
  have HS0 : Hid (B ≤ w.heap.size) := by rw [hB]; exact Nat.le_refl _
  rw [← hB] at HC ⊢
  clear hc hc' hb hb' hg1 hg2 bd hn hB HR
  go_enter Tryd.func11, Tryd.ntmps11
  go_wp2
  go_loopw [8, 9, 11] (fun x y i wr => ∃ j : Nat, j ≤ n ∧ i = .int .i64 j ∧ x = .int .i64 (sumN j g1) ∧ y = .int .i64 (sumN j g2) ∧ Hid (Below B w wr)) (fun _ _ i _ => n - (intOf i).toNat)
  case atStart => exact ⟨0, Nat.zero_le _, rfl, rfl, rfl, H0⟩
  case round =>
    clear H0
    obtain ⟨j, hj, rfl, rfl, rfl, HW⟩ := hrel
    have HWS : Hid (B ≤ wr.heap.size) := Nat.le_trans HS0.out HW.out.size
    by_cases hlt : j < n
    · obtain ⟨cc, ci, th, e1, e2, e3, e4, t0, t1, HTH⟩ := HT.out j hlt
      obtain ⟨s1, s2⟩ := HS.out j
      rw [← HTH.out] at s1 s2
      obtain ⟨⟨u1, u2⟩, ⟨u3, u4⟩⟩ := HB.out j hj
      have fb := HF.out j
      obtain ⟨p1, q1, l1, m1, P1⟩ := dprod fb.1 (cosI_bd th)
      obtain ⟨p2, q2, l2, m2, P2⟩ := dprod fb.2 (sinI_bd th)
      obtain ⟨p3, q3, l3, m3, P3⟩ := dprod fb.2 (cosI_bd th)
      obtain ⟨p4, q4, l4, m4, P4⟩ := dprod fb.1 (sinI_bd th)
      have S1 : Hid (sumN (j + 1) g1 = sumN j g1 + p1 + p2) := by show _ = _; rw [s1, cRe, P1.out, P2.out, Int.add_assoc]
      have S2 : Hid (sumN (j + 1) g2 = sumN j g2 + p3 - p4) := by show _ = _; rw [s2, cIm, P3.out, P4.out, Int.add_sub_assoc]
      have HC1 : Hid (∀ W, Below wr.heap.size wr W → Calls Tryd.prog 20 #[.int .i64 th] W fun e w' => e = .returned (.int .i64 (cosI th)) ∧ Below wr.heap.size wr w') := fun W hq => by
        have := rcos_any th W
        rw [cosF_in (by omega) (by omega)] at this
        exact this.mono (fun e w2 h2 => ⟨h2.1, below_then hq h2.2⟩)
      have HC2 : Hid (∀ W, Below wr.heap.size wr W → Calls Tryd.prog 21 #[.int .i64 th] W fun e w' => e = .returned (.int .i64 (sinI th)) ∧ Below wr.heap.size wr w') := fun W hq => by
        have := rsin_any th W
        rw [sinF_in (by omega) (by omega)] at this
        exact this.mono (fun e w2 h2 => ⟨h2.1, below_then hq h2.2⟩)
      clear s1 s2 P1 P2 P3 P4 fb
      generalize cosI th = C at *
      generalize sinI th = S at *
      generalize hA1 : sumN j g1 = A1 at *
      generalize hA2 : sumN j g2 = A2 at *
      go_wp2
      refine region_below (by kernel_rfl) (by kernel_rfl) ?_
      repeat (go_big_quiet_step (first
        | (intro hq; rfl)
        | (intro hq; go_at_call 20; exact HC1.out _ hq)
        | (intro hq; go_at_call 21; exact HC2.out _ hq)))
      refine wpQuiet_nil ?_
      intro w1 hq
      have HW1 : Hid (Below B w w1) := HW.out.trans (hq.mono HWS.out)
      have ca1 : ∀ W, Below w1.heap.size w1 W → W.cell? ⟨b, off + j, none⟩ = some (.int .i64 (F j).1) := fun W h2 => (HC.out W (HW1.out.trans (h2.mono (Nat.le_trans HWS.out hq.size)))).1 j hlt
      have cb1 : ∀ W, Below w1.heap.size w1 W → W.cell? ⟨b', off' + j, none⟩ = some (.int .i64 (F j).2) := fun W h2 => (HC.out W (HW1.out.trans (h2.mono (Nat.le_trans HWS.out hq.size)))).2 j hlt
      have HS1 : Hid (B ≤ w1.heap.size) := Nat.le_trans HWS.out hq.size
      clear HW hq HC1 HC2
      go_wp2
      refine region_below (by kernel_rfl) (by kernel_rfl) ?_
      repeat (go_big_quiet_step (first
        | (intro hq; rfl)
        | (intro hq; rw [ca1 _ hq]; exact ⟨rfl, rfl⟩)
        | (intro hq; rw [cb1 _ hq]; exact ⟨rfl, rfl⟩)))
      refine wpQuiet_nil ?_
      intro w2 hq
      have HW2 : Hid (Below B w w2) := HW1.out.trans (hq.mono HS1.out)
      have HS2 : Hid (B ≤ w2.heap.size) := Nat.le_trans HS1.out hq.size
      replace ca1 : ∀ W, Below w2.heap.size w2 W → W.cell? ⟨b, off + j, none⟩ = some (.int .i64 (F j).1) := fun W h2 => (HC.out W (HW2.out.trans (h2.mono HS2.out))).1 j hlt
      replace cb1 : ∀ W, Below w2.heap.size w2 W → W.cell? ⟨b', off' + j, none⟩ = some (.int .i64 (F j).2) := fun W h2 => (HC.out W (HW2.out.trans (h2.mono HS2.out))).2 j hlt
      clear HW1 HS1 hq
      go_wp2
      refine region_below (by kernel_rfl) (by kernel_rfl) ?_
      repeat (go_big_quiet_step (first
        | (intro hq; rfl)
        | (intro hq; rw [ca1 _ hq]; exact ⟨rfl, rfl⟩)
        | (intro hq; rw [cb1 _ hq]; exact ⟨rfl, rfl⟩)))
      refine wpQuiet_nil ?_
      intro w3 hq
      have HW3 : Hid (Below B w w3) := HW2.out.trans (hq.mono HS2.out)
      clear HW2 HS2 hq ca1 cb1
      go_wp2
      refine ⟨⟨j + 1, by omega, by go_num, by rw [S1.out], by rw [S2.out], HW3⟩, by simp [intOf]; omega⟩
    · obtain rfl : j = n := by omega
      go_wp2_with (go_at_call 22; (with_reducible refine Calls.mono (HE.out _) ?_); rintro e w1 ⟨rfl, hb1⟩)
      replace hb1 : Hid _ := hb1
      go_wp2_with (go_at_call 22; (with_reducible refine Calls.mono (HE'.out _) ?_); rintro e w2 ⟨rfl, hb2⟩)
      go_ret2
      exact ⟨rfl, (HW.out.trans (hb1.out.mono HWS.out)).trans (hb2.mono (Nat.le_trans HWS.out hb1.out.size))⟩
end Go.Proofs.YthkojbmfhaaiiaaDoor
