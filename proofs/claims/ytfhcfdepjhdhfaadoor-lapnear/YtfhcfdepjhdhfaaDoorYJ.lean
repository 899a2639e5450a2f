/-
  The walk of P12.3's law, where both spectra are right; what the program's own functions answer is laid as premises.
-/
import Derived.Test.YtfhcfdepjhdhfaaDoorYH
import Derived.Test.YtfhcfdepjhdhfaaDoorYI
namespace Go.Proofs.YtfhcfdepjhdhfaaDoor
open Go.ChangeShapes Go.WideShapes Go.ChangeAt Go.RowKit
set_option linter.unusedVariables false

theorem exF_bd {n n' : Nat} (hN : IsN n) (hN' : IsN n') {X Y : Nat → Int} (hX : ∀ i, i < n → -33554432 ≤ X i ∧ X i ≤ 33554432) (hY : ∀ i, i < n' → -33554432 ≤ Y i ∧ Y i ≤ 33554432) (i : Nat) : -4503599627370496 ≤ exF n n' X Y i ∧ exF n n' X Y i ≤ 4503599627370496 := by
  have A : ∀ k, -72057594037927936 ≤ xsum n X k ∧ xsum n X k ≤ 72057594037927936 := fun k => by have := xsum_bd hX k; have := hN.le; omega
  have B : ∀ k, -72057594037927936 ≤ xsum n' Y k ∧ xsum n' Y k ≤ 72057594037927936 := fun k => by have := xsum_bd hY k; have := hN'.le; omega
  have w1 := wF_bd i
  have w2 := wF_bd (7 - i)
  have P := fun (w : Int) (k : Nat) (h1 : -32768 ≤ w) (h2 : w ≤ 32768) => part_bd hN h1 h2 (A k).1 (A k).2
  have Q := fun (w : Int) (k : Nat) (h1 : -32768 ≤ w) (h2 : w ≤ 32768) => part_bd hN' h1 h2 (B k).1 (B k).2
  unfold exF
  split
  · have p := P (wF (7 - i)) (n - 4 + i) (by omega) (by omega)
    have q := Q (wF i) (3 - i) (by omega) (by omega)
    omega
  · split
    · have p := P (-wF (7 - i)) (n + 3 - i) (by omega) (by omega)
      have q := Q (wF i) (i - 4) (by omega) (by omega)
      omega
    · have q := Q 32768 (i - 4) (by omega) (by omega)
      omega
/-- The block ahead of block b: of the frame ahead, or this frame's. -/
def lnN (nx ny b : Nat) : Nat := if b = 0 then nx else ny
def lxF (XL : Nat → Int) (BY : Nat → Nat → Int) (b : Nat) : Nat → Int := if b = 0 then XL else BY (b - 1)
theorem tl_ln (nx ny : Nat) (XL : Nat → Int) (BY : Nat → Nat → Int) (b : Nat) : tlF ny (wRightF nx (backF nx XL)) (fun b => backF ny (BY b)) b = wRightF (lnN nx ny b) (backF (lnN nx ny b) (lxF XL BY b)) := by
  unfold tlF lnN lxF
  split <;> rfl
theorem satF_bd (x : Int) : -32768 ≤ satF x ∧ satF x ≤ 32767 := by unfold satF; omega
theorem frF_bd (n : Nat) (T : Nat → Int) (Y : Nat → Nat → Int) (q : Nat) : -32768 ≤ frF n T Y q ∧ frF n T Y q ≤ 32767 := by
  unfold frF
  split <;> exact satF_bd _
theorem fr_near {nx ny : Nat} (hN : IsN nx) (hN' : IsN ny) {XL : Nat → Int} {BY : Nat → Nat → Int} {ky : Nat} (hX : ∀ i, i < nx → -33554432 ≤ XL i ∧ XL i ≤ 33554432) (hY : ∀ b, b < ky → ∀ i, i < ny → -33554432 ≤ BY b i ∧ BY b i ≤ 33554432) {b : Nat} (hb : b < ky) {i : Nat} (hi : i < ny) :
    -2 ≤ frF ny (wRightF nx (backF nx XL)) (fun b => backF ny (BY b)) (ny * b + i) - satF (exF (lnN nx ny b) ny (lxF XL BY b) (BY b) i / 1048576) ∧ frF ny (wRightF nx (backF nx XL)) (fun b => backF ny (BY b)) (ny * b + i) - satF (exF (lnN nx ny b) ny (lxF XL BY b) (BY b) i / 1048576) ≤ 2 := by
  have h1 : IsN (lnN nx ny b) := by unfold lnN; split <;> assumption
  have h2 : ∀ i, i < lnN nx ny b → -33554432 ≤ lxF XL BY b i ∧ lxF XL BY b i ≤ 33554432 := by
    unfold lnN lxF
    by_cases e : b = 0
    · simp only [if_pos e]; exact hX
    · simp only [if_neg e]; exact hY (b - 1) (by omega)
  have h8 := hN'.ge
  by_cases h : i < 8
  · rw [frF_meet h8 _ _ h, tl_ln]
    exact near_shared hN' h1 h2 (hY b hb) h
  · obtain ⟨k, rfl⟩ : ∃ k, i = k + 4 := ⟨i - 4, by omega⟩
    rw [frF_own _ _ (by omega) (by omega)]
    have := near_own (n := ny) (n' := lnN nx ny b) hN' (X' := lxF XL BY b) (X := BY b) (i := k + 4) (by omega)
    rwa [show k + 4 - 4 = k by omega] at this
set_option maxRecDepth 100000 in
set_option maxHeartbeats 4000000 in
theorem lnear_yes (nx kx ny ky : Nat) (hx : (nx = 8 ∧ kx = 8) ∨ (nx = 64 ∧ kx = 1)) (hy : (ny = 8 ∧ ky = 8) ∨ (ny = 64 ∧ ky = 1)) (sx sy : Bool) (a a' : Option Addr) (c c' : Nat) (X Y : Nat → Int) (BX BY : Nat → Nat → Int)
    (hX : rightF X 64 33554432 = true) (hY : rightF Y 64 33554432 = true) (hBX : ∀ b, b < kx → ∀ i, i < nx → -33554432 ≤ BX b i ∧ BX b i ≤ 33554432) (hBY : ∀ b, b < ky → ∀ i, i < ny → -33554432 ≤ BY b i ∧ BY b i ≤ 33554432)
    (w : World) (h : IsInts w a 64 c X) (h' : IsInts w a' 64 c' Y)
    (hSx : ∀ W, Below w.heap.size w W → Calls Tryd.prog 17 #[.slice a 64 c, .bool sx] W (LPost kx nx BX W))
    (hSy : ∀ W, Below w.heap.size w W → Calls Tryd.prog 17 #[.slice a' 64 c', .bool sy] W (LPost ky ny BY W)) (r : Nat) (G : Nat → Int) (Ok : World → Prop)
    (hM : Calls Tryd.prog 8 #[] w fun e w' => e = .returned (.pointer (some ⟨r, 0, none⟩)) ∧ Below w.heap.size w w' ∧ Ok w') (hOk : ∀ W W', Ok W → Below W.heap.size W W' → Ok W')
    (hF1 : ∀ W, Below w.heap.size w W → Ok W → Calls Tryd.prog 9 #[.pointer (some ⟨r, 0, none⟩), arr8 (fun _ => 0), .slice a 64 c, .bool sx] W (FrPost 64 G (wRightF nx (backF nx (BX (kx - 1)))) W))
    (T2 : Nat → Int) (hF2 : ∀ W, Below w.heap.size w W → Ok W → Calls Tryd.prog 9 #[.pointer (some ⟨r, 0, none⟩), arr8 (wRightF nx (backF nx (BX (kx - 1)))), .slice a' 64 c', .bool sy] W (FrPost 64 (frF ny (wRightF nx (backF nx (BX (kx - 1)))) (fun b => backF ny (BY b))) T2 W))
    (hA : ∀ W, Below w.heap.size w W → Calls Tryd.prog 7 #[] W fun e w' => e = .returned (.bool true) ∧ Below W.heap.size W w') :
    Calls Tryd.prog 4 #[.slice a 64 c, .slice a' 64 c', .bool sx, .bool sy] w fun e w' => e = .returned (.bool true) ∧ Below w.heap.size w w' := by
  have hNx : IsN nx := by unfold IsN; omega
  have hNy : IsN ny := by unfold IsN; omega
  have R1 : Hid (Calls Tryd.prog 16 #[.slice a 64 c, .int .i64 33554432] w fun e w' => e = .returned (.bool true) ∧ w' = w) := by
    have := xright_any 33554432 (by omega) (by omega) a 64 c X (by decide) w h
    rwa [hX] at this
  have R2 : Hid (Calls Tryd.prog 16 #[.slice a' 64 c', .int .i64 33554432] w fun e w' => e = .returned (.bool true) ∧ w' = w) := by
    have := xright_any 33554432 (by omega) (by omega) a' 64 c' Y (by decide) w h'
    rwa [hY] at this
  have HSx := hid hSx
  have HSy := hid hSy
  have HM := hid hM
  have HOk := hid hOk
  have HF1 := hid hF1
  have HF2 := hid hF2
  have HA := hid hA
  have HKx := hid hx
  have HKy := hid hy
  have HBX := hid hBX
  have HBY := hid hBY
  have HNx := hid hNx
  have HNy := hid hNy
  obtain ⟨T1, hT1⟩ : ∃ T1, T1 = wRightF nx (backF nx (BX (kx - 1))) := ⟨_, rfl⟩
  have HT1 := hid hT1
  rw [← hT1] at HF1 HF2
  clear h h' hX hY hSx hSy hM hOk hF1 hF2 hA hx hy hBX hBY hNx hNy hT1
  go_enter Tryd.func4, Tryd.ntmps4
  go_wp2_with (fail)
  refine Calls.mono R1.out ?_
  rintro e w1 ⟨rfl, rfl⟩
  go_wp2_with (fail)
  refine Calls.mono R2.out ?_
  rintro e w2 ⟨rfl, rfl⟩
  go_wp2_with (fail)
  refine Calls.mono HM.out ?_
  rintro e w3 ⟨rfl, b3, o3⟩
  have HB3 := hid b3
  have HO3 := hid o3
  have K1 := hid (HF1.out w3 b3 o3)
  clear b3 o3 HF1 HM R1 R2
  go_wp2_with (fail)
  refine Calls.mono K1.out ?_
  rintro e w4 ⟨r4, c4, rfl, _, b4⟩
  have HB4 := hid (below_then HB3.out b4)
  have HO4 := hid (HOk.out _ _ HO3.out b4)
  have HT := hid (arr_new0 w4)
  have HS4 := hid (Nat.le_refl w4.heap.size)
  clear b4 HO3 K1 HB3
  go_wp2_with (first
    | (refine wp_store8 (X := T1) rfl rfl rfl rfl HT.out ?_
       have HB5 := hid (below_then HB4.out (made_arr T1 w4).2)
       have HO5 := hid (HOk.out _ _ HO4.out (made_arr T1 w4).2)
       have HT5 := hid (made_arr T1 w4).1
       generalize hw5 : (w4.alloc _).setRow w4.heap.size (rowA 8 T1) = w5 at HB5 HO5 HT5 ⊢
       clear hw5 HT HB4 HO4 HS4
       generalize w4.heap.size = p5 at HT5 ⊢
       have K2 := hid (HF2.out w5 HB5.out HO5.out)
       clear HF2)
    | (refine wp_load8 rfl rfl rfl HT5.out ?_))
  refine Calls.mono K2.out ?_
  rintro e w6 ⟨r6, c6, rfl, i6, b6⟩
  have HB6 := hid (below_then HB5.out b6)
  have HT6 := hid (arr_new0 w6)
  have HI6 := hid i6
  clear b6 i6 K2 HB5 HO5 HT5
  go_wp2_with (
    refine wp_store8 (X := T2) rfl rfl rfl rfl HT6.out ?_
    have HB7 := hid (below_then HB6.out (made_arr T2 w6).2)
    have HI7 := hid (HI6.out.below (made_arr T2 w6).2)
    generalize hw7 : (w6.alloc _).setRow w6.heap.size (rowA 8 T2) = w7 at HB7 HI7 ⊢
    clear hw7 HB6 HI6 HT6
    have K3 := hid (HSx.out w7 HB7.out))
  refine Calls.mono K3.out ?_
  rintro e w8 ⟨r8, c8, rfl, l8, b8⟩
  have HB8 := hid (below_then HB7.out b8)
  have HI8 := hid (HI7.out.below b8)
  obtain ⟨q8, o8, rfl, hl8⟩ := l8.get (by have := HKx.out; omega)
  obtain ⟨z, hz⟩ : ∃ z, z = kx - 1 := ⟨_, rfl⟩
  obtain ⟨y8, d8, hc8, hi8⟩ := hl8 w8 (Below.refl _ _) z (by have := HKx.out; omega)
  have HL8 := hid hi8
  have x1 : (kx : Int) - 1 = (z : Int) := by have := HKx.out; omega
  have x2 : z < kx := by have := HKx.out; omega
  have x3 : kx ≤ 64 := by have := HKx.out; omega
  have x4 : wrap64 ((kx : Int) - 1) = (z : Int) := by rw [x1]; exact wr_in (by omega) (by omega)
  have K4 := hid (HSy.out w8 HB8.out)
  have HXL : Hid (∀ i, i < nx → -33554432 ≤ BX z i ∧ BX z i ≤ 33554432) := HBX.out z x2
  have HZ := hid hz
  rw [← hz] at HT1
  clear b8 l8 hl8 hi8 K3 HB7 HI7 HSx hz
  generalize w6.heap.size = p6
  go_wp2_with (fail)
  refine Calls.mono K4.out ?_
  rintro e w9 ⟨r9, c9, rfl, l9, b9⟩
  clear x4 x1
  have HB9 := hid (below_then HB8.out b9)
  have HI9 := hid (HI8.out.below b9)
  have HL9 := hid (HL8.out.below b9)
  obtain ⟨q9, o9, rfl, hl9⟩ := l9.get (by have := HKy.out; omega)
  have HM9 : Hid (∀ W, Below w9.heap.size w9 W → ∀ i, i < ky → ∃ ai ci, W.cell? ⟨q9, o9 + i, none⟩ = some (.slice ai ny ci) ∧ IsInts W ai ny ci (BY i)) := hl9
  obtain ⟨q6, o6, rfl, hb6, hcap6, hcap7, hc6⟩ : ∃ b off, r6 = some ⟨b, off, none⟩ ∧ b < w9.heap.size ∧ 64 ≤ c6 ∧ c6 ≤ maxLen ∧ ∀ i, i < 64 → w9.cell? ⟨b, off + i, none⟩ = some (.int .i64 (frF ny T1 (fun b => backF ny (BY b)) i)) := by
    rcases HI9.out with h | h
    · omega
    · exact h
  have HO6 : Hid (∀ W, Below w9.heap.size w9 W → ∀ b, b < ky → IsInts W (some ⟨q6, o6 + ny * b, none⟩) ny (c6 - ny * b) (fun i => frF ny T1 (fun b => backF ny (BY b)) (ny * b + i))) := fun W hW b hb => by
    have hk := HKy.out
    have : ny * b + ny ≤ 64 := by rcases hk with ⟨rfl, rfl⟩ | ⟨rfl, rfl⟩ <;> omega
    refine .inr ⟨q6, o6 + ny * b, rfl, Nat.lt_of_lt_of_le hb6 hW.size, by omega, by omega, fun i hi => ?_⟩
    rw [hW.cell (p := ⟨q6, o6 + ny * b + i, none⟩) hb6, Nat.add_assoc]
    exact hc6 (ny * b + i) (by omega)
  clear b9 l9 hl9 HI9 HI8 HL8 HB8 K4 HSy hc6 hb6 hc8
  go_wp2
  go_loopw [15, 17, 18] (fun l o i wr => ∃ b : Nat, b ≤ ky ∧ i = .int .i64 b ∧ o = .int .i64 ((ny * b : Nat) : Int) ∧ ∃ al cl, l = .slice al (lnN nx ny b) cl ∧ Hid (Below w9.heap.size w9 wr) ∧ Hid (IsInts wr al (lnN nx ny b) cl (lxF (BX z) BY b))) (fun _ _ i _ => ky - (intOf i).toNat)
  case atStart =>
    refine ⟨0, Nat.zero_le _, rfl, rfl, _, _, rfl, Below.refl _ _, ?_⟩
    exact HL9.out
  case round =>
    obtain ⟨b, hb, rfl, rfl, al, cl, rfl, HB, HL⟩ := hrel
    by_cases hlt : b < ky
    · have x13 : ky ≤ 8 := by have := HKy.out; omega
      obtain ⟨ai, ci, hcb, hIb⟩ := HM9.out wr HB.out b hlt
      have h1 : IsN (lnN nx ny b) := by have h1 := HNx.out; have h2 := HNy.out; unfold lnN; split <;> assumption
      have h2 : ∀ i, i < lnN nx ny b → -33554432 ≤ lxF (BX z) BY b i ∧ lxF (BX z) BY b i ≤ 33554432 := by
        unfold lnN lxF
        by_cases e : b = 0
        · simp only [if_pos e]; exact HXL.out
        · simp only [if_neg e]; exact HBY.out (b - 1) (by omega)
      have KE := hid (rexact_any h1 HNy.out al ai cl ci (lxF (BX z) BY b) (BY b) h2 (HBY.out b hlt) wr HL.out hIb)
      have HEB := hid (exF_bd h1 HNy.out h2 (HBY.out b hlt))
      have HNE := hid (fun (i : Nat) (hi : i < ny) => fr_near (nx := nx) (ny := ny) HNx.out HNy.out (XL := BX z) (BY := BY) (ky := ky) HXL.out HBY.out hlt hi)
      generalize exF (lnN nx ny b) ny (lxF (BX z) BY b) (BY b) = EX at KE HEB HNE
      have HO6b := hid (fun W hW => HO6.out W hW b hlt)
      have hyb : ny * b + ny ≤ 64 ∧ ny * (b + 1) = ny * b + ny ∧ 8 ≤ ny := by
        rcases HKy.out with ⟨e1, e2⟩ | ⟨e1, e2⟩ <;> subst e1 <;> subst e2 <;> omega
      obtain ⟨o, ho⟩ : ∃ o, o = ny * b := ⟨_, rfl⟩
      rw [← ho] at HNE HO6b hyb
      rw [← HT1.out] at HNE
      rw [← ho]
      obtain ⟨y, hy⟩ : ∃ y, y = o + ny := ⟨_, rfl⟩
      have HYO := hid (And.intro ho (And.intro hy hyb))
      have x5 : (o : Int) + (ny : Int) = (y : Int) := by omega
      have x6 : y ≤ 64 := by omega
      have x7 : o ≤ y := by omega
      have x8 : y ≤ c6 := by omega
      have x9 : ¬ (c6 = o) := by omega
      have x10 : y - o = ny := by omega
      have x11 : decide ((y : Int) > 64) = false := decide_eq_false (by omega)
      have x12 : ny ≤ 64 := by omega
      clear hIb h1 h2 HL ho hy hyb
      go_wp2_with (fail)
      refine Calls.mono KE.out ?_
      rintro e w10 ⟨a10, c10, rfl, i10, b10, _⟩
      have HB10 := hid (below_then HB.out b10)
      have KN := hid (near_yes (some ⟨q6, o6 + o, none⟩) a10 ny (c6 - o) c10 (fun i => frF ny T1 (fun b => backF ny (BY b)) (o + i)) EX x12 (fun i _ => frF_bd _ _ _ _) (fun i _ => HEB.out i) (fun i hi => HNE.out i hi) (by have := HYO.out; omega) w10 (HO6b.out w10 HB10.out) i10)
      clear b10 i10 KE HB hcb
      go_wp2_with (fail)
      refine Calls.mono KN.out ?_
      rintro e w11 ⟨rfl, b11⟩
      have HB11 := hid (below_then HB10.out b11)
      obtain ⟨ai', ci', hcb', hIb'⟩ := HM9.out w11 HB11.out b hlt
      have HIB := hid hIb'
      clear b11 KN HB10 hIb'
      go_wp2
      refine ⟨⟨b + 1, by omega, by go_num, by rw [HYO.out.2.2.2.1, ← HYO.out.2.1], ai', ci', by rw [lnN, if_neg (by omega)], HB11, ?_⟩, by simp [intOf]; omega⟩
      rw [show lnN nx ny (b + 1) = ny by rw [lnN, if_neg (by omega)], show lxF (BX z) BY (b + 1) = BY b by rw [lxF, if_neg (by omega), Nat.add_sub_cancel]]
      exact HIB
    · obtain rfl : b = ky := by omega
      have h64 : ny * b = 64 := by rcases HKy.out with ⟨e1, e2⟩ | ⟨e1, e2⟩ <;> subst e1 <;> subst e2 <;> rfl
      rw [h64]
      have hB2 := HB9.out.trans (HB.out.mono HB9.out.size)
      have K := hid (HA.out wr hB2)
      have HBB := hid hB2
      clear hB2 h64
      go_wp2_with (go_at_call 7; (with_reducible refine K.out.mono ?_); rintro e w12 ⟨rfl, b12⟩)
      go_ret
      exact ⟨rfl, below_then HBB.out b12⟩
end Go.Proofs.YtfhcfdepjhdhfaaDoor
