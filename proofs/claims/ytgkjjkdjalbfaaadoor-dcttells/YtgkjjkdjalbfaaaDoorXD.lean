/-
  The contracts of dct.Four and Back: of a block, of none, and of no table.
-/
import Derived.Test.YtgkjjkdjalbfaaaDoorXC
namespace Go.Proofs.YtgkjjkdjalbfaaaDoor
open Go.ChangeShapes Go.WideShapes Go.ChangeAt Go.RowKit
set_option linter.unusedVariables false

theorem IsN.half {n : Nat} (h : IsN n) : ∃ h, n = 2 * h := by
  rcases h with rfl | rfl
  · exact ⟨4, rfl⟩
  · exact ⟨32, rfl⟩
theorem xsum_in {n : Nat} (hN : IsN n) {U : Nat → Int} (hU : ∀ i, i < n → -33554432 ≤ U i ∧ U i ≤ 33554432) (k : Nat) : -2305843009213693952 ≤ xsum n U k ∧ xsum n U k ≤ 2305843009213693952 := by
  have h := xsum_bd hU k
  have e : (n : Int) * (33554432 * 16777216) ≤ 64 * (33554432 * 16777216) := Int.mul_le_mul_of_nonneg_right (by have := hN.le; omega) (by omega)
  omega
theorem shr_four {n : Nat} (hN : IsN n) {U : Nat → Int} (hU : ∀ i, i < n → -33554432 ≤ U i ∧ U i ≤ 33554432) (k : Nat) : shrF (xsum n U k) 24 = fourF n U k := by
  have h := xsum_in hN hU k
  rw [shrF24 h.1 h.2]; rfl
theorem shr_back {n : Nat} (hN : IsN n) {X : Nat → Int} (hX : ∀ i, i < n → -33554432 ≤ X i ∧ X i ≤ 33554432) (i : Nat) : shrF (xsum n X i) (if n = 64 then 29 else 26) = backF n X i := by
  have h := xsum_in hN hX i
  rw [backF]
  rcases hN with rfl | rfl
  · rw [if_neg (by decide), shrF, if_pos ⟨h.1, h.2, by omega, by omega⟩, shrB, if_neg (by decide)]; rfl
  · rw [if_pos rfl, shrF, if_pos ⟨h.1, h.2, by omega, by omega⟩, shrB, if_pos rfl]; rfl
theorem SPost.congr {n : Nat} {G G' : Nat → Int} {w : World} {e : Ending} {w' : World} (h : SPost n G w e w') (hg : ∀ i, i < n → G i = G' i) : SPost n G' w e w' := by
  obtain ⟨r, he, h1, h2, h3⟩ := h
  exact ⟨r, he, h1, h2.congr hg, h3⟩

theorem four_yes {n : Nat} (hN : IsN n) (t : Nat) (a : Option Addr) (cap : Nat) (U : Nat → Int) (hU : ∀ i, i < n → -33554432 ≤ U i ∧ U i ≤ 33554432) (w : World) (ht : Tab t w) (hu : IsInts w a n cap U) :
    Calls Tryd.prog 8 #[.pointer (some ⟨t, 0, none⟩), .slice a n cap] w (SPost n (fourF n U) w) := by
  obtain ⟨h, hn⟩ := hN.half
  have HF : Hid (Calls Tryd.prog 16 #[.slice a n cap, .int .i64 33554432] w fun e w' => e = .returned (.bool true) ∧ w' = w) := by
    have := xfits_any 33554432 (by omega) (by omega) a n cap U (Nat.le_trans hN.le (by decide)) w hu
    rwa [rightF_of hN hU] at this
  have HS : Hid (Calls Tryd.prog 17 #[.pointer (some ⟨t, 0, none⟩), .slice a n cap, .int .i64 24] w (SPost n (fourF n U) w)) :=
    (sums_any hN hn t a cap U hU 24 w ht hu).mono fun e w' hp => hp.congr (fun i _ => shr_four hN hU i)
  clear hU ht hu hN hn
  go_enter Tryd.func8, Tryd.ntmps8
  go_wp2_with (first
    | (go_at_call 16; refine HF.out.mono ?_; rintro e w1 ⟨rfl, rfl⟩)
    | (go_at_call 17; refine Calls.mono HS.out ?_; rintro e w2 ⟨r, rfl, h1, h2, h3⟩; replace h2 : Hid _ := h2; replace h3 : Hid _ := h3))
  go_ret
  exact ⟨r, rfl, h1, h2.out, h3.out⟩
theorem four_no (t : Nat) (a : Option Addr) (len cap : Nat) (U : Nat → Int) (hl : len ≤ maxLen) (h : rightF U len 33554432 = false) (w : World) (hu : IsInts w a len cap U) :
    Calls Tryd.prog 8 #[.pointer (some ⟨t, 0, none⟩), .slice a len cap] w fun e w' => e = .returned (.slice none 0 0) ∧ w' = w := by
  have HF : Hid (Calls Tryd.prog 16 #[.slice a len cap, .int .i64 33554432] w fun e w' => e = .returned (.bool false) ∧ w' = w) := by
    have := xfits_any 33554432 (by omega) (by omega) a len cap U hl w hu
    rwa [h] at this
  clear h hu hl
  go_enter Tryd.func8, Tryd.ntmps8
  go_wp2_with (go_at_call 16; refine HF.out.mono ?_; rintro e w1 ⟨rfl, rfl⟩)
  go_ret
  exact ⟨rfl, rfl⟩
theorem four_nil (a : Option Addr) (len cap : Nat) (w : World) :
    Calls Tryd.prog 8 #[.pointer none, .slice a len cap] w fun e w' => e = .returned (.slice none 0 0) ∧ w' = w := by
  go_enter Tryd.func8, Tryd.ntmps8
  go_wp2
  go_ret
  exact ⟨rfl, rfl⟩
theorem back_yes {n : Nat} (hN : IsN n) (t : Nat) (a : Option Addr) (cap : Nat) (U : Nat → Int) (hU : ∀ i, i < n → -33554432 ≤ U i ∧ U i ≤ 33554432) (w : World) (ht : Tab t w) (hu : IsInts w a n cap U) :
    Calls Tryd.prog 10 #[.pointer (some ⟨t, 0, none⟩), .slice a n cap] w (SPost n (backF n U) w) := by
  obtain ⟨h, hn⟩ := hN.half
  have HF : Hid (Calls Tryd.prog 16 #[.slice a n cap, .int .i64 33554432] w fun e w' => e = .returned (.bool true) ∧ w' = w) := by
    have := xfits_any 33554432 (by omega) (by omega) a n cap U (Nat.le_trans hN.le (by decide)) w hu
    rwa [rightF_of hN hU] at this
  have HS : Hid (Calls Tryd.prog 17 #[.pointer (some ⟨t, 0, none⟩), .slice a n cap, .int .i64 (if n = 64 then 29 else 26)] w (SPost n (backF n U) w)) :=
    (sums_any hN hn t a cap U hU _ w ht hu).mono fun e w' hp => hp.congr (fun i _ => shr_back hN hU i)
  clear hU ht hu hn
  rcases hN with rfl | rfl
  · replace HS : Hid (Calls Tryd.prog 17 #[.pointer (some ⟨t, 0, none⟩), .slice a 8 cap, .int .i64 26] w (SPost 8 (backF 8 U) w)) := HS
    go_enter Tryd.func10, Tryd.ntmps10
    go_wp2_with (first
      | (go_at_call 16; refine HF.out.mono ?_; rintro e w1 ⟨rfl, rfl⟩)
      | (go_at_call 17; refine Calls.mono HS.out ?_; rintro e w2 ⟨r, rfl, h1, h2, h3⟩; replace h2 : Hid _ := h2; replace h3 : Hid _ := h3))
    go_ret
    exact ⟨r, rfl, h1, h2.out, h3.out⟩
  · replace HS : Hid (Calls Tryd.prog 17 #[.pointer (some ⟨t, 0, none⟩), .slice a 64 cap, .int .i64 29] w (SPost 64 (backF 64 U) w)) := HS
    go_enter Tryd.func10, Tryd.ntmps10
    go_wp2_with (first
      | (go_at_call 16; refine HF.out.mono ?_; rintro e w1 ⟨rfl, rfl⟩)
      | (go_at_call 17; refine Calls.mono HS.out ?_; rintro e w2 ⟨r, rfl, h1, h2, h3⟩; replace h2 : Hid _ := h2; replace h3 : Hid _ := h3))
    go_ret
    exact ⟨r, rfl, h1, h2.out, h3.out⟩
theorem back_no (t : Nat) (a : Option Addr) (len cap : Nat) (U : Nat → Int) (hl : len ≤ maxLen) (h : rightF U len 33554432 = false) (w : World) (hu : IsInts w a len cap U) :
    Calls Tryd.prog 10 #[.pointer (some ⟨t, 0, none⟩), .slice a len cap] w fun e w' => e = .returned (.slice none 0 0) ∧ w' = w := by
  have HF : Hid (Calls Tryd.prog 16 #[.slice a len cap, .int .i64 33554432] w fun e w' => e = .returned (.bool false) ∧ w' = w) := by
    have := xfits_any 33554432 (by omega) (by omega) a len cap U hl w hu
    rwa [h] at this
  clear h hu hl
  go_enter Tryd.func10, Tryd.ntmps10
  go_wp2_with (go_at_call 16; refine HF.out.mono ?_; rintro e w1 ⟨rfl, rfl⟩)
  go_ret
  exact ⟨rfl, rfl⟩
theorem back_nil (a : Option Addr) (len cap : Nat) (w : World) :
    Calls Tryd.prog 10 #[.pointer none, .slice a len cap] w fun e w' => e = .returned (.slice none 0 0) ∧ w' = w := by
  go_enter Tryd.func10, Tryd.ntmps10
  go_wp2
  go_ret
  exact ⟨rfl, rfl⟩
end Go.Proofs.YtgkjjkdjalbfaaaDoor
