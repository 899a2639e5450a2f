/-
  The law's own end: a frame of numbers 0, and one of a single wave.
-/
import Derived.Test.YtfhcfdepjhdhfaaDoorYW
import Derived.Test.YtfhcfdepjhdhfaaDoorZC
import Derived.Test.YtfhcfdepjhdhfaaDoorZB
namespace Go.Proofs.YtfhcfdepjhdhfaaDoor
open Go.ChangeShapes Go.WideShapes Go.ChangeAt Go.RowKit
set_option linter.unusedVariables false

theorem xsum_none {n : Nat} {U : Nat → Int} (h : ∀ i, i < n → U i = 0) (k : Nat) : xsum n U k = 0 := by
  rw [xsum, sumN_congr n (g := fun _ => 0) (fun i hi => by rw [h i hi, Int.zero_mul]), sumN_zero]
theorem back_none {n : Nat} {U : Nat → Int} (h : ∀ i, i < n → U i = 0) (k : Nat) : backF n U k = 0 := by
  rw [backF, xsum_none h]
  unfold shrB
  split <;> rfl
theorem yS_none (short : Bool) (b : Nat) (k : Nat) : yS short (fun _ => 0) b k = 0 := by
  refine back_none (fun i _ => ?_) k
  cases short <;> rfl
theorem left_none {u : Nat → Int} (h : ∀ i, u i = 0) (j : Nat) : wLeftF u j = 0 := by rw [wLeftF, h, Int.mul_zero]
theorem right_none (n : Nat) {u : Nat → Int} (h : ∀ i, u i = 0) (j : Nat) : wRightF n u j = 0 := by
  unfold wRightF
  split <;> rw [h, Int.mul_zero]
theorem tl_none (n : Nat) {Y : Nat → Nat → Int} (h : ∀ b i, Y b i = 0) (b j : Nat) : tlF n (fun _ => 0) Y b j = 0 := by
  unfold tlF
  split
  · rfl
  · exact right_none n (h _) j
theorem smp_none (short : Bool) (i : Nat) : smpF short (fun _ => 0) (fun _ => 0) i = 0 := by
  unfold smpF frF
  split
  · rw [tl_none _ (yS_none short), left_none (yS_none short _)]; rfl
  · rw [yS_none]; rfl
theorem end_none (short : Bool) (i : Nat) : endF short (fun _ => 0) (fun _ => 0) i = 0 := tl_none _ (yS_none short) _ _
def ex64 (i : Nat) : Int := if i = 0 then 32000 else 0
theorem ex_six : (decide (900 < satF (backF 64 ex64 6)) && decide (satF (backF 64 ex64 6) < 1000)) = true := by decide +kernel
theorem ex_end : decide (wRightF 64 (backF 64 ex64) 0 = 0) = false := by decide +kernel
theorem yS_long (X : Nat → Int) (b : Nat) : yS false X b = backF 64 X := rfl
theorem smp_ten : smpF false (fun _ => 0) ex64 10 = satF (backF 64 ex64 6) := by
  have h := frF_own (n := 64) (fun _ => 0) (yS false ex64) (b := 0) (k := 6) (by omega) (by omega)
  rw [yS_long] at h
  exact h
theorem end_ex : endF false (fun _ => 0) ex64 0 = wRightF 64 (backF 64 ex64) 0 := rfl
theorem ten_in : 900 < smpF false (fun _ => 0) ex64 10 ∧ smpF false (fun _ => 0) ex64 10 < 1000 := by
  rw [smp_ten]
  have h := ex_six
  simpa using h
theorem end_not : endF false (fun _ => 0) ex64 0 ≠ 0 := by
  rw [end_ex]
  have h := ex_end
  simpa using h
theorem ok_zero : allIn (-33554432) 33554432 (fun _ => 0) 64 = true := (allIn_iff _ _ _ _).2 fun i _ => by omega
theorem ok_ex : allIn (-33554432) 33554432 ex64 64 = true := (allIn_iff _ _ _ _).2 fun i _ => by unfold ex64; split <;> omega
theorem ok_tail : allIn (-35184372088832) 35184372088832 (fun _ => 0) 8 = true := (allIn_iff _ _ _ _).2 fun i _ => by omega
abbrev zero8 : Value := .agg #[Value.int .i64 0, Value.int .i64 0, Value.int .i64 0, Value.int .i64 0, Value.int .i64 0, Value.int .i64 0, Value.int .i64 0, Value.int .i64 0]
theorem awake_frame (short : Bool) (t : Nat) (a : Option Addr) (cap : Nat) (X : Nat → Int) (hX : allIn (-33554432) 33554432 X 64 = true) (w : World) (ht : Tab t w) (hs : STab w) (h : IsInts w a 64 cap X) :
    Calls Tryd.prog 9 #[.pointer (some ⟨t, 0, none⟩), zero8, .slice a 64 cap, .bool short] w (LFPost (smpF short (fun _ => 0) X) (endF short (fun _ => 0) X) w) :=
  frame_ok short t a cap X (fun _ => 0) hX ok_tail w ht hs h
theorem lawake_any (w : World) (hs : STab w) :
    Calls Tryd.prog 7 #[] w fun e w' => e = .returned (.bool true) ∧ Below w.heap.size w w' := by
  have hmk : ∀ w, (Instr.makeSlice 23 (.int .i64 64) (.int .i64 64)).run Tryd.prog w = .ok (.slice (some ⟨w.heap.size, 0, none⟩) 64 64) (w.alloc (.cells (rowA 64 (fun _ => 0)) 3)) := make_ints (n := 64) (by omega)
  have HS := hid hs
  clear hs
  go_enter Tryd.func7, Tryd.ntmps7
  go_wp2_with (go_at_call 8; refine (make_any _).mono ?_; rintro e w1 ⟨rfl, ht, hb⟩)
  have HT := hid ht
  have HB1 := hid hb
  have HX1 := hid (And.intro (al_new w1 (.cells (rowA 64 (fun _ => 0)) 3)) ((Below.refl _ w1).alloc (Nat.le_refl _) (.cells (rowA 64 (fun _ => 0)) 3)))
  clear ht hb
  generalize w1.alloc (.cells (rowA 64 (fun _ => 0)) 3) = W1 at HX1 ⊢
  obtain ⟨r, hr⟩ : ∃ r, r = w1.heap.size := ⟨_, rfl⟩
  obtain ⟨t, ht⟩ : ∃ t, t = w.heap.size := ⟨_, rfl⟩
  rw [← hr, ← ht]
  have HL := hid (And.intro hr ht)
  have HXR : Hid (RowAt r 64 (fun _ => 0) W1) := by rw [hr]; exact HX1.out.1
  have HBW : Hid (Below t w W1) := by rw [ht]; exact below_then HB1.out HX1.out.2
  have HRT : Hid (t < r ∧ r < W1.heap.size) := ⟨by rw [hr, ht]; exact HT.out.1, by have := HXR.out.lt; omega⟩
  have HTT : Hid (∀ V, Below r W1 V → Tab t V ∧ STab V) := fun V hV => by
    have h1 := HT.out.below HT.out.1 HX1.out.2
    have h2 := HS.out.below (by rw [← ht]; exact HBW.out)
    refine ⟨?_, h2.frame hV ?_⟩
    · rw [ht]
      exact h1.below (by rw [← ht]; exact HRT.out.1) hV
    · have := HS.out.lt
      have := HRT.out.1
      omega
  clear hr ht HT HB1 HX1 HS
  have H0 := HTT.out W1 (Below.refl _ _)
  refine (awake_frame true t (some ⟨r, 0, none⟩) 64 (fun _ => 0) ok_zero W1 H0.1 H0.2 (HXR.out.ints (by decide))).mono ?_
  clear H0
  rintro e w2 ⟨ra, rfl, hra, h2, b2⟩
  have HRA := hid (h2.congr (Y := fun _ => 0) (fun i _ => smp_none true i))
  have HB2 := hid b2
  have HNE := hid (show r ≠ ra by have := HXR.out.lt; omega)
  have HP0 := hid (arr_new0 w2)
  rw [arr8_congr (Y := fun _ => 0) (fun i _ => end_none true i)]
  clear h2 b2 hra
  have HP := hid (made_arr (fun _ => 0) w2)
  have HBR : Hid (Below r W1 w2) := HB2.out.mono (by have := HRT.out; omega)
  have HXR2 := hid (HXR.out.below HB2.out)
  have HW2 : Hid (r < w2.heap.size) := Nat.lt_of_lt_of_le HRT.out.2 HB2.out.size
  clear HB2 HXR
  go_wp2_with (
    refine wp_store8 (X := fun _ => 0) rfl rfl rfl rfl HP0.out ?_
    have HP4 := hid HP.out.1
    have HB4 := hid (HBR.out.trans (HP.out.2.mono (Nat.le_of_lt HW2.out)))
    have HX4 := hid (HXR2.out.below HP.out.2)
    have HA4 := hid (HRA.out.below HP.out.2)
    generalize hw4 : (w2.alloc _).setRow w2.heap.size (rowA 8 (fun _ => 0)) = w4 at HP4 HB4 HX4 HA4 ⊢
    clear hw4 HP HP0 HRA HXR2 HBR
    obtain ⟨p4, hp4⟩ : ∃ p4, p4 = w2.heap.size := ⟨_, rfl⟩
    rw [← hp4] at HP4 ⊢
    have HPN : Hid (p4 ≠ r) := by have := HW2.out; show p4 ≠ r; omega
    clear hp4
    have hc0 := HX4.out.get (j := 0) (by omega)
    have hf0 := IsAt.frozen HX4.out 0)
  have HX5 := hid ((HX4.out.set (j := 0) (by omega) 32000).congr (Y := ex64) (fun i _ => by unfold upd ex64; split <;> rfl))
  have HP5 := hid (HP4.out.other (a := ⟨r, 0, none⟩) HPN.out (.int .i64 32000))
  have HA5 := hid (IsAt.other HA4.out (a := ⟨r, 0, none⟩) (show ra ≠ r from fun e => HNE.out e.symm) (.int .i64 32000))
  have HB5 := hid (HB4.out.setCell (p := ⟨r, 0, none⟩) (Nat.le_refl r) (.int .i64 32000))
  generalize w4.setCell ⟨r, 0, none⟩ (.int .i64 32000) = w5 at HX5 HP5 HA5 HB5 ⊢
  clear HX4 HP4 HA4 HB4 hc0 hf0 HW2
  have H0 := HTT.out w5 HB5.out
  refine (awake_frame false t (some ⟨r, 0, none⟩) 64 ex64 ok_ex w5 H0.1 H0.2 (HX5.out.ints (by decide))).mono ?_
  clear H0 HTT
  rintro e w6 ⟨rb, rfl, _, h6, b6⟩
  obtain ⟨v, hv⟩ : ∃ v, v = smpF false (fun _ => 0) ex64 10 := ⟨_, rfl⟩
  have hv1 : 900 < v := by rw [hv]; exact ten_in.1
  have hv2 : v < 1000 := by rw [hv]; exact ten_in.2
  obtain ⟨E, hE⟩ : ∃ E, E = endF false (fun _ => 0) ex64 := ⟨_, rfl⟩
  have hE0 : E 0 ≠ 0 := by rw [hE]; exact end_not
  have heq1 : ∀ w, (Op.equalIn 10000 22 (arr8 fun _ => 0) zero8).run Tryd.prog w = .ok true w := equal8_yes (X := fun _ => 0) (Y := fun _ => 0) (fun _ _ => rfl)
  have heq2 : ∀ w, (Op.equalIn 10000 22 (arr8 E) zero8).run Tryd.prog w = .ok false w := equal8_no (X := E) (Y := fun _ => 0) hE0
  rw [← hE]
  have HC6 : Hid (∀ V, Below w6.heap.size w6 V → V.cell? ⟨rb, 10, none⟩ = some (.int .i64 v)) := fun V hV => by
    rw [hv]; exact (h6.below hV).get (by omega)
  have HP6 := hid (HP5.out.below b6)
  have HA6 := hid (RowAt.below HA5.out b6)
  have HB6 : Hid (Below t w w6) := HBW.out.trans ((HB5.out.mono (Nat.le_of_lt HRT.out.1)).trans (b6.mono (by have := HX5.out.lt; have := HRT.out; omega)))
  have HLT : Hid (t ≤ w6.heap.size) := by have := HX5.out.lt; have := b6.size; have := HRT.out; show t ≤ _; omega
  have HP7 := hid (made_arr E w6)
  have HP0 := hid (arr_new0 w6)
  clear hv hE h6 b6 HX5 HP5 HA5 HB5 hE0 HPN HNE HBW HRT
  go_wp2_with (first
    | (refine wp_store8 (X := E) rfl rfl rfl rfl HP0.out ?_
       have HP8 := hid HP7.out.1
       have HB8 := hid HP7.out.2
       generalize hw8 : (w6.alloc _).setRow w6.heap.size (rowA 8 E) = w8 at HP8 HB8 ⊢
       clear hw8 HP7 HP0
       generalize w6.heap.size = p8 at HP8 ⊢
       have KS := hid (same_yes (some ⟨ra, 0, none⟩) (some ⟨w8.heap.size, 0, none⟩) 64 64 64 (fun _ => 0) (by omega) (w8.alloc (.cells (rowA 64 (fun _ => 0)) 3))
         (((RowAt.below HA6.out HB8.out).ints (by decide)).below ((Below.refl _ w8).alloc (Nat.le_refl _) _)) (RowAt.ints (al_new w8 _) (by decide))))
    | (go_at_call 11; (with_reducible refine KS.out.mono ?_); rintro e w9 ⟨rfl, b9⟩
       have HB9 := hid (below_then ((Below.refl _ w8).alloc (Nat.le_refl _) (.cells (rowA 64 (fun _ => 0)) 3)) b9)
       have HP9 := hid (HP8.out.below HB9.out)
       have HP69 := hid ((HP6.out.below HB8.out).below HB9.out)
       have hc9 := HC6.out w9 (below_then HB8.out HB9.out)
       have HBE := hid (HB6.out.trans ((below_then HB8.out HB9.out).mono HLT.out))
       clear b9)
    | (refine wp_load8g rfl rfl rfl HP69.out ?_)
    | (refine wp_load8g rfl rfl rfl HP9.out ?_))
  go_ret
  exact ⟨rfl, by rw [← HL.out.2]; exact HBE.out⟩
theorem lawake_to {w : World} (hs : STab w) : Hid (∀ W, Below w.heap.size w W → Calls Tryd.prog 7 #[] W fun e w' => e = .returned (.bool true) ∧ Below w.heap.size w w') :=
  fun W hW => (lawake_any W (hs.below hW)).mono fun e w' ⟨he, hb⟩ => ⟨he, below_then hW hb⟩
end Go.Proofs.YtfhcfdepjhdhfaaDoor
