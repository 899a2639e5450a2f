/-
  Proved: for any tail of eight numbers, any list of ints of up to 70 numbers, long or short, and any list of up to 10 lists of up to 10 numbers, the samples and the tail behind them, what is laid and what is picked are the document's, or none where the document has none, and who has no table tells none (longer lists: the law answers by the chapter's example alone). Conditions: none beside the row's own (the slope's eight numbers read as the program's text lays them; the card ties it to the pruned copy).
-/
import Derived.Test.YtfhcfdepjhdhfaaDoorCards
import Derived.Test.YtfhcfdepjhdhfaaDoorTie
import Derived.Test.YtfhcfdepjhdhfaaDoorYV
import Derived.Test.YtfhcfdepjhdhfaaDoorYU
import Derived.Test.YtfhcfdepjhdhfaaDoorZC
import Derived.Test.YtfhcfdepjhdhfaaDoorZL
import Derived.WalkKit
import Derived.ProofKit
import Derived.OpenShut
import Derived.ShutString
import Derived.ChangeOld
import Derived.Below
import Derived.Lay
import Derived.LaidOnce
import Derived.SevenTiedAt
namespace Go.Proofs.YtfhcfdepjhdhfaaDoor.lapFrames
open Go.ChangeShapes Go.WideShapes Go.ChangeAt Go.RowKit
open Go.ChangeMaps (open_string shut_string)
set_option linter.unusedVariables false

theorem own : ownKnob Tryd.prog.godebug = none := by kernel_rfl
theorem laidOut : laidOutB Tryd.prog = true := by kernel_rfl

/-- A list of m numbers. -/
def IPost (m : Nat) (G : Nat → Int) (w : World) (e : Ending) (w' : World) : Prop := ∃ a cap, e = .returned (.slice a m cap) ∧ IsInts w' a m cap G ∧ Below w.heap.size w w'
theorem walkBig (w : World) (hs : STab w) (T : Nat → Int) (a a' : Option Addr) (len cap len' cap' : Nat) (ml : len ≤ maxLen) (ml' : len' ≤ maxLen) (h : 70 < len ∨ 10 < len') (b : Bool) :
    Calls Tryd.prog 3 #[arr8 T, .slice a len cap, .bool b, .slice a' len' cap'] w fun e w' => e = .returned (.bool true) ∧ Below w.heap.size w w' := by
  unfold maxLen at ml ml'
  have k0 := lawake_to hs
  have b0 := hid ((Below.refl _ w).alloc (Nat.le_refl _) (.cells (rowA 8 T) 22))
  clear hs
  by_cases h1 : 70 < len
  · have hi : decide ((len : Int) > 70) = true := decide_eq_true (by omega)
    clear h
    go_enter Tryd.func3, Tryd.ntmps3
    go_wp2_with (go_at_call 7; refine (k0.out _ b0.out).mono ?_; rintro e w1 ⟨rfl, b1⟩)
    go_ret
    exact ⟨rfl, b1⟩
  · have h2 : 10 < len' := by omega
    have hi : decide ((len : Int) > 70) = false := decide_eq_false (by omega)
    have hi' : decide ((len' : Int) > 10) = true := decide_eq_true (by omega)
    clear h
    go_enter Tryd.func3, Tryd.ntmps3
    go_wp2_with (go_at_call 7; refine (k0.out _ b0.out).mono ?_; rintro e w1 ⟨rfl, b1⟩)
    go_ret
    exact ⟨rfl, b1⟩
set_option maxRecDepth 100000 in
theorem walkMain (w : World) (hs : STab w) (T : Nat → Int) (a a' : Option Addr) (len cap len' cap' : Nat) (ml : len ≤ 70) (ml' : len' ≤ 10) (N : Nat → Nat) (Y : Nat → Nat → Int) (hN : ∀ i, i < len' → N i ≤ maxLen) (hl : IsListsV w a' len' cap' N Y) (b : Bool)
    (m : Nat) (G E : Nat → Int) (hm : m ≤ 64) (m' : Nat) (G' : Nat → Int) (hm' : m' ≤ 64) (mP : Int → Nat) (GP : Int → Nat → Int) (hmP : ∀ j, mP j ≤ 64)
    (hF : ∀ W t, Below w.heap.size w W → Tab t W → Calls Tryd.prog 9 #[.pointer (some ⟨t, 0, none⟩), arr8 T, .slice a len cap, .bool b] W (FrPost m G E W))
    (hR : ∀ W, Below w.heap.size w W → Calls Tryd.prog 10 #[arr8 T, .slice a len cap, .bool b] W (FrPost m G E W))
    (hL : ∀ W, Below w.heap.size w W → Calls Tryd.prog 12 #[.slice a' len' cap'] W (IPost m' G' W))
    (hL' : ∀ W, Below w.heap.size w W → Calls Tryd.prog 13 #[.slice a' len' cap'] W (IPost m' G' W))
    (hP : ∀ j W, Below w.heap.size w W → Calls Tryd.prog 14 #[.slice a len cap, .int .i64 j] W (IPost (mP j) (GP j) W))
    (hP' : ∀ j W, Below w.heap.size w W → Calls Tryd.prog 15 #[.slice a len cap, .int .i64 j] W (IPost (mP j) (GP j) W)) :
    Calls Tryd.prog 3 #[arr8 T, .slice a len cap, .bool b, .slice a' len' cap'] w fun e w' => e = .returned (.bool true) ∧ Below w.heap.size w w' := by
  have k0 := lawake_to hs
  have hi : decide ((len : Int) > 70) = false := decide_eq_false (by omega)
  have hi' : decide ((len' : Int) > 10) = false := decide_eq_false (by omega)
  have HT0 := hid (arr_new T w)
  have HB0 := hid ((Below.refl _ w).alloc (Nat.le_refl _) (.cells (rowA 8 T) 22))
  have HF := hid hF
  have HR := hid hR
  have HL := hid hL
  have HL' := hid hL'
  have HP := hid hP
  have HP' := hid hP'
  have HN := hid hN
  have HLL := hid hl
  have HM := hid (And.intro hm (And.intro hm' hmP))
  clear hF hR hL hL' hP hP' hN hl hm hm' hmP hs
  go_enter Tryd.func3, Tryd.ntmps3
  go_wp2
  generalize w.alloc (.cells (rowA 8 T) 22) = W0 at HT0 HB0 ⊢
  obtain ⟨p0, hp0⟩ : ∃ p0, p0 = w.heap.size := ⟨_, rfl⟩
  have HT : Hid (ArrAt p0 T W0) := by rw [hp0]; exact HT0.out
  rw [← hp0]
  clear HT0 hp0
  go_loopw [9] (fun i wr => ∃ k : Nat, k ≤ len' ∧ i = .int .i64 k ∧ Hid (ArrAt p0 T wr ∧ Below w.heap.size w wr)) (fun i _ => len' - (intOf i).toNat)
  case atStart => exact ⟨0, Nat.zero_le _, rfl, HT.out, HB0.out⟩
  case round =>
    clear HT HB0
    obtain ⟨k, hk, rfl, HI⟩ := hrel
    by_cases hlt : k < len'
    · obtain ⟨lb, lo, rfl, hlb, _, _, hl2⟩ : ∃ b off, a' = some ⟨b, off, none⟩ ∧ b < w.heap.size ∧ len' ≤ cap' ∧ cap' ≤ maxLen ∧ ∀ i, i < len' → ∃ ai ci, w.cell? ⟨b, off + i, none⟩ = some (.slice ai (N i) ci) ∧ IsInts w ai (N i) ci (Y i) := by
        rcases HLL.out with h | h
        · omega
        · exact h
      obtain ⟨ai, ci, hcw, _⟩ := hl2 k hlt
      have hcell : wr.cell? ⟨lb, lo + k, none⟩ = some (.slice ai (N k) ci) := by rw [HI.out.2.cell (p := ⟨lb, lo + k, none⟩) hlb]; exact hcw
      have hNk := HN.out k hlt
      unfold maxLen at hNk
      clear hl2 hcw
      generalize N k = nk at *
      by_cases hbig : 10 < nk
      · have hd : decide ((nk : Int) > 10) = true := decide_eq_true (by omega)
        go_wp2_with (go_at_call 7; (with_reducible refine (k0.out _ HI.out.2).mono ?_); rintro e w1 ⟨rfl, b1⟩)
        go_ret
        exact ⟨rfl, b1⟩
      · have hd : decide ((nk : Int) > 10) = false := decide_eq_false (by omega)
        go_wp2
        exact ⟨⟨k + 1, by omega, by go_num, HI⟩, by simp [intOf]; omega⟩
    · obtain rfl : k = len' := by omega
      go_wp2_with (first
        | (go_at_call 8; refine (make_any _).mono ?_; rintro e w1 ⟨rfl, ht, b1⟩
           have HT1 := hid (And.intro (HI.out.1.below b1) (below_then HI.out.2 b1))
           have KF := hid (HF.out w1 _ HT1.out.2 ht)
           clear ht b1 HI)
        | (refine wp_load8 rfl rfl rfl HT1.out.1 ?_))
      refine Calls.mono KF.out ?_
      rintro e w2 ⟨a2, c2, rfl, i2, b2⟩
      have HT2 := hid (And.intro (HT1.out.1.below b2) (below_then HT1.out.2 b2))
      have HI2 := hid i2
      have HN2 := hid (arr_new0 w2)
      have HM2 := hid (made_arr E w2)
      clear i2 b2 KF HT1
      go_wp2_with (first
        | (refine wp_store8 (X := E) rfl rfl rfl rfl HN2.out ?_
           have HT3 := hid (And.intro (HT2.out.1.below HM2.out.2) (below_then HT2.out.2 HM2.out.2))
           have HI3 := hid (HI2.out.below HM2.out.2)
           have HP3 := hid HM2.out.1
           generalize hw3 : (w2.alloc _).setRow w2.heap.size (rowA 8 E) = w3 at HT3 HI3 HP3 ⊢
           clear hw3 HN2 HM2 HT2 HI2
           generalize w2.heap.size = p3 at HP3 ⊢
           have KR := hid (HR.out w3 HT3.out.2))
        | (refine wp_load8 rfl rfl rfl HT3.out.1 ?_))
      refine Calls.mono KR.out ?_
      rintro e w4 ⟨a4, c4, rfl, i4, b4⟩
      have HT4 := hid (And.intro (HT3.out.1.below b4) (below_then HT3.out.2 b4))
      have HI4 := hid (And.intro (HI3.out.below b4) i4)
      have HP4 := hid (HP3.out.below b4)
      have HN4 := hid (arr_new0 w4)
      have HM4 := hid (made_arr E w4)
      clear i4 b4 KR HT3 HI3 HP3
      go_wp2_with (first
        | (refine wp_store8 (X := E) rfl rfl rfl rfl HN4.out ?_
           have HT5 := hid (And.intro (HT4.out.1.below HM4.out.2) (below_then HT4.out.2 HM4.out.2))
           have HI5 := hid (And.intro (HI4.out.1.below HM4.out.2) (HI4.out.2.below HM4.out.2))
           have HP5 := hid (And.intro (HP4.out.below HM4.out.2) HM4.out.1)
           generalize hw5 : (w4.alloc _).setRow w4.heap.size (rowA 8 E) = w5 at HT5 HI5 HP5 ⊢
           clear hw5 HN4 HM4 HT4 HI4 HP4
           generalize w4.heap.size = p5 at HP5 ⊢)
        | (refine wp_load8 rfl rfl rfl HT5.out.1 ?_))
      refine (frame_nil b a len cap T w5).mono ?_
      rintro e w6 ⟨rfl, b6⟩
      have HT6 := hid (below_then HT5.out.2 b6)
      have HI6 := hid (And.intro (HI5.out.1.below b6) (HI5.out.2.below b6))
      have HP6 := hid (And.intro (HP5.out.1.below b6) (HP5.out.2.below b6))
      have HN6 := hid (arr_new0 w6)
      have HM6 := hid (made_arr (fun _ => 0) w6)
      have heq : ∀ w, (Op.equalIn 10000 22 (arr8 E) (arr8 E)).run Tryd.prog w = .ok true w := equal8_yes (X := E) (Y := E) (fun _ _ => rfl)
      clear b6 HT5 HI5 HP5
      go_wp2_with (
        refine wp_store8 (X := fun _ => 0) rfl rfl rfl rfl HN6.out ?_
        have HT7 := hid (below_then HT6.out HM6.out.2)
        have KS := hid (same_yes a2 a4 m c2 c4 G HM.out.1 _ (HI6.out.1.below HM6.out.2) (HI6.out.2.below HM6.out.2))
        have HP7 := hid (And.intro (HP6.out.1.below HM6.out.2) (HP6.out.2.below HM6.out.2))
        generalize hw7 : (w6.alloc _).setRow w6.heap.size (rowA 8 (fun _ => 0)) = w7 at HT7 KS HP7 ⊢
        clear hw7 HN6 HM6 HT6 HI6 HP6
        generalize w6.heap.size = p7)
      refine Calls.mono KS.out ?_
      rintro e w8 ⟨rfl, b8⟩
      have HT8 := hid (below_then HT7.out b8)
      have HP8 := hid (And.intro (HP7.out.1.below b8) (HP7.out.2.below b8))
      have KL := hid (HL.out w8 HT8.out)
      clear b8 KS HT7 HP7
      go_wp2_with (first
        | (refine wp_load8g rfl rfl rfl HP8.out.1 ?_)
        | (refine wp_load8g rfl rfl rfl HP8.out.2 ?_))
      refine Calls.mono KL.out ?_
      rintro e w9 ⟨a9, c9, rfl, i9, b9⟩
      have HT9 := hid (below_then HT8.out b9)
      have HI9 := hid i9
      have KL' := hid (HL'.out w9 HT9.out)
      clear i9 b9 KL HT8 HP8
      go_wp2_with (fail)
      refine Calls.mono KL'.out ?_
      rintro e w10 ⟨a10, c10, rfl, i10, b10⟩
      have KS := hid (same_yes a9 a10 m' c9 c10 G' HM.out.2.1 w10 (HI9.out.below b10) i10)
      have HT10 := hid (below_then HT9.out b10)
      clear i10 b10 KL' HT9 HI9
      go_wp2_with (fail)
      refine Calls.mono KS.out ?_
      rintro e w11 ⟨rfl, b11⟩
      have HT11 := hid (below_then HT10.out b11)
      clear b11 KS HT10 heq
      go_wp2
      go_loopw [17] (fun i wr => ∃ j : Int, -1 ≤ j ∧ j ≤ 9 ∧ i = .int .i64 j ∧ Hid (Below w.heap.size w wr)) (fun i _ => (9 - intOf i).toNat)
      case atStart => exact ⟨-1, by omega, by omega, rfl, HT11⟩
      case round =>
        clear HT11
        obtain ⟨j, hj1, hj2, rfl, HB⟩ := hrel
        by_cases hlj : j < 9
        · have K1 := hid (HP.out j wr HB.out)
          have K2 := hid (HP'.out j)
          have HMJ := hid (HM.out.2.2 j)
          generalize mP j = mj at K1 K2 HMJ
          generalize GP j = Gj at K1 K2
          go_wp2_with (fail)
          refine Calls.mono K1.out ?_
          rintro e w12 ⟨a12, c12, rfl, i12, b12⟩
          have HT12 := hid (below_then HB.out b12)
          have HI12 := hid i12
          have K3 := hid (K2.out w12 HT12.out)
          clear i12 b12 K1 K2
          go_wp2_with (fail)
          refine Calls.mono K3.out ?_
          rintro e w13 ⟨a13, c13, rfl, i13, b13⟩
          have HT13 := hid (below_then HT12.out b13)
          have KS := hid (same_yes a12 a13 mj c12 c13 Gj HMJ.out w13 (HI12.out.below b13) i13)
          clear i13 b13 K3 HI12 HT12
          go_wp2_with (fail)
          refine Calls.mono KS.out ?_
          rintro e w14 ⟨rfl, b14⟩
          have HT14 := hid (below_then HT13.out b14)
          clear b14 KS HT13 HB
          go_wp2
          exact ⟨⟨j + 1, by omega, by omega, by go_num, HT14⟩, by simp [intOf]; omega⟩
        · obtain rfl : j = 9 := by omega
          go_wp2_with (go_at_call 7; (with_reducible refine (k0.out _ HB.out).mono ?_); rintro e w15 ⟨rfl, b15⟩)
          go_ret
          exact ⟨rfl, b15⟩
theorem lists_first {N : Nat → Nat} (h : ¬ ∀ i, i < 8 → N i = 8) : ∃ b, b < 8 ∧ N b ≠ 8 ∧ ∀ i, i < b → N i = 8 := by
  obtain ⟨i, hi, hn⟩ : ∃ i, i < 8 ∧ N i ≠ 8 := by
    refine Classical.byContradiction fun hc => h fun i hi => Classical.byContradiction fun hn => hc ⟨i, hi, hn⟩
  induction i using Nat.strongRecOn with
  | _ i ih =>
    by_cases hall : ∀ k, k < i → N k = 8
    · exact ⟨i, hi, hn, hall⟩
    · obtain ⟨k, hk, hkn⟩ : ∃ k, k < i ∧ N k ≠ 8 := Classical.byContradiction fun hc => hall fun k hk => Classical.byContradiction fun hn => hc ⟨k, hk, hn⟩
      exact ih k hk (by omega) hkn
theorem walk (w : World) (hs : STab w) (T : Nat → Int) (a : Option Addr) (len cap : Nat) (X : Nat → Int) (h : len ≤ maxLen ∧ IsInts w a len cap X) (b : Bool) (a' : Option Addr) (len' cap' : Nat) (N : Nat → Nat) (Y : Nat → Nat → Int) (h' : len' ≤ maxLen ∧ (∀ i, i < len' → N i ≤ maxLen) ∧ IsListsV w a' len' cap' N Y) :
    Calls Tryd.prog 3 #[arr8 T, .slice a len cap, .bool b, .slice a' len' cap'] w fun e w' => e = .returned (.bool true) ∧ Below w.heap.size w w' := by
  by_cases hbig : 70 < len ∨ 10 < len'
  · exact walkBig w hs T a a' len cap len' cap' h.1 h'.1 hbig b
  have hp : ∀ j, (∀ W, Below w.heap.size w W → Calls Tryd.prog 14 #[.slice a len cap, .int .i64 j] W (IPost (if len = 64 ∧ 0 ≤ j ∧ j ≤ 7 then 8 else 0) (pickF j.toNat X) W)) ∧
      (∀ W, Below w.heap.size w W → Calls Tryd.prog 15 #[.slice a len cap, .int .i64 j] W (IPost (if len = 64 ∧ 0 ≤ j ∧ j ≤ 7 then 8 else 0) (pickF j.toNat X) W)) := by
    intro j
    by_cases hj : len = 64 ∧ 0 ≤ j ∧ j ≤ 7
    · rw [if_pos hj]
      obtain ⟨rfl, hj1, hj2⟩ := hj
      obtain ⟨k, rfl⟩ : ∃ k : Nat, j = k := ⟨j.toNat, by omega⟩
      refine ⟨fun W hW => (pick_yes k (by omega) a cap X W (h.2.below hW)).mono ?_, fun W hW => (rpick_yes k (by omega) a cap X W (h.2.below hW)).mono ?_⟩
      · rintro e w' ⟨r, rfl, _, h1, h2⟩
        exact ⟨_, _, rfl, h1.ints (by decide), h2⟩
      · rintro e w' ⟨r, c, rfl, h1, h2, _⟩
        exact ⟨_, _, rfl, h1, h2⟩
    · rw [if_neg hj]
      refine ⟨fun W hW => (pick_no j a len cap h.1 hj W).mono ?_, fun W hW => (rpick_no j a len cap h.1 hj W).mono ?_⟩
      · rintro e w' ⟨rfl, rfl⟩
        exact ⟨_, _, rfl, .inl rfl, Below.refl _ _⟩
      · rintro e w' ⟨rfl, rfl⟩
        exact ⟨_, _, rfl, .inl rfl, Below.refl _ _⟩
  have hfr : ∃ (m : Nat) (G E : Nat → Int), m ≤ 64 ∧ (∀ W t, Below w.heap.size w W → Tab t W → Calls Tryd.prog 9 #[.pointer (some ⟨t, 0, none⟩), arr8 T, .slice a len cap, .bool b] W (FrPost m G E W)) ∧
      (∀ W, Below w.heap.size w W → Calls Tryd.prog 10 #[arr8 T, .slice a len cap, .bool b] W (FrPost m G E W)) := by
    by_cases hX : len = 64 ∧ allIn (-33554432) 33554432 X 64 = true ∧ allIn (-35184372088832) 35184372088832 T 8 = true
    · obtain ⟨rfl, h1, h2⟩ := hX
      refine ⟨64, smpF b T X, endF b T X, Nat.le_refl _, fun W t hW ht => (frame_ok b t a cap X T h1 h2 W ht (hs.below hW) (h.2.below hW)).mono ?_, fun W hW => rframe_ok b a cap X T h1 h2 W (h.2.below hW)⟩
      rintro e w' ⟨r, rfl, _, h3, h4⟩
      exact ⟨_, _, rfl, h3.ints (by decide), h4⟩
    · refine ⟨0, fun _ => 0, fun _ => 0, by omega, fun W t hW ht => (frame_no b t a len cap X T h.1 hX W (h.2.below hW)).mono ?_, fun W hW => (rframe_none b a len cap X T h.1 hX W (h.2.below hW)).mono ?_⟩
      · rintro e w' ⟨rfl, h1⟩
        exact ⟨_, _, rfl, .inl rfl, h1⟩
      · rintro e w' ⟨rfl, h1⟩
        exact ⟨_, _, rfl, .inl rfl, h1⟩
  have hly : ∃ (m : Nat) (G : Nat → Int), m ≤ 64 ∧ (∀ W, Below w.heap.size w W → Calls Tryd.prog 12 #[.slice a' len' cap'] W (IPost m G W)) ∧ (∀ W, Below w.heap.size w W → Calls Tryd.prog 13 #[.slice a' len' cap'] W (IPost m G W)) := by
    by_cases h8 : len' = 8
    · subst h8
      by_cases hall : ∀ i, i < 8 → N i = 8
      · have hL := fun W (hW : Below w.heap.size w W) => IsListsV.same (n := 8) (h'.2.2.below hW) hall
        refine ⟨64, layF Y, Nat.le_refl _, fun W hW => (lay_yes a' cap' Y W (hL W hW)).mono ?_, fun W hW => (rlay_yes a' cap' Y W (hL W hW)).mono ?_⟩
        · rintro e w' ⟨r, rfl, _, h1, h2⟩
          exact ⟨_, _, rfl, h1.ints (by decide), h2⟩
        · rintro e w' ⟨r, rfl, _, h1, h2⟩
          exact ⟨_, _, rfl, h1.ints (by decide), h2⟩
      · obtain ⟨b1, hb1, hb2, hb3⟩ := lists_first hall
        refine ⟨0, fun _ => 0, by omega, fun W hW => (lay_bad a' cap' N Y b1 hb1 hb2 (h'.2.1 b1 hb1) hb3 W (h'.2.2.below hW)).mono ?_, fun W hW => (rlay_bad a' cap' N Y b1 hb1 hb2 (h'.2.1 b1 hb1) hb3 W (h'.2.2.below hW)).mono ?_⟩
        · rintro e w' ⟨rfl, h1⟩
          exact ⟨_, _, rfl, .inl rfl, h1⟩
        · rintro e w' ⟨rfl, h1⟩
          exact ⟨_, _, rfl, .inl rfl, h1⟩
    · refine ⟨0, fun _ => 0, by omega, fun W hW => (lay_no a' len' cap' h'.1 h8 W).mono ?_, fun W hW => (rlay_no a' len' cap' h'.1 h8 W).mono ?_⟩
      · rintro e w' ⟨rfl, rfl⟩
        exact ⟨_, _, rfl, .inl rfl, Below.refl _ _⟩
      · rintro e w' ⟨rfl, rfl⟩
        exact ⟨_, _, rfl, .inl rfl, Below.refl _ _⟩
  obtain ⟨m, G, E, hm, hF, hR⟩ := hfr
  obtain ⟨m', G', hm', hL, hL'⟩ := hly
  exact walkMain w hs T a a' len cap len' cap' (by omega) (by omega) N Y h'.2.1 h'.2.2 b m G E hm m' G' hm' (fun j => if len = 64 ∧ 0 ≤ j ∧ j ≤ 7 then 8 else 0) (fun j => pickF j.toNat X) (fun j => by split <;> omega) hF hR hL hL' (fun j => (hp j).1) (fun j => (hp j).2)

set_option maxRecDepth 100000 in
theorem lifted (os : Os) (started : os.Started) (H : Type) (enc : TypeId × Value → H) :
    ReturnsInHanded {} Tryd.checked os 3 .any (fun w args => (Rows.lapFramesSpec.pre enc Tryd.prog Tryd.f3 [] false w args ∧ laidMetH Tryd.prog Rows.lapFramesRow.laid w) ∧ sizedMet enc Tryd.prog Tryd.f3 (OpenSpec.ofChange Rows.lapFramesSpec) false w args)
      (Rows.lapFramesSpec.post enc Tryd.prog Tryd.f3 false true false false) := by
  refine returnsInHanded_of_change_and (C := Tryd.checked) (X := fun w _ => laidMetH Tryd.prog Rows.lapFramesRow.laid w) (fun _ _ _ hh h => h.of_heap hh) own started (by kernel_rfl) Tryd.func3
    (ChangeSpec.witness_shaped (enc := enc) (C := Tryd.checked) (os := os) (X := fun w _ => laidMetH Tryd.prog Rows.lapFramesRow.laid w) false (World.laidAll Tryd.prog os Rows.lapFramesRow.laid) #[.agg #[.int .i64 0, .int .i64 0, .int .i64 0, .int .i64 0, .int .i64 0, .int .i64 0, .int .i64 0, .int .i64 0], .slice none 0 0, .bool false, .slice none 0 0] 8 (World.laidAll_os _ _ _)
      (World.shaped_of_ZipB (by kernel_rfl) (by kernel_rfl)) (by kernel_rfl) (by kernel_rfl) (by kernel_rfl)
      (by rw [MakeChecks.laidMetH_plain _ _ _ (by kernel_rfl)]; exact laidMet_laidAll _ (by kernel_rfl) (by kernel_rfl))) ?_
  intro W base args ds gs before hval0 hW _ _ hL _
  have hval : ∀ (j : Nat) t v, Tryd.f3.params[j]? = some t → args[j]? = some v → Value.okWide Tryd.prog W .any base t v := hval0
  have hW' := hW
  obtain ⟨p, q, hA0, hV, rfl, hfz, hnd⟩ := hW
  have hA : DataW.TrodAll enc Tryd.prog W 0 (fun _ => true) true Tryd.f3.params.toList args.toList ds p := hA0
  rw [Tryd.params3] at hA hval
  obtain ⟨v0, vs0, d0, ds0, p0, q0, hargs, rfl, rfl, h0, r0⟩ := trodAll_cons hA
  obtain ⟨v1, vs1, d1, ds1, p1, q1, rfl, rfl, rfl, h1, r1⟩ := trodAll_cons r0
  obtain ⟨v2, vs2, d2, ds2, p2, q2, rfl, rfl, rfl, h2, r2⟩ := trodAll_cons r1
  obtain ⟨v3, vs3, d3, ds3, p3, q3, rfl, rfl, rfl, h3, r3⟩ := trodAll_cons r2
  obtain ⟨rfl, rfl, rfl⟩ := trodAll_nil r3
  obtain rfl : args = #[v0, v1, v2, v3] := by cases args; simp_all
  obtain ⟨rfl, rfl⟩ := trodVars_none hV
  have k0 := h0
  have lt0 : ∀ x ∈ p0, x.block < W.heap.size := by obtain ⟨m, hm⟩ := k0; exact DataW.trod_lt m _ _ _ hm
  obtain ⟨x0, rfl, wf0⟩ : ∃ X : Nat → Int, v0 = arr8 X ∧ ∀ i, i < 8 → (Lit.int .i64 (X i)).wf = true := open_arr Tryd.underlying22 Tryd.underlying3 (by kernel_rfl) (by kernel_rfl) (hval 0 22 v0 rfl rfl) h0
  obtain ⟨a1, len1, cap1, rfl⟩ := okWide_slice Tryd.underlying23 (hval 1 23 v1 rfl rfl)
  have k1 := h1
  have lt1 : ∀ x ∈ p1, x.block < W.heap.size := by obtain ⟨m, hm⟩ := k1; exact DataW.trod_lt m _ _ _ hm
  obtain ⟨x1, w1⟩ : ∃ X : Nat → Int, len1 ≤ maxLen ∧ IsInts W a1 len1 cap1 X := by
    obtain ⟨fuel, hf⟩ := h1
    exact open_isints Tryd.underlying23 Tryd.underlying3 (by kernel_rfl) hf
  obtain ⟨a2, rfl, rfl, rfl⟩ := open_bool Tryd.underlying4 (hval 2 4 v2 rfl rfl) h2
  obtain ⟨a3, len3, cap3, rfl⟩ := okWide_slice Tryd.underlying24 (hval 3 24 v3 rfl rfl)
  have k3 := h3
  have lt3 : ∀ x ∈ p3, x.block < W.heap.size := by obtain ⟨m, hm⟩ := k3; exact DataW.trod_lt m _ _ _ hm
  obtain ⟨n3, x3, w3⟩ : ∃ (N : Nat → Nat) (Y : Nat → Nat → Int), len3 ≤ maxLen ∧ (∀ i, i < len3 → N i ≤ maxLen) ∧ IsListsV W a3 len3 cap3 N Y := by
    obtain ⟨fuel, hf⟩ := h3
    exact open_islists Tryd.underlying24 Tryd.underlying23 Tryd.underlying3 (by kernel_rfl) (by kernel_rfl) hf
  clear hA0 hval0
  refine (walk W (stab_of_laid (by kernel_rfl) hL (by simp [Rows.lapFramesRow])) x0 a1 len1 cap1 x1 w1 a2 a3 len3 cap3 n3 x3 w3).mono fun e W' ⟨he, bel⟩ => ?_
  subst he
  exact ⟨_, rfl, _, _, _, [], _, [], hW', trodAll_mk1 (shut_bool Tryd.underlying4 _), (trodAll_cons_mk (Below.trod laidOut (by kernel_rfl) (of_decide_eq_true (by kernel_rfl)) k0 bel lt0) (trodAll_cons_mk (Below.trod laidOut (by kernel_rfl) (of_decide_eq_true (by kernel_rfl)) k1 bel lt1) (trodAll_cons_mk (shut_bool Tryd.underlying4 a2) (trodAll_cons_mk (Below.trod laidOut (by kernel_rfl) (of_decide_eq_true (by kernel_rfl)) k3 bel lt3) trodAll_mk0)))), rfl, bel.frame _, fun h => by cases h⟩

theorem over : Rows.lapFramesRow.holds Tryd.pinned (OpenSpec.ofChange Rows.lapFramesSpec) :=
  OpenClaim.holds_of_wide 3 Tryd.f3 rfl rfl rfl rfl rfl rfl rfl ⟨rfl, rfl, rfl, rfl, rfl⟩ rfl rfl rfl rfl rfl (by kernel_rfl) Tryd.func3 (by kernel_rfl)
    (of_decide_eq_true (by kernel_rfl)) (by unfold Func.isWrapper; first | (rw [if_pos (by decide +kernel)]; kernel_rfl) | (rw [if_neg (by decide +kernel)]; exact ⟨rfl, rfl⟩))
    (fun os started H enc _ => lifted os started H enc)

theorem plain (f : FuncId) (fn : Func) (hf : Tryd.pinned.checked.prog.funcNamed "splicer/splicerlaw12.LapFrames" = some f) (hfn : Tryd.pinned.checked.prog.funcs[f]? = some fn) :
    false = Tryd.pinned.checked.prog.looks [] ∧ ∀ (j : Nat) t, fn.params[j]? = some t → Tryd.pinned.checked.prog.wantsStandIn t = false := by
  obtain rfl : f = 3 := Option.some.inj ((show Tryd.prog.funcNamed "splicer/splicerlaw12.LapFrames" = some 3 by kernel_rfl).symm.trans hf) |>.symm
  obtain rfl : fn = Tryd.f3 := (Option.some.inj (Tryd.func3.symm.trans hfn)).symm
  refine ⟨by kernel_rfl, fun j t ht => ?_⟩
  rw [Tryd.params3] at ht
  have hm : t ∈ [22, 23, 4, 24] := by simpa using Array.mem_of_getElem? ht
  have hall : ([22, 23, 4, 24].all fun u => !Tryd.prog.wantsStandIn u) = true := by kernel_rfl
  exact (show Tryd.prog.wantsStandIn t = false by simpa using List.all_eq_true.1 hall t hm)

/-- The statement. -/
theorem proved : Rows.LapFramesCardSaid :=
  Claim7.holds_tied_plain_at .later [] _ _ _ _ over (fun _ h => by cases h) (by kernel_rfl) (fun _ h => by cases h) lapFrames_row_tie rfl ⟨rfl, rfl⟩ (by kernel_rfl) rfl plain (by kernel_rfl)
#print axioms proved
end Go.Proofs.YtfhcfdepjhdhfaaDoor.lapFrames
