/-
  The document's Values.
-/
import Derived.Test.YtlfhjcalkokhiaaDoorSHD
import Derived.Test.YtlfhjcalkokhiaaDoorMR
namespace Go.Proofs.YtlfhjcalkokhiaaDoor
open Go.ChangeShapes Go.WideShapes Go.ChangeAt Go.RowKit
set_option linter.unusedVariables false

def shOk (n : Nat) (X : Nat → Int) (c f : Int) : Bool := pvOk n X && decide (0 ≤ c) && decide (c ≤ 23) && decide (0 ≤ f) && decide (f ≤ 3)
theorem shOk_iff {n : Nat} {X : Nat → Int} {c f : Int} : shOk n X c f = true ↔ pvOk n X = true ∧ 0 ≤ c ∧ c ≤ 23 ∧ 0 ≤ f ∧ f ≤ 3 := by
  simp [shOk, and_assoc]
theorem pvOk_iff {n : Nat} {X : Nat → Int} : pvOk n X = true ↔ 1 ≤ n ∧ n ≤ 8 ∧ pvF X n ≤ 24 := by simp [pvOk, and_assoc]
theorem rvalues_no (a : Option Addr) (len cap : Nat) (X : Nat → Int) (c f : Int) (ml : len ≤ maxLen) (hok : shOk len X c f = false) (w : World) (h : IsInts w a len cap X) :
    Calls Tryd.prog 7 #[.slice a len cap, .int .i64 c, .int .i64 f] w (VPost 0 (fun _ => 0) false w) := by
  have K1 := hid (rsize_any a len cap X ml w h)
  have HE := hid (show VPost 0 (fun _ => 0) false w (.returned (.tuple #[.slice none 0 0, .bool false])) w from ⟨none, 0, rfl, .inl rfl, Below.refl _ _, fun x hx => by cases hx⟩)
  unfold maxLen at ml
  cases hp : pvOk len X with
  | false =>
    rw [hp] at K1
    generalize pvSz len X = s at *
    clear h hok hp
    go_enter Tryd.func7, Tryd.ntmps7
    go_wp2_with (go_at_call 13; (with_reducible refine Calls.mono K1.out ?_); rintro e w1 ⟨rfl, rfl⟩)
    go_ret2
    exact HE.out
  | true =>
    rw [hp] at K1
    have hcf : ¬ (0 ≤ c ∧ c ≤ 23 ∧ 0 ≤ f ∧ f ≤ 3) := fun hh => by
      have := shOk_iff.2 ⟨hp, hh⟩; rw [hok] at this; cases this
    generalize pvSz len X = s at *
    clear h hok hp
    have hcases : c < 0 ∨ ¬ c < 0 ∧ 23 < c ∨ ¬ c < 0 ∧ ¬ 23 < c ∧ f < 0 ∨ ¬ c < 0 ∧ ¬ 23 < c ∧ ¬ f < 0 ∧ 3 < f := by omega
    clear hcf
    rcases hcases with h1 | ⟨h0, h1⟩ | ⟨h0, h1, h2⟩ | ⟨h0, h1, h2, h3⟩
    all_goals
      go_enter Tryd.func7, Tryd.ntmps7
      go_wp2_with (go_at_call 13; (with_reducible refine Calls.mono K1.out ?_); rintro e w1 ⟨rfl, rfl⟩)
      go_ret2
      exact HE.out
set_option maxRecDepth 100000 in
theorem rvalues_yes (a : Option Addr) (len cap : Nat) (X : Nat → Int) (c f : Int) (hok : shOk len X c f = true) (w : World) (h : IsInts w a len cap X) :
    Calls Tryd.prog 7 #[.slice a len cap, .int .i64 c, .int .i64 f] w (VPost len (shV len X c f) true w) := by
  obtain ⟨hp, hc0, hc23, hf0, hf3⟩ := shOk_iff.1 hok
  obtain ⟨n1, n8, k24⟩ := pvOk_iff.1 hp
  have K1 := hid (rsize_any a len cap X (by unfold maxLen; omega) w h)
  rw [pvSz, if_pos hp, hp] at K1
  have hmk := make_ints (n := len) (by omega)
  have d1 : ¬ c < 0 := by omega
  have d2 : ¬ 23 < c := by omega
  have d3 : ¬ f < 0 := by omega
  have d4 : ¬ 3 < f := by omega
  have HM := hid (MRow.start (n := len) (F := shV len X c f) (Below.refl w.heap.size w))
  by_cases hz : pvF X len = 0 ∨ c = 0
  · have HE := hid (show VPost len (shV len X c f) true w (.returned (.tuple #[.slice (some ⟨w.heap.size, 0, none⟩) len len, .bool true])) (w.alloc (.cells (rowA len (fun _ => 0)) 3)) from
      ⟨_, _, rfl, (RowAt.congr (X := fun _ => 0) (al_new w _) fun i _ => by rw [shV, if_pos hz]).ints (by unfold maxLen; omega), (Below.refl _ w).alloc (Nat.le_refl _) _, fun x hx => by cases hx; exact Nat.le_refl _⟩)
    clear HM hok hp h
    generalize shV len X c f = V at *
    generalize pvF X len = s at *
    have hz2 : s = 0 ∨ ¬ s = 0 ∧ c = 0 := by omega
    clear hz
    rcases hz2 with rfl | ⟨hs, rfl⟩
    · go_enter Tryd.func7, Tryd.ntmps7
      go_wp2_with (go_at_call 13; (with_reducible refine Calls.mono K1.out ?_); rintro e w1 ⟨rfl, rfl⟩)
      go_ret2
      exact HE.out
    · have hs2 : decide ((s : Int) = 0) = false := by simpa using hs
      go_enter Tryd.func7, Tryd.ntmps7
      go_wp2_with (go_at_call 13; (with_reducible refine Calls.mono K1.out ?_); rintro e w1 ⟨rfl, rfl⟩)
      go_ret2
      exact HE.out
  · have hin : ShIn len X c f := ⟨n1, n8, by omega, k24, by omega, hc23, hf0, hf3⟩
    obtain ⟨s1, s2, r1, r2, _, _⟩ := hin.root
    obtain ⟨a1, a2⟩ := hin.amp
    have HX := hid (fun p (hp : p < len) => (pvF_at k24 hp).1)
    have HT := hid (fun x (hx : Int.natAbs x ≤ 24) => And.intro (hin.top hx) (hin.one hx).1)
    have HV := hid (fun p (hp : p < len) => And.intro (hin.at p) (hin.bound hp))
    have hsq : SqIn len X := ⟨by omega, fun i hi => by have := (pvF_at k24 hi).1; omega⟩
    obtain ⟨b, off, rfl, hc⟩ := h.cells (by omega)
    have HC := hid hc
    have K2 := hid (fun W => rlamp_any c f W)
    have K3 : Hid (∀ W, Below w.heap.size w W → Calls Tryd.prog 25 #[.slice (some ⟨b, off, none⟩) len cap] W fun e w' => e = .returned (.int .i64 (sqS X len)) ∧ Below W.heap.size W w') := fun W hW => rsquares_any _ len cap X hsq W (h.below hW)
    have K4 := hid (fun W => sqrtR_any (sqS X len * 1048576) W)
    have hk0 : (((pvF X len : Nat) : Int) == 0) = false := by simpa using fun e => hz (.inl e)
    have hc0' : (c == 0) = false := by simpa using fun e => hz (.inr e)
    generalize ampF c f = A at *
    generalize rootF (sqS X len * 1048576) = R at *
    generalize sqS X len = S at *
    generalize pvF X len = k at *
    generalize shV len X c f = V at *
    clear hok hp h hc hin hsq hz
    go_enter Tryd.func7, Tryd.ntmps7
    go_wp2_with (go_at_call 13; (with_reducible refine Calls.mono K1.out ?_); rintro e w1 ⟨rfl, rfl⟩)
    refine Calls.mono (K2.out _) ?_
    rintro e w2 ⟨rfl, b2⟩
    have HM2 := hid (HM.out.to b2)
    clear b2 HM K2
    go_wp2_with (fail)
    refine Calls.mono (K3.out _ HM2.out.bel) ?_
    rintro e w3 ⟨rfl, b3⟩
    have HM3 := hid (HM2.out.to b3)
    clear b3 HM2 K3
    go_wp2_with (fail)
    refine Calls.mono (K4.out _) ?_
    rintro e w4 ⟨rfl, rfl⟩
    clear K4
    go_wp2
    clear hk0 hc0' d1 d2 d3 d4 hmk K1
    go_loopw [13] (fun i wr => ∃ p : Nat, p ≤ len ∧ i = .int .i64 p ∧ Hid (MRow len w1.heap.size V p w1 wr)) (fun i _ => len - (intOf i).toNat)
    case atStart => exact ⟨0, Nat.zero_le _, rfl, HM3.out⟩
    case round =>
      clear HM3
      obtain ⟨p, hp, rfl, HM⟩ := hrel
      obtain ⟨w5, e5⟩ : ∃ w5, w5 = wr := ⟨_, rfl⟩
      subst e5
      by_cases hlt : p < len
      · have hx := HX.out p hlt
        obtain ⟨hVp, hVb⟩ := HV.out p hlt
        obtain ⟨⟨t1, t2⟩, t3⟩ := HT.out (X p) hx
        have HD := hid (fun W (hW : Below w1.heap.size w1 W) => HC.out W hW p hlt)
        obtain ⟨y, hy⟩ : ∃ y : Int, y = (((X p).natAbs : Nat) : Int) := ⟨_, rfl⟩
        have KA := hid (fun W => absR_any (X p) W)
        rw [absF_nat (by omega), ← hy] at KA
        rw [← hy] at t1 t2
        obtain ⟨P, hP⟩ : ∃ P, P = A * y := ⟨_, rfl⟩
        rw [← hP] at t1 t2
        have hw : wrap64 (A * y) = P := by rw [hP]; unfold wrap64; omega
        obtain ⟨Z, hZ⟩ : ∃ Z, Z = shW A R (X p) := ⟨_, rfl⟩
        have KD := hid (fun W => divR_any (P * 1024) R W)
        have hZ2 : divF (P * 1024) R = Z := by rw [hZ, shW, hP, hy]
        rw [hZ2] at KD
        rw [← hZ] at hVp t3
        have hZb : Z ≤ 67108864 := by
          rw [hVp] at hVb; unfold shSide at hVb; split at hVb <;> omega
        have HVp := hid hVp
        have hck := HD.out w5 HM.out.bel
        clear hVp hVb hZ hZ2 hP hy hx
        generalize X p = x at *
        by_cases hneg : x < 0
        · have hV2 : -Z = V p := by rw [HVp.out, shSide, if_pos hneg]
          have HN := hid (fun (W : World) (h : MRow len w1.heap.size V p w1 W) => h.set hlt hV2)
          clear hV2
          go_wp2_with (first
            | (go_at_call 15; (with_reducible refine Calls.mono (KA.out _) ?_); rintro e w6 ⟨rfl, rfl⟩)
            | fail)
          refine Calls.mono (KD.out _) ?_
          rintro e w7 ⟨rfl, b7⟩
          have HM7 := hid (HM.out.to b7)
          obtain ⟨⟨v0, hc0⟩, hf0⟩ := HM7.out.cell hlt
          have hck7 := HD.out w7 HM7.out.bel
          clear b7 HM hck
          go_wp2
          exact ⟨⟨p + 1, by omega, by go_num, HN.out _ HM7.out⟩, by simp [intOf]; omega⟩
        · have hV2 : Z = V p := by rw [HVp.out, shSide, if_neg hneg]
          have HN := hid (fun (W : World) (h : MRow len w1.heap.size V p w1 W) => h.set hlt hV2)
          clear hV2
          go_wp2_with (first
            | (go_at_call 15; (with_reducible refine Calls.mono (KA.out _) ?_); rintro e w6 ⟨rfl, rfl⟩)
            | fail)
          refine Calls.mono (KD.out _) ?_
          rintro e w7 ⟨rfl, b7⟩
          have HM7 := hid (HM.out.to b7)
          obtain ⟨⟨v0, hc0⟩, hf0⟩ := HM7.out.cell hlt
          have hck7 := HD.out w7 HM7.out.bel
          clear b7 HM hck
          go_wp2
          exact ⟨⟨p + 1, by omega, by go_num, HN.out _ HM7.out⟩, by simp [intOf]; omega⟩
      · obtain rfl : p = len := by omega
        have HE := hid (HM.out.post (by omega) true)
        clear HM
        go_wp2
        go_ret2
        exact HE.out
end Go.Proofs.YtlfhjcalkokhiaaDoor
