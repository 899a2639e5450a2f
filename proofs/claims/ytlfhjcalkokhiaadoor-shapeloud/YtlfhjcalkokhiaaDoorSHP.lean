/-
  The program's Values, Power, Level.
-/
import Derived.Test.YtlfhjcalkokhiaaDoorSHE
import Derived.Test.YtlfhjcalkokhiaaDoorSHG
import Derived.Test.YtlfhjcalkokhiaaDoorPVM
import Derived.Test.YtlfhjcalkokhiaaDoorNAbs
import Derived.Test.YtlfhjcalkokhiaaDoorNDiv
import Derived.Test.YtlfhjcalkokhiaaDoorRTP
import Derived.Test.YtlfhjcalkokhiaaDoorLB
import Derived.Test.YtlfhjcalkokhiaaDoorL2
namespace Go.Proofs.YtlfhjcalkokhiaaDoor
open Go.ChangeShapes Go.WideShapes Go.ChangeAt Go.RowKit
set_option linter.unusedVariables false

/-- What the program reads stands where it was laid. -/
abbrev ShTab (w : World) : Prop := LTab w
theorem ShTab.below {w w' : World} (h : ShTab w) (hb : Below w.heap.size w w') : ShTab w' := LTab.below h hb
theorem one_ints (W : World) (c : Int) : IsInts (W.alloc (.cells #[.int .i64 c] 3)) (some ⟨W.heap.size, 0, none⟩) 1 1 (fun _ => c) := by
  have := (RowAt.ints (r := W.heap.size) (n := 1) (X := fun _ => c) (al_new W _) (by unfold maxLen; omega))
  exact this
theorem shape_power (a : Option Addr) (len cap : Nat) (X : Nat → Int) (hl : len ≤ 1000) (w : World) (ht : ShTab w) (h : IsInts w a len cap X) :
    Calls Tryd.prog 11 #[.slice a len cap] w fun e w' => e = .returned (.int .i64 (powF len X)) ∧ Below w.heap.size w w' := by
  have HB0 := hid (Below.refl w.heap.size w)
  by_cases h64 : 64 < len
  · rw [powF, if_neg (by omega)]
    clear h
    have hd : decide ((len : Int) > 64) = true := decide_eq_true (by omega)
    go_enter Tryd.func11, Tryd.ntmps11
    go_wp2
    go_ret
    exact ⟨rfl, HB0.out⟩
  have hd : decide ((len : Int) > 64) = false := decide_eq_false (by omega)
  have K1 := hid (swithin_any (-67108864) 67108864 a len cap X hl w h)
  cases hin : allIn (-67108864) 67108864 X len with
  | false =>
    rw [powF, if_neg (by rw [hin]; simp)]
    rw [hin] at K1
    clear h hin
    go_enter Tryd.func11, Tryd.ntmps11
    go_wp2_with (go_at_call 17; (with_reducible refine Calls.mono K1.out ?_); rintro e w1 ⟨rfl, b1⟩)
    go_ret
    exact ⟨rfl, b1⟩
  | true =>
    have hX : SqIn len X := ⟨by omega, (allIn_iff _ _ _ _).1 hin⟩
    rw [powF_in hX]
    rw [hin] at K1
    have K2 := hid (fun W (hW : Below w.heap.size w W) => squares_any a len cap X hX W (h.below hW))
    have K3 := hid (fun W => sqrt_any (sqS X len) W)
    generalize rootF (sqS X len) = R at *
    generalize sqS X len = S at *
    clear h hin hX
    go_enter Tryd.func11, Tryd.ntmps11
    go_wp2_with (go_at_call 17; (with_reducible refine Calls.mono K1.out ?_); rintro e w1 ⟨rfl, b1⟩; have HB1 := hid b1; clear b1)
    refine Calls.mono (K2.out _ HB1.out) ?_
    rintro e w2 ⟨rfl, b2⟩
    have HB2 := hid (below_then HB1.out b2)
    clear b2
    go_wp2_with (fail)
    refine Calls.mono (K3.out _) ?_
    rintro e w3 ⟨rfl, rfl⟩
    go_wp2
    go_ret
    exact ⟨rfl, HB2.out⟩
theorem shape_level (a : Option Addr) (len cap : Nat) (X : Nat → Int) (hl : len ≤ 1000) (w : World) (ht : ShTab w) (h : IsInts w a len cap X) :
    Calls Tryd.prog 8 #[.slice a len cap] w (LvPost (powF len X) w) := by
  have K1 := hid (shape_power a len cap X hl w ht h)
  have K2 := hid (fun W (hW : Below w.heap.size w W) => lfind_any (powF len X) W (LTab.below ht hW))
  generalize powF len X = p at *
  clear h ht
  go_enter Tryd.func8, Tryd.ntmps8
  go_wp2_with (fail)
  refine Calls.mono K1.out ?_
  rintro e w1 ⟨rfl, b1⟩
  have HB1 := hid b1
  clear b1
  go_wp2_with (fail)
  refine Calls.mono (K2.out _ HB1.out) ?_
  rintro e w2 ⟨c, f, rfl, hf, b2⟩
  have HF := hid hf
  clear hf
  go_wp2
  go_ret2
  exact ⟨c, f, rfl, HF.out, below_then HB1.out b2⟩
theorem win_one (lo hi c : Int) (b : Bool) (hb : (decide (lo ≤ c) && decide (c ≤ hi)) = b) (W : World) :
    Calls Tryd.prog 17 #[.int .i64 lo, .int .i64 hi, .slice (some ⟨W.heap.size, 0, none⟩) 1 1] (W.alloc (.cells #[.int .i64 c] 3)) fun e w' => e = .returned (.bool b) ∧ Below W.heap.size W w' :=
  (swithin_any lo hi _ 1 1 (fun _ => c) (by omega) _ (one_ints W c)).mono fun e w' ⟨he, hb2⟩ => ⟨by rw [he, ← hb]; rfl, ret_bel hb2⟩
theorem shape_values_no (a : Option Addr) (len cap : Nat) (X : Nat → Int) (c f : Int) (ml : len ≤ maxLen) (hok : shOk len X c f = false) (w : World) (ht : ShTab w) (h : IsInts w a len cap X) :
    Calls Tryd.prog 6 #[.slice a len cap, .int .i64 c, .int .i64 f] w (VPost 0 (fun _ => 0) false w) := by
  have K1 := hid (pvq_size a len cap X ml w h)
  have HE := hid (fun W (hW : Below w.heap.size w W) => show VPost 0 (fun _ => 0) false w (.returned (.tuple #[.slice none 0 0, .bool false])) W from ⟨none, 0, rfl, .inl rfl, hW, fun x hx => by cases hx⟩)
  unfold maxLen at ml
  cases hp : pvOk len X with
  | false =>
    rw [hp] at K1
    generalize pvSz len X = s at *
    clear h hok hp ht
    go_enter Tryd.func6, Tryd.ntmps6
    go_wp2_with (go_at_call 16; (with_reducible refine Calls.mono K1.out ?_); rintro e w1 ⟨rfl, b1⟩; have HB1 := hid b1; clear b1)
    go_ret2
    exact HE.out _ HB1.out
  | true =>
    rw [hp] at K1
    have hcf : ¬ (0 ≤ c ∧ c ≤ 23 ∧ 0 ≤ f ∧ f ≤ 3) := fun hh => by
      have := shOk_iff.2 ⟨hp, hh⟩; rw [hok] at this; cases this
    generalize pvSz len X = s at *
    clear h hok hp ht
    by_cases h1 : 0 ≤ c ∧ c ≤ 23
    · have K2 := hid (win_one 0 23 c true (by simp [h1.1, h1.2]))
      have K3 := hid (win_one 0 3 f false (by simp; omega))
      clear hcf h1
      go_enter Tryd.func6, Tryd.ntmps6
      go_wp2_with (go_at_call 16; (with_reducible refine Calls.mono K1.out ?_); rintro e w1 ⟨rfl, b1⟩; have HB1 := hid b1; clear b1)
      refine Calls.mono (K2.out _) ?_
      rintro e w2 ⟨rfl, b2⟩
      have HB2 := hid (below_then HB1.out b2)
      clear b2
      go_wp2_with (fail)
      refine Calls.mono (K3.out _) ?_
      rintro e w3 ⟨rfl, b3⟩
      have HB3 := hid (below_then HB2.out b3)
      clear b3
      go_wp2
      go_ret2
      exact HE.out _ HB3.out
    · have K2 := hid (win_one 0 23 c false (by simp; omega))
      clear hcf h1
      go_enter Tryd.func6, Tryd.ntmps6
      go_wp2_with (go_at_call 16; (with_reducible refine Calls.mono K1.out ?_); rintro e w1 ⟨rfl, b1⟩; have HB1 := hid b1; clear b1)
      refine Calls.mono (K2.out _) ?_
      rintro e w2 ⟨rfl, b2⟩
      have HB2 := hid (below_then HB1.out b2)
      clear b2
      go_wp2
      go_ret2
      exact HE.out _ HB2.out
set_option maxRecDepth 100000 in
theorem shape_values_yes (a : Option Addr) (len cap : Nat) (X : Nat → Int) (c f : Int) (hok : shOk len X c f = true) (w : World) (ht : ShTab w) (h : IsInts w a len cap X) :
    Calls Tryd.prog 6 #[.slice a len cap, .int .i64 c, .int .i64 f] w (VPost len (shV len X c f) true w) := by
  obtain ⟨hp, hc0, hc23, hf0, hf3⟩ := shOk_iff.1 hok
  obtain ⟨n1, n8, k24⟩ := pvOk_iff.1 hp
  have K1 := hid (pvq_size a len cap X (by unfold maxLen; omega) w h)
  rw [pvSz, if_pos hp, hp] at K1
  have KC := hid (win_one 0 23 c true (by simp [hc0, hc23]))
  have KF := hid (win_one 0 3 f true (by simp [hf0, hf3]))
  have hmk := make_ints (n := len) (by omega)
  by_cases hz : pvF X len = 0 ∨ c = 0
  · have HE := hid (fun W (hW : Below w.heap.size w W) => show VPost len (shV len X c f) true w (.returned (.tuple #[.slice (some ⟨W.heap.size, 0, none⟩) len len, .bool true])) (W.alloc (.cells (rowA len (fun _ => 0)) 3)) from
      ⟨_, _, rfl, (RowAt.congr (X := fun _ => 0) (al_new W _) fun i _ => by rw [shV, if_pos hz]).ints (by unfold maxLen; omega), hW.alloc hW.size _, fun x hx => by cases hx; exact hW.size⟩)
    clear hok hp h ht
    generalize shV len X c f = V at *
    generalize pvF X len = s at *
    have hz2 : s = 0 ∨ ¬ s = 0 ∧ c = 0 := by omega
    clear hz
    rcases hz2 with rfl | ⟨hs, rfl⟩
    · go_enter Tryd.func6, Tryd.ntmps6
      go_wp2_with (go_at_call 16; (with_reducible refine Calls.mono K1.out ?_); rintro e w1 ⟨rfl, b1⟩; have HB1 := hid b1; clear b1)
      refine Calls.mono (KC.out _) ?_
      rintro e w2 ⟨rfl, b2⟩
      have HB2 := hid (below_then HB1.out b2)
      clear b2
      go_wp2_with (fail)
      refine Calls.mono (KF.out _) ?_
      rintro e w3 ⟨rfl, b3⟩
      have HB3 := hid (below_then HB2.out b3)
      clear b3
      go_wp2
      go_ret2
      exact HE.out _ HB3.out
    · have hs2 : decide ((s : Int) = 0) = false := by simpa using hs
      go_enter Tryd.func6, Tryd.ntmps6
      go_wp2_with (go_at_call 16; (with_reducible refine Calls.mono K1.out ?_); rintro e w1 ⟨rfl, b1⟩; have HB1 := hid b1; clear b1)
      refine Calls.mono (KC.out _) ?_
      rintro e w2 ⟨rfl, b2⟩
      have HB2 := hid (below_then HB1.out b2)
      clear b2
      go_wp2_with (fail)
      refine Calls.mono (KF.out _) ?_
      rintro e w3 ⟨rfl, b3⟩
      have HB3 := hid (below_then HB2.out b3)
      clear b3
      go_wp2
      go_ret2
      exact HE.out _ HB3.out
  · have hin : ShIn len X c f := ⟨n1, n8, by omega, k24, by omega, hc23, hf0, hf3⟩
    obtain ⟨s1, s2, r1, r2, _, _⟩ := hin.root
    obtain ⟨a1, a2⟩ := hin.amp
    have HX := hid (fun p (hp : p < len) => (pvF_at k24 hp).1)
    have HT := hid (fun x (hx : Int.natAbs x ≤ 24) => And.intro (hin.top hx) (hin.one hx).1)
    have HV := hid (fun p (hp : p < len) => And.intro (hin.at p) (hin.bound hp))
    have hsq : SqIn len X := ⟨by omega, fun i hi => by have := (pvF_at k24 hi).1; omega⟩
    obtain ⟨b, off, rfl, hc⟩ := h.cells (by omega)
    have HC := hid hc
    have HM := hid (fun W (hW : Below w.heap.size w W) => MRow.start (n := len) (F := shV len X c f) hW)
    have K2 := hid (fun W (hW : Below w.heap.size w W) => lamp_any c f W (LTab.below ht hW))
    have K3 : Hid (∀ W, Below w.heap.size w W → Calls Tryd.prog 20 #[.slice (some ⟨b, off, none⟩) len cap] W fun e w' => e = .returned (.int .i64 (sqS X len)) ∧ Below W.heap.size W w') := fun W hW => squares_any _ len cap X hsq W (h.below hW)
    have K4 : Hid (∀ W, Calls Tryd.prog 19 #[.int .i64 (sqS X len * 1024 * 1024)] W fun e w' => e = .returned (.int .i64 (rootF (sqS X len * 1048576))) ∧ w' = W) := fun W => by
      rw [show sqS X len * 1024 * 1024 = sqS X len * 1048576 by omega]; exact sqrt_any _ W
    have hk0 : (((pvF X len : Nat) : Int) == 0) = false := by simpa using fun e => hz (.inl e)
    have hc0' : (c == 0) = false := by simpa using fun e => hz (.inr e)
    generalize ampF c f = A at *
    generalize rootF (sqS X len * 1048576) = R at *
    generalize sqS X len = S at *
    generalize pvF X len = k at *
    generalize shV len X c f = V at *
    clear hok hp h hc hin hsq hz ht
    go_enter Tryd.func6, Tryd.ntmps6
    go_wp2_with (go_at_call 16; (with_reducible refine Calls.mono K1.out ?_); rintro e w1 ⟨rfl, b1⟩; have HB1 := hid b1; clear b1)
    refine Calls.mono (KC.out _) ?_
    rintro e w2 ⟨rfl, b2⟩
    have HB2 := hid (below_then HB1.out b2)
    clear b2
    go_wp2_with (fail)
    refine Calls.mono (KF.out _) ?_
    rintro e w3 ⟨rfl, b3⟩
    have HB3 := hid (below_then HB2.out b3)
    have HM3 := hid (HM.out _ HB3.out)
    clear b3
    go_wp2_with (fail)
    refine Calls.mono (K2.out _ HM3.out.bel) ?_
    rintro e w4 ⟨rfl, b4⟩
    have HM4 := hid (HM3.out.to b4)
    clear b4 K2
    go_wp2_with (fail)
    refine Calls.mono (K3.out _ HM4.out.bel) ?_
    rintro e w6 ⟨rfl, b6⟩
    have HM6 := hid (HM4.out.to b6)
    clear b6 K3
    go_wp2_with (fail)
    refine Calls.mono (K4.out _) ?_
    rintro e w7 ⟨rfl, rfl⟩
    clear K4
    go_wp2
    clear hk0 hc0' hmk K1 KC KF
    go_loopw [54] (fun i wr => ∃ p : Nat, p ≤ len ∧ i = .int .i64 p ∧ Hid (MRow len w3.heap.size V p w wr)) (fun i _ => len - (intOf i).toNat)
    case atStart => exact ⟨0, Nat.zero_le _, rfl, HM6.out⟩
    case round =>
      clear HM6 HM4 HM3
      obtain ⟨p, hp, rfl, HM⟩ := hrel
      obtain ⟨w5, e5⟩ : ∃ w5, w5 = wr := ⟨_, rfl⟩
      subst e5
      by_cases hlt : p < len
      · have hx := HX.out p hlt
        obtain ⟨hVp, hVb⟩ := HV.out p hlt
        obtain ⟨⟨t1, t2⟩, t3⟩ := HT.out (X p) hx
        have hck := HC.out w5 HM.out.bel p hlt
        obtain ⟨y, hy⟩ : ∃ y : Int, y = (((X p).natAbs : Nat) : Int) := ⟨_, rfl⟩
        have KA := hid (fun W => abs_any (X p) W)
        rw [absF_nat (by omega), ← hy] at KA
        rw [← hy] at t1 t2
        obtain ⟨P, hP⟩ : ∃ P, P = A * y := ⟨_, rfl⟩
        rw [← hP] at t1 t2
        have hw : wrap64 (A * y) = P := by rw [hP]; unfold wrap64; omega
        obtain ⟨Z, hZ⟩ : ∃ Z, Z = shW A R (X p) := ⟨_, rfl⟩
        have KD := hid (fun W => div_any (P * 1024) R W)
        have hZ2 : divF (P * 1024) R = Z := by rw [hZ, shW, hP, hy]
        rw [hZ2] at KD
        rw [← hZ] at hVp t3
        have hZb : Z ≤ 67108864 := by
          rw [hVp] at hVb; unfold shSide at hVb; split at hVb <;> omega
        have KB := hid (fun W => sbeside_any (X p) Z (by omega) W)
        rw [← hVp] at KB
        have HN := hid (fun (W : World) (h : MRow len w3.heap.size V p w W) => h.set hlt (rfl : V p = V p))
        clear hVp hVb hZ hZ2 hP hy hx
        generalize X p = x at *
        generalize hv : V p = v at *
        go_wp2_with (go_at_call 23; (with_reducible refine Calls.mono (KA.out _) ?_); rintro e w6 ⟨rfl, b6⟩; have HM6 := hid (HM.out.to b6); clear b6)
        refine Calls.mono (KD.out _) ?_
        rintro e w8 ⟨rfl, b8⟩
        have HM8 := hid (HM6.out.to b8)
        clear b8
        go_wp2_with (fail)
        refine Calls.mono (KB.out _) ?_
        rintro e w9 ⟨rfl, rfl⟩
        obtain ⟨⟨v0, hc0⟩, hf0⟩ := HM8.out.cell hlt
        clear hck
        go_wp2
        exact ⟨⟨p + 1, by omega, by go_num, HN.out _ HM8.out⟩, by simp [intOf]; omega⟩
      · obtain rfl : p = len := by omega
        have HE := hid (HM.out.post (by omega) true)
        clear HM
        go_wp2
        go_ret2
        exact HE.out
end Go.Proofs.YtlfhjcalkokhiaaDoor
