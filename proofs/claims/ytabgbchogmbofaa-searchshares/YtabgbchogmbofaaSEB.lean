/-
  The document's Pulses.
-/
import Derived.Test.YtabgbchogmbofaaSEA
import Derived.Test.YtabgbchogmbofaaR2
import Derived.Test.YtabgbchogmbofaaMR
import Derived.Test.YtabgbchogmbofaaTL
import Derived.Test.YtabgbchogmbofaaNAbsR
import Derived.Test.YtabgbchogmbofaaNModR
namespace Go.Proofs.Ytabgbchogmbofaa
open Go.ChangeShapes Go.WideShapes Go.ChangeAt Go.RowKit
set_option linter.unusedVariables false

theorem seN_next {X : Nat → Int} {n k t b : Nat} (hb : b < n) (h : seRank (seR X n k) n b = t) : ∀ i, i < n → upd (fun i => ((seN X n k t i : Nat) : Int)) b (((seN X n k t b : Nat) : Int) + 1) i = ((seN X n k (t + 1) i : Nat) : Int) := by
  intro i hi
  unfold upd seN
  by_cases e : i = b
  · subst e; rw [if_pos rfl, if_neg (by omega), if_pos (by omega)]; omega
  · have h1 : seRank (seR X n k) n i ≠ t := fun hh => e (seRank_inj hi hb (hh.trans h.symm))
    rw [if_neg e]
    show ((seQ X n k i + (if seRank (seR X n k) n i < t then 1 else 0) : Nat) : Int) = _
    by_cases h2 : seRank (seR X n k) n i < t
    · rw [if_pos h2, if_pos (by omega)]
    · rw [if_neg h2, if_neg (by omega)]
theorem seRest_next {R : Nat → Nat} {n t b : Nat} (hb : b < n) (h : seRank R n b = t) : ∀ i, i < n → upd (seRest R n t) b (-1) i = seRest R n (t + 1) i := by
  intro i hi
  unfold upd seRest
  by_cases e : i = b
  · subst e; rw [if_pos rfl, if_pos (by omega)]
  · have h1 : seRank R n i ≠ t := fun hh => e (seRank_inj hi hb (hh.trans h.symm))
    rw [if_neg e]
    by_cases h2 : seRank R n i < t
    · rw [if_pos h2, if_pos (by omega)]
    · rw [if_neg h2, if_neg (by omega)]
theorem seN_zero (X : Nat → Int) (n k i : Nat) : seN X n k 0 i = seQ X n k i := by rw [seN, if_neg (by omega)]; rfl
theorem seRest_zero (R : Nat → Nat) (n i : Nat) : seRest R n 0 i = ((R i : Nat) : Int) := if_neg (by omega)
theorem rpulses_no (a : Option Addr) (len cap : Nat) (X : Nat → Int) (k : Int) (ml : len ≤ maxLen) (hno : seB len X k = false) (w : World) (h : IsInts w a len cap X) :
    Calls Try.prog 7 #[.slice a len cap, .int .i64 k] w (VPost 0 (fun _ => 0) false w) := by
  have K1 := hid (rright18_any a len cap X k ml w h)
  rw [hno] at K1
  clear h hno
  go_enter Try.func7, Try.ntmps7
  go_wp2_with (go_at_call 9; (with_reducible refine Calls.mono K1.out ?_); rintro e w1 ⟨rfl, rfl⟩)
  go_ret2
  exact ⟨none, 0, rfl, .inl rfl, Below.refl _ _, fun x hx => by cases hx⟩
/-- What a walk over numbers wants of them. -/
structure SeIn (n : Nat) (X : Nat → Int) (k : Nat) : Prop where
  n1 : 1 ≤ n
  n8 : n ≤ 8
  k24 : k ≤ 24
  x28 : ∀ i, i < n → (X i).natAbs ≤ 268435456
theorem SeIn.sum {n : Nat} {X : Nat → Int} {k : Nat} (h : SeIn n X k) : ∀ i, i ≤ n → seSum (seA X) i ≤ 268435456 * i
  | 0, _ => Nat.le_refl _
  | i + 1, hi => by have := SeIn.sum h i (by omega); have := h.x28 i (by omega); rw [seSum, seA]; omega
set_option maxRecDepth 100000 in
set_option maxHeartbeats 2000000 in
theorem rpulses_yes (a : Option Addr) (len cap : Nat) (X : Nat → Int) (k : Nat) (hok : seB len X (k : Int) = true) (w : World) (h : IsInts w a len cap X) :
    Calls Try.prog 7 #[.slice a len cap, .int .i64 (k : Int)] w (VPost len (seF X len k) true w) := by
  have K1 := hid (rright18_any a len cap X k (by have := (seB_iff.1 hok).2.1; unfold maxLen; omega) w h)
  rw [hok] at K1
  have hin : SeIn len X k := by
    obtain ⟨h1, h2, h3, h4, h5⟩ := seB_iff.1 hok
    exact ⟨h1, h2, by omega, fun i hi => by have := h3 i hi; omega⟩
  have n1 := hin.n1
  have n8 := hin.n8
  have k24 := hin.k24
  obtain ⟨b, off, rfl, hc⟩ := h.cells (by omega)
  have HC := hid hc
  have HIN := hid hin
  have hmk := make_ints (n := len) (by omega)
  have HB0 := hid (Below.refl w.heap.size w)
  clear h hc hok hin
  go_enter Try.func7, Try.ntmps7
  go_wp2_with (go_at_call 9; (with_reducible refine Calls.mono K1.out ?_); rintro e w1 ⟨rfl, rfl⟩)
  go_loopw [6, 7] (fun s i wr => ∃ p : Nat, p ≤ len ∧ i = .int .i64 p ∧ s = .int .i64 ((seSum (seA X) p : Nat) : Int) ∧ Hid (Below w1.heap.size w1 wr)) (fun _ i _ => len - (intOf i).toNat)
  case atStart => exact ⟨0, Nat.zero_le _, rfl, rfl, HB0.out⟩
  case round =>
    clear HB0 K1
    obtain ⟨p, hp, rfl, hs, HW⟩ := hrel
    obtain ⟨w5, e5⟩ : ∃ w5, w5 = wr := ⟨_, rfl⟩
    subst e5
    by_cases hlt : p < len
    · have hck := HC.out w5 HW.out p hlt
      have hx := HIN.out.x28 p hlt
      have hb := HIN.out.sum p (by omega)
      have KA := hid (fun W => absR_any (X p) W)
      rw [absF_nat (by omega)] at KA
      have HV := hid (show ((seSum (seA X) p : Nat) : Int) + (((X p).natAbs : Nat) : Int) = ((seSum (seA X) (p + 1) : Nat) : Int) by rw [seSum, seA]; omega)
      have hs2 : seSum (seA X) p ≤ 2147483648 := by omega
      clear hb
      generalize (X p).natAbs = y at *
      generalize X p = x at *
      generalize seSum (seA X) p = s0 at *
      subst hs
      go_wp2_with (go_at_call 11; (with_reducible refine Calls.mono (KA.out _) ?_); rintro e w6 ⟨rfl, rfl⟩)
      exact ⟨⟨p + 1, by omega, by go_num, congrArg (Value.int .i64) HV.out, HW.out⟩, by simp [intOf]; omega⟩
    · obtain rfl : p = len := by omega
      have hS := HIN.out.sum p (Nat.le_refl _)
      have HR2 := hid (Rows2.start (n := p) HW.out)
      by_cases hz : seSum (seA X) p = 0
      · have hfirst : RowAt w5.heap.size p (fun _ => 0) (w5.alloc (.cells (rowA p (fun _ => 0)) 3)) := al_new w5 _
        have hcell := hfirst.get (j := 0) (by omega)
        have hfro := hfirst.frozen 0
        have hp0 : (0 : Int) < (p : Int) := by omega
        have HE := hid (show VPost p (seF X p k) true w1 (.returned (.tuple #[.slice (some ⟨w5.heap.size, 0, none⟩) p p, .bool true])) (w5.alloc (.cells ((rowA p (fun _ => 0)).setIfInBounds 0 (.int .i64 (k : Int))) 3)) by
          refine ⟨_, _, rfl, ?_, HW.out.alloc HW.out.size _, fun x hx => by cases hx; exact HW.out.size⟩
          rw [rowA_set _ _ (by omega)]
          exact (RowAt.congr (X := upd (fun _ => 0) 0 (k : Int)) (al_new w5 _) fun i _ => by unfold upd seF; rw [if_pos hz]).ints (by unfold maxLen; omega))
        rw [hz] at hs
        clear hfirst hz HR2
        subst hs
        go_wp2
        go_ret2
        exact HE.out
      · obtain ⟨S, hSe⟩ : ∃ S, S = seSum (seA X) p := ⟨_, rfl⟩
        rw [← hSe] at hs hS
        have hS0 : (((S : Nat) : Int) == 0) = false := by simp; omega
        have hS1 : 1 ≤ S := by omega
        have HSE := hid hSe
        clear hz hSe
        subst hs
        go_wp2
        clear hmk
        have hR0 : Rows2 p w5.heap.size (w5.heap.size + 1) (tilF 0 (fun i => ((seQ X p k i : Nat) : Int))) (tilF 0 (fun i => ((seR X p k i : Nat) : Int))) w1 ((w5.alloc (.cells (rowA p (fun _ => 0)) 3)).alloc (.cells (rowA p (fun _ => 0)) 3)) :=
          HR2.out.congr (fun i _ => by simp [tilF]) (fun i _ => by simp [tilF])
        have HR0 := hid hR0
        clear hR0 HR2
        have HK0 := hid (show (k : Int) = ((k - seSum (seQ X p k) 0 : Nat) : Int) from rfl)
        obtain ⟨n, hn⟩ : ∃ n, n = p := ⟨_, rfl⟩
        subst hn
        obtain ⟨r, hr⟩ : ∃ r, r = w5.heap.size := ⟨_, rfl⟩
        obtain ⟨q, hq⟩ : ∃ q, q = w5.heap.size + 1 := ⟨_, rfl⟩
        rw [← hq, ← hr] at HR0
        rw [← hq, ← hr]
        obtain ⟨w6, hw6⟩ : ∃ w6, w6 = (w5.alloc (.cells (rowA n (fun _ => 0)) 3)).alloc (.cells (rowA n (fun _ => 0)) 3) := ⟨_, rfl⟩
        rw [← hw6] at HR0
        rw [← hw6]
        clear hr hq hw6
        go_loopw [9, 11] (fun l i wr => ∃ p : Nat, p ≤ n ∧ i = .int .i64 p ∧ l = .int .i64 ((k - seSum (seQ X n k) p : Nat) : Int) ∧ Hid (Rows2 n r q (tilF p (fun i => ((seQ X n k i : Nat) : Int))) (tilF p (fun i => ((seR X n k i : Nat) : Int))) w1 wr)) (fun _ i _ => n - (intOf i).toNat)
        case atStart => exact ⟨0, Nat.zero_le _, rfl, congrArg (Value.int .i64) HK0.out, HR0.out⟩
        case round =>
          clear HR0 HK0
          obtain ⟨p, hp, rfl, hl, HR⟩ := hrel
          obtain ⟨w7, e7⟩ : ∃ w7, w7 = wr := ⟨_, rfl⟩
          subst e7
          by_cases hlt : p < n
          · have hck := HC.out w7 HR.out.bel p hlt
            have hx := HIN.out.x28 p hlt
            have KA := hid (fun W => absR_any (X p) W)
            rw [absF_nat (by omega)] at KA
            have hyk : (X p).natAbs * k ≤ 6442450944 := by
              have := Nat.mul_le_mul hx k24; omega
            have hw : wrap64 ((((X p).natAbs : Nat) : Int) * (k : Int)) = (((X p).natAbs * k : Nat) : Int) := by
              rw [← Int.natCast_mul]; unfold wrap64; omega
            have hSz : S = seSum (seA X) n := HSE.out
            have hq2 : (((X p).natAbs * k : Nat) : Int) / (S : Int) = ((seQ X n k p : Nat) : Int) := by rw [seQ, ← hSz, seA, Int.natCast_ediv]
            have hr2 : (((X p).natAbs * k : Nat) : Int) % (S : Int) = ((seR X n k p : Nat) : Int) := by rw [seR, ← hSz, seA, Int.natCast_emod]
            have KM := hid (fun W => modr_any (((X p).natAbs * k : Nat) : Int) (S : Int) ⟨by omega, by omega⟩ (by omega) W)
            rw [modQ_of (by omega), modR_of (by omega), hq2, hr2] at KM
            have hsum := (seSum_all (X := X) (n := n) (by omega) k).1
            have hsp : seSum (seQ X n k) p + seQ X n k p ≤ k := by
              have h1 : seSum (seQ X n k) (p + 1) ≤ seSum (seQ X n k) n := by
                have hh : ∀ d, seSum (seQ X n k) (p + 1) ≤ seSum (seQ X n k) (p + 1 + d) := fun d => by
                  induction d with
                  | zero => exact Nat.le_refl _
                  | succ d ih => exact Nat.le_trans ih (Nat.le_add_right _ _)
                have := hh (n - (p + 1)); rwa [show p + 1 + (n - (p + 1)) = n by omega] at this
              rw [seSum] at h1; omega
            have HV := hid (show ((k - seSum (seQ X n k) p : Nat) : Int) - ((seQ X n k p : Nat) : Int) = ((k - seSum (seQ X n k) (p + 1) : Nat) : Int) by rw [seSum]; omega)
            have hl0 : k - seSum (seQ X n k) p ≤ 24 := by omega
            have hq0 : seQ X n k p ≤ 24 := by omega
            have HN := hid (fun (W : World) (h : Rows2 n r q (tilF p (fun i => ((seQ X n k i : Nat) : Int))) (tilF p (fun i => ((seR X n k i : Nat) : Int))) w1 W) =>
              show Rows2 n r q (tilF (p + 1) (fun i => ((seQ X n k i : Nat) : Int))) (tilF (p + 1) (fun i => ((seR X n k i : Nat) : Int))) w1 ((W.setCell ⟨r, p, none⟩ (.int .i64 ((seQ X n k p : Nat) : Int))).setCell ⟨q, p, none⟩ (.int .i64 ((seR X n k p : Nat) : Int))) by
                have h2 := (h.setL hlt ((seQ X n k p : Nat) : Int)).setR hlt ((seR X n k p : Nat) : Int)
                rwa [til_set p (fun i => ((seQ X n k i : Nat) : Int)), til_set p (fun i => ((seR X n k i : Nat) : Int))] at h2)
            clear hx hyk hSz hq2 hr2 hsum hsp
            generalize hPg : (((X p).natAbs * k : Nat) : Int) = P at *
            generalize (X p).natAbs = y at *
            generalize hxg : X p = x at *
            generalize hQg : ((seQ X n k p : Nat) : Int) = Q at *
            generalize hRg : ((seR X n k p : Nat) : Int) = R at *
            generalize hLg : ((k - seSum (seQ X n k) p : Nat) : Int) = l0 at *
            have b1 : 0 ≤ l0 ∧ l0 ≤ 24 := by omega
            have b2 : 0 ≤ Q ∧ Q ≤ 24 := by omega
            clear hl0 hq0 hPg hxg hQg hRg hLg
            subst hl
            go_wp2_with (first
              | (go_at_call 11; (with_reducible refine Calls.mono (KA.out _) ?_); rintro e w8 ⟨rfl, rfl⟩)
              | fail)
            refine Calls.mono (KM.out _) ?_
            rintro e w9 ⟨rfl, b9⟩
            have HR9 := hid (HR.out.to b9)
            have c1 := HR9.out.cellL hlt
            have f1 := HR9.out.froL p
            have c2 := (HR9.out.setL hlt Q).cellR hlt
            have f2 := (HR9.out.setL hlt Q).froR p
            clear b9 HR hck
            go_wp2
            exact ⟨⟨p + 1, by omega, by go_num, congrArg (Value.int .i64) HV.out, HN.out _ HR9.out⟩, by simp [intOf]; omega⟩
          · obtain rfl : p = n := by omega
            have HRN : Hid (Rows2 p r q (fun i => ((seN X p k 0 i : Nat) : Int)) (seRest (seR X p k) p 0) w1 w7) :=
              HR.out.congr (fun i hi => by rw [til_all _ _ i hi, seN_zero]) (fun i hi => by rw [til_all _ _ i hi, seRest_zero])
            have hSz : 1 ≤ seSum (seA X) p := by have := HSE.out; omega
            have hLn := seL_lt n1 hSz k
            have HL0 := hid (show ((k - seSum (seQ X p k) p : Nat) : Int) = ((seL X p k : Nat) : Int) from rfl)
            have HSz := hid hSz
            rw [HL0.out] at hl
            generalize hLg : seL X p k = L at hl hLn
            have HLg := hid hLg
            clear HR HL0 hSz hLg
            subst hl
            go_wp2
            go_loopw [9] (fun l wr => ∃ t d : Nat, t + d = L ∧ l = .int .i64 (d : Int) ∧ Hid (Rows2 p r q (fun i => ((seN X p k t i : Nat) : Int)) (seRest (seR X p k) p t) w1 wr)) (fun l _ => (intOf l).toNat)
            case atStart => exact ⟨0, L, by omega, rfl, HRN.out⟩
            case round =>
              clear HRN
              obtain ⟨t, d, htd, rfl, HR⟩ := hrel
              obtain ⟨w8, e8⟩ : ∃ w8, w8 = wr := ⟨_, rfl⟩
              subst e8
              by_cases hd : 0 < d
              · have HC8 := hid (fun W (hW : Below w8.heap.size w8 W) j (hj : j < p) => (HR.out.to hW).cellR hj)
                have HB8 := hid (Below.refl w8.heap.size w8)
                have htp : t < p := by omega
                go_wp2
                go_loopw [14, 15] (fun bb ii wr => ∃ b i : Nat, b < i ∧ i ≤ p ∧ bb = .int .i64 (b : Int) ∧ ii = .int .i64 (i : Int) ∧ Hid (∀ j, j < i → seRest (seR X p k) p t j < seRest (seR X p k) p t b ∨ seRest (seR X p k) p t j = seRest (seR X p k) p t b ∧ b ≤ j) ∧ Hid (Below w8.heap.size w8 wr)) (fun _ ii _ => p - (intOf ii).toNat)
                case atStart => exact ⟨0, 1, by omega, by omega, rfl, rfl, fun j hj => .inr ⟨by rw [show j = 0 by omega], by omega⟩, HB8.out⟩
                case round =>
                  clear HB8
                  obtain ⟨b1, i, hb, hi, rfl, rfl, HBst, HW9⟩ := hrel
                  obtain ⟨w9, e9⟩ : ∃ w9, w9 = wr := ⟨_, rfl⟩
                  subst e9
                  by_cases hlt : i < p
                  · have c1 := HC8.out w9 HW9.out i hlt
                    have c2 := HC8.out w9 HW9.out b1 (by omega)
                    by_cases hgt : seRest (seR X p k) p t b1 < seRest (seR X p k) p t i
                    · have HN := hid (show ∀ j, j < i + 1 → seRest (seR X p k) p t j < seRest (seR X p k) p t i ∨ seRest (seR X p k) p t j = seRest (seR X p k) p t i ∧ i ≤ j from fun j hj => by
                        by_cases e2 : j = i
                        · subst e2; exact .inr ⟨rfl, Nat.le_refl _⟩
                        · have := HBst.out j (by omega); left; omega)
                      clear HBst
                      generalize hv1 : seRest (seR X p k) p t i = v1 at c1 hgt
                      generalize hv2 : seRest (seR X p k) p t b1 = v2 at c2 hgt
                      clear hv1 hv2
                      go_wp2
                      go_region
                      go_wp2
                      exact ⟨⟨i, i + 1, by omega, by omega, rfl, by go_num, HN, HW9.out.drew⟩, by simp [intOf]; omega⟩
                    · have HN := hid (show ∀ j, j < i + 1 → seRest (seR X p k) p t j < seRest (seR X p k) p t b1 ∨ seRest (seR X p k) p t j = seRest (seR X p k) p t b1 ∧ b1 ≤ j from fun j hj => by
                        by_cases e2 : j = i
                        · subst e2; omega
                        · exact HBst.out j (by omega))
                      clear HBst
                      generalize hv1 : seRest (seR X p k) p t i = v1 at c1 hgt
                      generalize hv2 : seRest (seR X p k) p t b1 = v2 at c2 hgt
                      have hgt2 : decide (v2 < v1) = false := decide_eq_false hgt
                      clear hv1 hv2
                      go_wp2
                      go_region
                      go_wp2
                      exact ⟨⟨b1, i + 1, by omega, by omega, rfl, by go_num, HN, HW9.out.drew⟩, by simp [intOf]; omega⟩
                  · obtain rfl : i = p := by omega
                    have hrk := seRank_best htp hb HBst.out
                    have HN := hid (fun (W : World) (h : Rows2 i r q (fun j => ((seN X i k t j : Nat) : Int)) (seRest (seR X i k) i t) w1 W) =>
                      show Rows2 i r q (fun j => ((seN X i k (t + 1) j : Nat) : Int)) (seRest (seR X i k) i (t + 1)) w1 ((W.setCell ⟨r, b1, none⟩ (.int .i64 (((seN X i k t b1 : Nat) : Int) + 1))).setCell ⟨q, b1, none⟩ (.int .i64 (-1))) from
                        ((h.setL hb (((seN X i k t b1 : Nat) : Int) + 1)).setR hb (-1)).congr (seN_next hb hrk) (seRest_next hb hrk))
                    have HR9 := hid (HR.out.to HW9.out)
                    have c1 := HR9.out.cellL hb
                    have f1 := HR9.out.froL b1
                    have c2 := (HR9.out.setL hb (((seN X i k t b1 : Nat) : Int) + 1)).cellR hb
                    have f2 := (HR9.out.setL hb (((seN X i k t b1 : Nat) : Int) + 1)).froR b1
                    have hN24 : seN X i k t b1 ≤ 25 := by
                      have h1 := (seSum_all (X := X) (n := i) HSz.out k).1
                      have h2 := seSum_at (seQ X i k) i b1 hb
                      unfold seN; split <;> omega
                    clear HBst HR hrk HC8
                    generalize hv1 : ((seN X i k t b1 : Nat) : Int) = v1 at *
                    generalize hv2 : seRest (seR X i k) i t b1 = v2 at *
                    have hb1 : 0 ≤ v1 ∧ v1 ≤ 25 := by omega
                    clear hv1 hv2 hN24
                    go_wp2
                    exact ⟨⟨t + 1, d - 1, by omega, congrArg (Value.int .i64) (by omega), HN.out _ HR9.out⟩, by simp [intOf]; omega⟩
              · obtain rfl : d = 0 := by omega
                have etL : t = L := by omega
                have hL5 : Rows2 p r q (fun i => if i < 0 then seF X p k i else ((seN X p k L i : Nat) : Int)) (seRest (seR X p k) p t) w1 w8 := by
                  rw [← etL]; exact HR.out.congr (fun i _ => by rw [if_neg (by omega)]) (fun i _ => rfl)
                have HZ0 := hid hL5
                clear hL5 HR htd
                go_wp2
                go_loopw [16] (fun i wr => ∃ j : Nat, j ≤ p ∧ i = .int .i64 j ∧ Hid (Rows2 p r q (fun i => if i < j then seF X p k i else ((seN X p k L i : Nat) : Int)) (seRest (seR X p k) p t) w1 wr)) (fun i _ => p - (intOf i).toNat)
                case atStart => exact ⟨0, Nat.zero_le _, rfl, HZ0.out⟩
                case round =>
                  clear HZ0
                  obtain ⟨j, hj, rfl, HZ⟩ := hrel
                  obtain ⟨w9, e9⟩ : ∃ w9, w9 = wr := ⟨_, rfl⟩
                  subst e9
                  by_cases hlt : j < p
                  · have hck := HC.out w9 HZ.out.bel j hlt
                    have c1 := HZ.out.cellL hlt
                    rw [if_neg (Nat.lt_irrefl j)] at c1
                    have f1 := HZ.out.froL j
                    have hFj : seF X p k j = if X j < 0 then -((seN X p k L j : Nat) : Int) else ((seN X p k L j : Nat) : Int) := by
                      rw [seF, if_neg (by have := HSz.out; omega), HLg.out]
                    have hN24 : seN X p k L j ≤ 24 := by
                      have := seN_le n1 HSz.out k hlt; rw [HLg.out] at this; omega
                    by_cases hneg : X j < 0
                    · rw [if_pos hneg] at hFj
                      have HN := hid (show Rows2 p r q (fun i => if i < j + 1 then seF X p k i else ((seN X p k L i : Nat) : Int)) (seRest (seR X p k) p t) w1 (w9.setCell ⟨r, j, none⟩ (.int .i64 (-((seN X p k L j : Nat) : Int)))) from
                        (HZ.out.setL hlt (-((seN X p k L j : Nat) : Int))).congr (fun i hi => by
                          unfold upd
                          by_cases e : i = j
                          · subst e; rw [if_pos rfl, if_pos (by omega), hFj]
                          · rw [if_neg e]
                            show (if i < j then seF X p k i else ((seN X p k L i : Nat) : Int)) = _
                            by_cases h2 : i < j
                            · rw [if_pos h2, if_pos (by omega)]
                            · rw [if_neg h2, if_neg (by omega)]) (fun i _ => rfl))
                      clear HZ hFj
                      generalize hv1 : ((seN X p k L j : Nat) : Int) = v1 at *
                      have hb1 : 0 ≤ v1 ∧ v1 ≤ 24 := by omega
                      generalize X j = x at *
                      clear hv1 hN24
                      go_wp2
                      exact ⟨⟨j + 1, by omega, by go_num, HN⟩, by simp [intOf]; omega⟩
                    · rw [if_neg hneg] at hFj
                      have HN := hid (show Rows2 p r q (fun i => if i < j + 1 then seF X p k i else ((seN X p k L i : Nat) : Int)) (seRest (seR X p k) p t) w1 w9 from
                        HZ.out.congr (fun i hi => by
                          by_cases e : i = j
                          · subst e; rw [if_neg (Nat.lt_irrefl i), if_pos (by omega), hFj]
                          · by_cases h2 : i < j
                            · rw [if_pos h2, if_pos (by omega)]
                            · rw [if_neg h2, if_neg (by omega)]) (fun i _ => rfl))
                      clear HZ hFj c1 f1 hN24
                      generalize X j = x at *
                      go_wp2
                      exact ⟨⟨j + 1, by omega, by go_num, HN⟩, by simp [intOf]; omega⟩
                  · obtain rfl : j = p := by omega
                    have HE := hid ((HZ.out.congr (Y' := seF X j k) (fun i hi => if_pos hi) (fun i _ => rfl)).post (by omega) true)
                    clear HZ
                    go_wp2
                    go_ret2
                    exact HE.out
end Go.Proofs.Ytabgbchogmbofaa
