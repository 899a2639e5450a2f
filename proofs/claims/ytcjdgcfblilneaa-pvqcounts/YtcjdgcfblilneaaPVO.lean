/-
  The program's Index.
-/
import Derived.Test.YtcjdgcfblilneaaPVM
import Derived.Test.YtcjdgcfblilneaaPVE
namespace Go.Proofs.Ytcjdgcfblilneaa
open Go.ChangeShapes Go.WideShapes Go.ChangeAt Go.RowKit
set_option linter.unusedVariables false

theorem pvq_index_no (a : Option Addr) (len cap : Nat) (X : Nat → Int) (ml : len ≤ maxLen) (hok : pvOk len X = false) (w : World) (h : IsInts w a len cap X) :
    Calls Try.prog 12 #[.slice a len cap] w fun e w' => e = .returned (.tuple #[.int .i64 (pvNum len X), .bool (pvOk len X)]) ∧ Below w.heap.size w w' := by
  have K1 := hid (pvq_size a len cap X ml w h)
  rw [pvSz_no hok, hok] at K1
  rw [pvNum, if_neg (by rw [hok]; simp), hok]
  unfold maxLen at ml
  clear h hok
  go_enter Try.func12, Try.ntmps12
  go_wp2_with (fail)
  refine Calls.mono K1.out ?_
  rintro e w1 ⟨rfl, b1⟩
  go_wp2
  go_ret2
  exact ⟨rfl, b1⟩
set_option maxRecDepth 100000 in
set_option maxHeartbeats 1000000 in
theorem pvq_index (a : Option Addr) (len cap : Nat) (X : Nat → Int) (ml : len ≤ maxLen) (w : World) (h : IsInts w a len cap X) :
    Calls Try.prog 12 #[.slice a len cap] w fun e w' => e = .returned (.tuple #[.int .i64 (pvNum len X), .bool (pvOk len X)]) ∧ Below w.heap.size w w' := by
  cases hok : pvOk len X with
  | false => have := pvq_index_no a len cap X ml hok w h; rwa [hok] at this
  | true =>
  obtain ⟨h1, h8, h24⟩ := pvOk_of hok
  have hK := pvF_all h24
  have K1 := hid (pvq_size a len cap X ml w h)
  rw [pvSz, if_pos hok, hok, ← hK] at K1
  rw [pvNum, if_pos hok]
  obtain ⟨b, off, rfl, hc⟩ := h.cells (by omega)
  have HC := hid hc
  have HI := hid (fun m (hm : m ≤ len) => pvI_le (X := X) h8 (by omega) m hm)
  have HKl := hid (fun m (hm : m ≤ len) => show pvK X len m ≤ 24 by have := pvK_le X len hm; omega)
  have HX := hid (fun p (hp : p < len) => pvF_at h24 hp)
  have HL := hid (And.intro h1 h8)
  have K2 := hid (fun W => counted_any W)
  have e0 : ((pvI X len len - pvI X len len : Nat) : Int) = 0 := by omega
  have HE0 := hid e0
  clear hc h hok hK h24 e0 ml
  go_enter Try.func12, Try.ntmps12
  go_wp2_with (fail)
  refine Calls.mono K1.out ?_
  rintro e w1 ⟨rfl, b1⟩
  have B1 := hid b1
  clear b1 K1
  go_wp2_with (fail)
  refine Calls.mono (K2.out _) ?_
  rintro e w2 ⟨rfl, ht⟩
  have B2 := hid (below_then B1.out ht.bel)
  have HT := hid ht.tab
  have HB2 := hid (Below.refl w2.heap.size w2)
  obtain ⟨g, hg⟩ : ∃ g, g = w1.heap.size := ⟨_, rfl⟩
  rw [← hg] at HT ⊢
  clear ht K2 B1 hg
  go_wp2
  go_loopw [4, 7, 22] (fun kk ii at' wr => ∃ p q : Nat, p + q = len ∧ at' = .int .i64 (p : Int) ∧ kk = .int .i64 ((pvK X len q : Nat) : Int) ∧ ii = .int .i64 ((pvI X len len - pvI X len q : Nat) : Int) ∧ Hid (Below w2.heap.size w2 wr)) (fun _ _ at' _ => len - (intOf at').toNat)
  case atStart => exact ⟨0, len, by omega, rfl, rfl, by rw [HE0.out], HB2.out⟩
  case round =>
    clear HB2 HE0
    obtain ⟨p, q, hpq, rfl, hkk, hii, HW⟩ := hrel
    obtain ⟨w5, e5⟩ : ∃ w5, w5 = wr := ⟨_, rfl⟩
    subst e5
    by_cases hlt : p < len
    · obtain ⟨r, rfl⟩ : ∃ r, q = r + 1 := ⟨q - 1, by omega⟩
      have hl := HL.out
      have hck := HC.out _ (below_then B2.out HW.out) p hlt
      have hx := (HX.out p hlt).1
      have er : len - 1 - r = p := by omega
      have ik := HKl.out (r + 1) (by omega)
      have sK : pvK X len (r + 1) = (X p).natAbs + pvK X len r := by rw [pvK, er]
      have sI : pvI X len (r + 1) = pvA (pvC r) (pvK X len (r + 1)) (pvP (X p)) + pvI X len r := by rw [pvI, er]
      have i1 := HI.out len (Nat.le_refl _)
      have i2 : pvI X len (r + 1) ≤ pvI X len len := by
        have hh : ∀ d, pvI X len (r + 1) ≤ pvI X len (r + 1 + d) := fun d => by
          induction d with
          | zero => exact Nat.le_refl _
          | succ d ih => exact Nat.le_trans ih (by rw [show r + 1 + (d + 1) = (r + 1 + d) + 1 from rfl, pvI]; omega)
        have := hh p
        rwa [show r + 1 + p = len by omega] at this
      generalize hIl : pvI X len len = IL at *
      generalize hIr1 : pvI X len (r + 1) = I1 at *
      generalize hIr : pvI X len r = I0 at *
      generalize hKr1 : pvK X len (r + 1) = K at *
      generalize hKr : pvK X len r = K0 at *
      have hpp := pvP_le (x := X p) (k := (X p).natAbs) (Nat.le_refl _)
      have hph := pvP_half (X p)
      have K4 := hid (pplace_any (X p) hx w5)
      have K5 : Hid (∀ W, Below w5.heap.size w5 W → Calls Try.prog 19 #[.int .i64 (X p)] W fun e w' => e = .returned (.int .i64 (((X p).natAbs : Nat) : Int)) ∧ Below w5.heap.size w5 w') := fun W hW =>
        (abs_any (X p) W).mono fun e w' ⟨he, hb⟩ => ⟨by rw [he, absF_nat (by omega)], below_then hW hb⟩
      have hr8 : r < 8 := by omega
      have hAm := fun o (ho : o ≤ pvP (X p)) => pvA_mono (pvC r) K ho
      have HSI := hid sI
      clear sI
      generalize hA : (X p).natAbs = A at *
      generalize hP : pvP (X p) = P at *
      generalize hxp : X p = x at *
      have K6 : Hid (∀ o, o < P → ∀ W, Below w5.heap.size w5 W → Calls Try.prog 24 #[.pointer (some ⟨g, 0, none⟩), .int .i64 (o : Int), .int .i64 (r : Int), .int .i64 (K : Int)] W fun e w' => e = .returned (.int .i64 (pvT r (K - (o + 1) / 2))) ∧ Below w5.heap.size w5 w') := fun o ho W hW =>
        (pfrom_any g o r K (by omega) (by omega) ik W (HT.out.to (below_then HW.out hW))).mono fun e w' ⟨he, hb⟩ => ⟨he, below_then hW hb⟩
      have HAm := hid hAm
      have HB5 := hid (Below.refl w5.heap.size w5)
      have HA0 := hid (show ((IL - I1 : Nat) : Int) = ((IL - I1 + pvA (pvC r) K 0 : Nat) : Int) from rfl)
      have HIL := hid (And.intro i1 i2)
      have HKK := hid (And.intro hKr hIr)
      have y1 : (len : Int) - (p : Int) - 1 = (r : Int) := by omega
      have y2 : (K : Int) - (A : Int) = (K0 : Int) := by omega
      have HPP := hid (And.intro hpp hph)
      have P48 : P ≤ 48 := by omega
      have r8 : (r : Int) < 8 := by omega
      clear hAm hIl hIr1 hIr hKr1 hKr hA hP hxp hx sK i1 i2 hpp hph er
      subst hkk hii
      go_wp2_with (go_at_call 23; (with_reducible refine K4.out.mono ?_); rintro e w6 ⟨rfl, rfl⟩)
      go_loopw [7, 34] (fun ii oo wr => ∃ o : Nat, o ≤ P ∧ oo = .int .i64 (o : Int) ∧ ii = .int .i64 ((IL - I1 + pvA (pvC r) K o : Nat) : Int) ∧ Hid (Below w6.heap.size w6 wr)) (fun _ oo _ => P - (intOf oo).toNat)
      case atStart => exact ⟨0, Nat.zero_le _, rfl, by rw [HA0.out], HB5.out⟩
      case round =>
        clear HB5 HA0
        obtain ⟨o, ho, rfl, hii, HW7⟩ := hrel
        obtain ⟨w7, e7⟩ : ∃ w7, w7 = wr := ⟨_, rfl⟩
        subst e7
        by_cases hlo : o < P
        · have K7 := hid (K6.out o hlo w7 HW7.out)
          have hV : ((IL - I1 + pvA (pvC r) K o : Nat) : Int) + pvT r (K - (o + 1) / 2) = ((IL - I1 + pvA (pvC r) K (o + 1) : Nat) : Int) := by rw [pvT, pvA]; omega
          have hm := HAm.out o ho
          have hm2 := HAm.out (o + 1) hlo
          have hb : 0 ≤ ((IL - I1 + pvA (pvC r) K o : Nat) : Int) ∧ ((IL - I1 + pvA (pvC r) K o : Nat) : Int) ≤ 33232930569601 := by have := HSI.out; have := HIL.out; omega
          have ht : 0 ≤ pvT r (K - (o + 1) / 2) ∧ pvT r (K - (o + 1) / 2) ≤ 33232930569601 := by
            have := pvC_bd (n := r) (k := K - (o + 1) / 2) (by omega) (by omega)
            unfold pvT; omega
          have HV := hid hV
          clear hV hm hm2
          generalize ((IL - I1 + pvA (pvC r) K o : Nat) : Int) = J at *
          generalize pvT r (K - (o + 1) / 2) = T at *
          subst hii
          go_wp2_with (fail)
          refine Calls.mono K7.out ?_
          rintro e w8 ⟨rfl, b8⟩
          have B8 := hid b8
          clear b8 K7
          go_wp2
          exact ⟨⟨o + 1, by omega, by go_num, congrArg (Value.int .i64) HV.out, B8⟩, by simp [intOf]; omega⟩
        · obtain rfl : o = P := by omega
          have HJ := hid (show ((IL - I1 + pvA (pvC r) K o : Nat) : Int) = ((IL - I0 : Nat) : Int) by have := HSI.out; have := HIL.out; omega)
          rw [HJ.out] at hii
          clear HJ
          subst hii
          go_wp2_with (go_at_call 19; (with_reducible refine Calls.mono (K5.out _ HW7.out) ?_); rintro e w8 ⟨rfl, b8⟩)
          exact ⟨⟨p + 1, r, by omega, by go_num, by rw [HKK.out.1], by rw [HKK.out.2], below_then HW.out b8⟩, by simp [intOf]; omega⟩
    · obtain rfl : p = len := by omega
      obtain rfl : q = 0 := by omega
      have e1 : ((pvI X p p - pvI X p 0 : Nat) : Int) = ((pvI X p p : Nat) : Int) := by rw [pvI]; rfl
      rw [e1] at hii
      have HE := hid (below_then B2.out HW.out)
      clear e1 HW
      subst hkk hii
      go_wp2
      go_ret2
      exact ⟨rfl, HE.out⟩
end Go.Proofs.Ytcjdgcfblilneaa
