/-
  The document's Index of others, Vector.
-/
import Derived.Test.YtcjdgcfblilneaaPVD
namespace Go.Proofs.Ytcjdgcfblilneaa
open Go.ChangeShapes Go.WideShapes Go.ChangeAt Go.RowKit
set_option linter.unusedVariables false

theorem rindex_no (a : Option Addr) (len cap : Nat) (X : Nat → Int) (ml : len ≤ maxLen) (hok : pvOk len X = false) (w : World) (h : IsInts w a len cap X) :
    Calls Try.prog 13 #[.slice a len cap] w fun e w' => e = .returned (.tuple #[.int .i64 0, .bool false]) ∧ w' = w := by
  have K1 := hid (rsize_any a len cap X ml w h)
  rw [pvSz, if_neg (by rw [hok]; simp), hok] at K1
  clear h
  go_enter Try.func13, Try.ntmps13
  go_wp2_with (fail)
  refine Calls.mono K1.out ?_
  rintro e w1 ⟨rfl, rfl⟩
  go_wp2
  go_ret2
  exact ⟨rfl, rfl⟩
/-- P16.2: Index, of any numbers. -/
theorem rindex_any (a : Option Addr) (len cap : Nat) (X : Nat → Int) (ml : len ≤ maxLen) (w : World) (h : IsInts w a len cap X) :
    Calls Try.prog 13 #[.slice a len cap] w fun e w' => e = .returned (.tuple #[.int .i64 (pvNum len X), .bool (pvOk len X)]) ∧ Below w.heap.size w w' := by
  cases hok : pvOk len X with
  | true => rw [pvNum, if_pos hok]; exact rindex_yes a len cap X hok w h
  | false =>
    rw [pvNum, if_neg (by rw [hok]; simp)]
    exact (rindex_no a len cap X ml hok w h).mono fun e w' ⟨he, hb⟩ => ⟨he, by rw [hb]; exact Below.refl _ _⟩

/-- Pulses of one's own, or none. -/
def VPost (n : Nat) (F : Nat → Int) (b : Bool) (w : World) (e : Ending) (w' : World) : Prop := ∃ a cap, e = .returned (.tuple #[.slice a n cap, .bool b]) ∧ IsInts w' a n cap F ∧ Below w.heap.size w w' ∧ ∀ x, a = some x → w.heap.size ≤ x.block
set_option maxRecDepth 100000 in
theorem rvector_no (n k i : Int) (h : n < 1 ∨ i < 0 ∨ pvCnt n k ≤ i) (w : World) : Calls Try.prog 15 #[.int .i64 n, .int .i64 k, .int .i64 i] w (VPost 0 (fun _ => 0) false w) := by
  have HE : Hid (∀ w', Below w.heap.size w w' → VPost 0 (fun _ => 0) false w (.returned (.tuple #[.slice none 0 0, .bool false])) w') := fun w' hb => ⟨none, 0, rfl, .inl rfl, hb, fun x hx => by cases hx⟩
  have HB := hid (Below.refl w.heap.size w)
  have K1 := hid (rcount_any n k w)
  by_cases h1 : n < 1
  · clear h K1
    go_enter Try.func15, Try.ntmps15
    go_wp2
    go_ret2
    exact HE.out _ HB.out
  by_cases h2 : i < 0
  · clear h K1
    go_enter Try.func15, Try.ntmps15
    go_wp2
    go_ret2
    exact HE.out _ HB.out
  have h3 : pvCnt n k ≤ i := by omega
  generalize pvCnt n k = c at *
  clear h
  go_enter Try.func15, Try.ntmps15
  go_wp2_with (fail)
  refine Calls.mono K1.out ?_
  rintro e w1 ⟨rfl, b1⟩
  have B1 := hid b1
  clear b1
  go_wp2
  go_ret2
  exact HE.out _ B1.out
/-- What is left of a number, when o first numbers are passed by. -/
theorem pv_left {f : Nat → Nat} {K I o O : Nat} (hO : pvA f K O ≤ I) (ho : o < O) : pvA f K o + f (K - (o + 1) / 2) ≤ I := by
  have h := pvA_mono f K (show o + 1 ≤ O from ho)
  rw [pvA] at h
  omega
set_option maxRecDepth 100000 in
set_option maxHeartbeats 1000000 in
theorem rvector_yes (n k i : Nat) (hn1 : 1 ≤ n) (hn : n ≤ 8) (hk : k ≤ 24) (hi : i < pvC n k) (w : World) : Calls Try.prog 15 #[.int .i64 n, .int .i64 k, .int .i64 i] w (VPost n (pvVec n k i) true w) := by
  obtain ⟨i0, hii, hz0, hz1, hz2⟩ := infoI
  have HII : Hid (Try.prog.info? 3 = some i0) := hii
  have K1 := hid (rcount_yes n k hn hk w)
  have K2 := hid (fun w => rrows_any n hn w)
  obtain ⟨c, hc⟩ : ∃ c : Int, c = pvT n k := ⟨_, rfl⟩
  rw [← hc] at K1
  have hci : (i : Int) < c := by rw [hc, pvT]; omega
  have hi0 : ¬ ((i : Int) < 0) := by omega
  have hib : (i : Int) ≤ 33232930569601 := by have := pvC_bd hn hk; omega
  have HS := hid (pvS_in hi)
  have HSL := hid (pvS_le n k i)
  obtain ⟨F, hF⟩ : ∃ F, F = pvVec n k i := ⟨_, rfl⟩
  have HF := hid hF
  rw [← hF]
  obtain ⟨B, hB⟩ : ∃ B, B = w.heap.size := ⟨_, rfl⟩
  have HB := hid hB
  have HN := hid (And.intro hn1 (And.intro hn hk))
  have HI := hid hi
  clear hii hc hi hF hB
  go_enter Try.func15, Try.ntmps15
  go_wp2_with (fail)
  refine Calls.mono K1.out ?_
  rintro e w1 ⟨rfl, b1⟩
  have B1 := hid b1
  clear b1 K1
  go_wp2_with (fail)
  refine Calls.mono (K2.out _) ?_
  rintro e w2 ⟨at1, ct1, rfl, hl, hb⟩
  obtain ⟨tb, to, rfl, ht⟩ := hl.table (by omega) (by omega)
  have HT := hid ht
  have HB2 := hid (show Below B w w2 by rw [HB.out]; exact below_then B1.out hb)
  have HZ2 := hid (show B ≤ w2.heap.size by rw [HB.out]; exact Nat.le_trans B1.out.size hb.size)
  have HO2 := hid (World.ownsRow_nil w2 w2.heap.size 3 1)
  have HR2 := hid (Below.refl w2.heap.size w2)
  clear hl ht hb K2 B1
  go_wp2
  go_loopw [1, 2, 9, 10] (fun kk ii o mm wr => ∃ p q : Nat, p + q = n ∧ mm = .int .i64 ((q : Int) - 1) ∧ kk = .int .i64 (((pvS n k i p).1 : Nat) : Int) ∧ ii = .int .i64 (((pvS n k i p).2 : Nat) : Int) ∧ Hid (wr.ownsRow w2.heap.size 3 1 o p (intL p F)) ∧ Hid (Below w2.heap.size w2 wr)) (fun _ _ _ mm _ => (intOf mm + 1).toNat)
  case atStart => exact ⟨0, n, by omega, rfl, rfl, rfl, HO2.out, HR2.out⟩
  case round =>
    clear HO2 HR2
    obtain ⟨p, q, hpq, hm, hkk, hii, HO, HW⟩ := hrel
    obtain ⟨w5, e5⟩ : ∃ w5, w5 = wr := ⟨_, rfl⟩
    subst e5
    by_cases hlt : 1 ≤ q
    · obtain ⟨r, rfl⟩ : ∃ r, q = r + 1 := ⟨q - 1, by omega⟩
      have em : ((r + 1 : Nat) : Int) - 1 = (r : Int) := by omega
      rw [em] at hm
      have er : n - 1 - p = r := by omega
      have hn8 := HN.out
      have s1 := HS.out p (by omega)
      have s2 := HSL.out p
      have s3 := pvS_top (show p < n by omega) s1
      have s4 := pvOrd_le n k i p
      have s5 := pvOrd_at n k i p
      have s6 := fun o => pvO_iff s3 o
      have s7 := pvS_succ n k i p
      have s8 : F p = pvV (pvOrd n k i p) := by rw [HF.out]; rfl
      have s9 := pvC_bd (n := n - p) (k := (pvS n k i p).1) (by omega) (by omega)
      have s6' : ∀ o, o < pvOrd n k i p ↔ pvA (pvC (n - 1 - p)) (pvS n k i p).1 (o + 1) ≤ (pvS n k i p).2 := s6
      rw [er] at s3 s5 s6' s7
      have HNX := hid s7
      clear s6 s7
      generalize hKg : (pvS n k i p).1 = K at *
      generalize hIg : (pvS n k i p).2 = I at *
      generalize pvOrd n k i p = O at *
      have hK24 : K ≤ 24 := by omega
      have hI9 : I ≤ 33232930569601 := by omega
      have HO5 := hid (And.intro s4 (And.intro s5 s8))
      have H6 := hid s6'
      obtain ⟨ab, ao, ci, q1, q2, ht⟩ := HT.out r (by omega)
      have D := hid (fun W (hW : Below w5.heap.size w5 W) => ht W (below_then HW.out hW))
      have HV0 : pvV 0 = 0 := rfl
      have HB5 := hid (Below.refl w5.heap.size w5)
      have HI0 := hid (show I - pvA (pvC r) K 0 = I from Nat.sub_zero I)
      clear s1 s2 s3 s4 s5 s8 s9 s6' hKg hIg ht hn8 em er
      subst hm hkk hii
      go_wp2
      go_loopw [2, 11] (fun ii v wt => ∃ o : Nat, o ≤ O ∧ v = .int .i64 (pvV o) ∧ ii = .int .i64 ((I - pvA (pvC r) K o : Nat) : Int) ∧ Hid (Below w5.heap.size w5 wt)) (fun _ v _ => O - pvP (intOf v))
      case atStart => exact ⟨0, Nat.zero_le _, by rw [HV0], by rw [HI0.out], HB5.out⟩
      case round =>
        clear HB5 HI0 HV0
        obtain ⟨o, ho, hv, hii, HB6⟩ := hrel
        obtain ⟨w6, e6⟩ : ∃ w6, w6 = wr := ⟨_, rfl⟩
        subst e6
        obtain ⟨z, hz⟩ : ∃ z, z = K - (o + 1) / 2 := ⟨_, rfl⟩
        have h4 := HO5.out.1
        have hzA : ((o + 1) / 2 : Nat) ≤ K := by omega
        obtain ⟨A, hA⟩ : ∃ A, A = (o + 1) / 2 := ⟨_, rfl⟩
        rw [← hA] at hz hzA
        have y2 : (K : Int) - (A : Int) = (z : Int) := by omega
        have y3 : z < 25 := by omega
        have hVA := pvV_abs o
        rw [← hA] at hVA
        have KF : Hid (∀ B0 w0 W, Below B0 w0 W → Calls Try.prog 20 #[.int .i64 (pvV o)] W fun e w' => e = .returned (.int .i64 (A : Int)) ∧ Below B0 w0 w') := fun B0 w0 W hW =>
          (rfar_any (pvV o) W).mono fun e w' ⟨he, hb⟩ => ⟨by rw [he, pvD, if_neg (by omega), hVA], by rw [hb]; exact hW⟩
        have D1 := hid (fun W hW => (D.out W (below_then HB6.out hW)).1)
        have D2 := hid (fun W hW => (D.out W (below_then HB6.out hW)).2 z (by omega))
        have hpv := pvP_val o
        have hparts : (o % 2 = 1 ∧ 0 < pvV o ∧ pvV (o + 1) = -(pvV o)) ∨ (o % 2 = 0 ∧ pvV o ≤ 0 ∧ pvV (o + 1) = 1 - pvV o) := by
          unfold pvV
          by_cases h : o % 2 = 1
          · left; rw [if_pos h, if_neg (by omega)]; omega
          · right; rw [if_neg h, if_pos (by omega)]; omega
        have hVb : -24 ≤ pvV o ∧ pvV o ≤ 24 := by omega
        have hpv1 := pvP_val (o + 1)
        by_cases hlo : o < O
        · have hle := (H6.out o).1 hlo
          rw [pvA, ← hA, ← hz] at hle
          have HJ : ((I - pvA (pvC r) K (o + 1) : Nat) : Int) = ((I - pvA (pvC r) K o : Nat) : Int) - pvT r z := by
            rw [pvT, pvA, ← hA, ← hz]; omega
          have hJC : pvT r z ≤ ((I - pvA (pvC r) K o : Nat) : Int) := by rw [pvT]; omega
          have hC0 : 0 ≤ pvT r z := by rw [pvT]; omega
          have hJ9 : 0 ≤ ((I - pvA (pvC r) K o : Nat) : Int) ∧ ((I - pvA (pvC r) K o : Nat) : Int) ≤ 33232930569601 := by omega
          generalize ((I - pvA (pvC r) K o : Nat) : Int) = J at *
          generalize pvT r z = C at *
          generalize pvV o = v at *
          have HJ2 := hid HJ
          have HP := hid (And.intro hpv hpv1)
          have HPA := hid hparts
          clear hle HJ hz hA hVA hpv hpv1 hparts
          subst hv hii
          go_wp2
          refine region_below (by kernel_rfl) (by kernel_rfl) ?_
          repeat (go_big_quiet_step (first
            | (intro hq; rfl)
            | (intro hq; rw [D1.out _ hq]; exact ⟨rfl, rfl⟩)
            | (intro hq; rw [D2.out _ hq]; exact ⟨rfl, rfl⟩)
            | (intro hq; go_at_call 20; (with_reducible exact KF.out _ _ _ hq))))
          refine wpQuiet_nil ?_
          intro w8 hw8
          have HB8 := hid hw8
          clear hw8
          go_wp2
          have E1 := hid (fun W hW => D1.out W (below_then HB8.out hW))
          have E2 := hid (fun W hW => D2.out W (below_then HB8.out hW))
          clear D1 D2
          refine region_below (by kernel_rfl) (by kernel_rfl) ?_
          repeat (go_big_quiet_step (first
            | (intro hq; rfl)
            | (intro hq; rw [E1.out _ hq]; exact ⟨rfl, rfl⟩)
            | (intro hq; rw [E2.out _ hq]; exact ⟨rfl, rfl⟩)
            | (intro hq; go_at_call 20; (with_reducible exact KF.out _ _ _ hq))))
          refine wpQuiet_nil ?_
          intro w9 hw9
          have HB9 := hid (below_then HB6.out (below_then HB8.out hw9))
          clear hw9 HB8 HB6 E1 E2
          rcases HPA.out with ⟨_, h1, h2⟩ | ⟨_, h1, h2⟩
          · rw [h2] at HP
            have HV2 := hid h2
            clear h2
            go_wp2
            exact ⟨⟨o + 1, by omega, by rw [HV2.out], by rw [HJ2.out], HB9⟩, by simp only [intOf]; have h3 := HP.out.1; have h4 := HP.out.2; omega⟩
          · rw [h2] at HP
            have HV2 := hid h2
            clear h2
            go_wp2
            exact ⟨⟨o + 1, by omega, by rw [HV2.out], by rw [HJ2.out], HB9⟩, by simp only [intOf]; have h3 := HP.out.1; have h4 := HP.out.2; omega⟩
        · obtain rfl : o = O := by omega
          have hnl : ¬ (pvA (pvC r) K (o + 1) ≤ I) := fun h => hlo ((H6.out o).2 h)
          rw [pvA, ← hA, ← hz] at hnl
          have hAI := HO5.out.2.1
          have hJC : ((I - pvA (pvC r) K o : Nat) : Int) < pvT r z := by rw [pvT]; omega
          have hC9 : pvT r z ≤ 33232930569601 := by rw [pvT]; have := pvC_bd (n := r) (k := z) (by have := HN.out; omega) (by omega); omega
          have hJ9 : 0 ≤ ((I - pvA (pvC r) K o : Nat) : Int) := by omega
          rw [← hA] at HNX
          have HFp := hid HO5.out.2.2.symm
          generalize hJg : ((I - pvA (pvC r) K o : Nat) : Int) = J at *
          generalize pvT r z = C at *
          have HJ2 := hid hJg
          have HZ2' := hid hz
          have hvF : pvV o = F p := HFp.out
          rw [hvF] at hv KF hVb
          generalize hc9 : F p = v9 at *
          have HC9 := hid hc9
          clear hnl hz hA hVA hpv hpv1 hparts hJg hvF hc9 H6 HFp hAI
          subst hv hii
          go_wp2
          refine region_below (by kernel_rfl) (by kernel_rfl) ?_
          repeat (go_big_quiet_step (first
            | (intro hq; rfl)
            | (intro hq; rw [D1.out _ hq]; exact ⟨rfl, rfl⟩)
            | (intro hq; rw [D2.out _ hq]; exact ⟨rfl, rfl⟩)
            | (intro hq; go_at_call 20; (with_reducible exact KF.out _ _ _ hq))))
          refine wpQuiet_nil ?_
          intro w8 hw8
          have HB8 := hid (below_then HB6.out hw8)
          have HZ8 := hid (Nat.le_trans HW.out.size HB8.out.size)
          have HO8 := hid (owns_below HO.out HB8.out)
          have HW8 := hid (below_then HW.out HB8.out)
          clear hw8 HB6 HO HW D1 D2 D HB8
          have HA : Hid ((w8.alloc (.cells #[.int .i64 v9] 3)).ownsRow w2.heap.size 3 1 u9 p (intL p F)) := HO8.out.alloc _
          have HS9 : Hid (w2.heap.size ≤ (w8.alloc (.cells #[.int .i64 v9] 3)).heap.size) := Nat.le_trans HZ8.out (by simp)
          have HP9 := hid (show p + 1 ≤ maxLen by have := HN.out; unfold maxLen; omega)
          go_wp2_with (at_builtin; refine wpList_append_lies _ rfl _ _ _ rfl w2.heap.size 3 i0 (.int .i64 0) 1 8 Try.underlying22 HII.out hz0 hz1 hz2 rfl (by omega) _ _ _ rfl HA.out ⟨w8.heap.size, 0, none⟩ 1 1 [.int .i64 v9] rfl rfl (World.news_of_block (cs := #[.int .i64 v9]) (heap_alloc_new w8 _)) (by intro u hu; simp at hu; subst hu; rfl) (by omega) HP9.out (by omega) HS9.out _ rfl ?_)
          intro gg cap1 w9 hown hgr _ _
          obtain ⟨o1, o2, o3⟩ := oi_step HO8.out HW8.out HZ8.out HC9.out.symm hown hgr
          have O1 := hid o1
          have O2 := hid o2
          clear hown hgr o1 o2 o3 HA HS9 HO8 HW8
          have KF9 := hid (KF.out w9.heap.size w9 w9 (Below.refl _ _))
          go_wp2_with (go_at_call 20; (with_reducible refine KF9.out.mono ?_); rintro e w10 ⟨rfl, b10⟩)
          have O3 := hid (owns_below O1.out b10)
          have O4 := hid (below_then O2.out b10)
          clear b10 O1 O2 KF9
          go_wp2
          exact ⟨⟨p + 1, r, by omega, rfl, by rw [HNX.out, HZ2'.out], by rw [HNX.out, HJ2.out], O3, O4⟩, by simp [intOf]⟩
    · obtain rfl : q = 0 := by omega
      obtain rfl : p = n := by omega
      obtain ⟨a1, c1, rfl, i1⟩ := own_ints HO.out
      have hnew := own_new HO.out
      have hE : VPost p F true w (.returned (.tuple #[.slice a1 p c1, .bool true])) w5 := by
        have hb := HB2.out; have hz := HZ2.out; rw [HB.out] at hb hz
        exact ⟨a1, c1, rfl, i1, hb.trans (HW.out.mono hz), fun x hx => Nat.le_trans hz (hnew x hx)⟩
      have HE := hid hE
      clear i1 hnew hE HO HW
      subst hm hkk hii
      go_wp2
      go_ret2
      exact HE.out
end Go.Proofs.Ytcjdgcfblilneaa
