/-
  The document's Index.
-/
import Derived.Test.YtcjdgcfblilneaaPVC
namespace Go.Proofs.Ytcjdgcfblilneaa
open Go.ChangeShapes Go.WideShapes Go.ChangeAt Go.RowKit
set_option linter.unusedVariables false

/-- The pulses' number, if they are. -/
def pvNum (n : Nat) (X : Nat → Int) : Int := if pvOk n X = true then ((pvI X n n : Nat) : Int) else 0
theorem pvI_le {X : Nat → Int} {n : Nat} (hn : n ≤ 8) (hk : pvK X n n ≤ 24) : ∀ m, m ≤ n → pvI X n m ≤ 33232930569601 := fun m hm => by
  have h1 := pvI_lt X n m
  have h2 := pvK_le X n hm
  have h3 := pvC_bd (n := m) (k := pvK X n m) (by omega) (by omega)
  omega
theorem pvOk_of {n : Nat} {X : Nat → Int} (h : pvOk n X = true) : 1 ≤ n ∧ n ≤ 8 ∧ pvF X n ≤ 24 := by
  simp [pvOk] at h; exact ⟨h.1.1, h.1.2, h.2⟩
/-- The place of a number, told by how far it is. -/
theorem pvP_neg {x : Int} (h : x < 0) : pvP x = 2 * x.natAbs := by rw [pvP, if_neg (by omega)]
theorem pvP_nn {x : Int} (h : 0 ≤ x) : pvP x = 2 * x.natAbs - 1 := by unfold pvP; split <;> omega
set_option maxRecDepth 100000 in
theorem rindex_yes (a : Option Addr) (len cap : Nat) (X : Nat → Int) (hok : pvOk len X = true) (w : World) (h : IsInts w a len cap X) :
    Calls Try.prog 13 #[.slice a len cap] w fun e w' => e = .returned (.tuple #[.int .i64 ((pvI X len len : Nat) : Int), .bool true]) ∧ Below w.heap.size w w' := by
  obtain ⟨h1, h8, h24⟩ := pvOk_of hok
  have hK := pvF_all h24
  have K1 := hid (rsize_any a len cap X (by unfold maxLen; omega) w h)
  rw [pvSz, if_pos hok, hok, ← hK] at K1
  have K2 := hid (rrows_any len h8 w)
  obtain ⟨b, off, rfl, hc⟩ := h.cells (by omega)
  have HC := hid hc
  have HX := hid (fun p (hp : p < len) => pvF_at h24 hp)
  have HB := hid (pvI_le h8 (show pvK X len len ≤ 24 by omega))
  have HK := hid (show pvK X len len ≤ 24 by omega)
  obtain ⟨R, hR⟩ : ∃ R : Int, R = ((pvI X len len : Nat) : Int) := ⟨_, rfl⟩
  rw [← hR]
  have HR := hid hR
  obtain ⟨N, hN⟩ : ∃ N : Nat, N = pvI X len len := ⟨_, rfl⟩
  have HN := hid hN
  clear h hc hok hK h24 hR hN
  go_enter Try.func13, Try.ntmps13
  go_wp2_with (fail)
  refine Calls.mono K1.out ?_
  rintro e w1 ⟨rfl, e1⟩
  rw [e1]
  clear e1 w1 K1
  go_wp2_with (fail)
  refine Calls.mono K2.out ?_
  rintro e w1 ⟨at1, ct1, rfl, hl, hb⟩
  obtain ⟨tb, to, rfl, ht⟩ := hl.table (by omega) (by omega)
  have HT := hid (fun r (hr : r < len + 1) => by
    obtain ⟨ab, ao, ci, q1, q2, q3⟩ := ht r hr
    exact (⟨ab, ao, ci, q1, q2, q3 w1 (Below.refl _ _)⟩ : ∃ ab ao ci, 25 ≤ ci ∧ ci ≤ maxLen ∧ w1.cell? ⟨tb, to + r, none⟩ = some (.slice (some ⟨ab, ao, none⟩) 25 ci) ∧ ∀ j, j < 25 → w1.cell? ⟨ab, ao + j, none⟩ = some (.int .i64 (pvT r j))))
  have HC1 := hid (HC.out w1 hb)
  have HB1 := hid hb
  clear hl hb ht K2 HC
  go_wp2
  go_loop [4, 6, 8] (fun k s i => ∃ p : Nat, p ≤ len ∧ i = .int .i64 p ∧ k = .int .i64 ((pvK X len (len - p) : Nat) : Int) ∧ ∃ T : Nat, s = .int .i64 (T : Int) ∧ Hid (T + pvI X len (len - p) = N)) (fun _ _ i => len - (intOf i).toNat)
  case atStart => exact ⟨0, Nat.zero_le _, rfl, rfl, 0, rfl, by show 0 + pvI X len (len - 0) = N; rw [HN.out, Nat.sub_zero]; omega⟩
  case round =>
    obtain ⟨p, hp, rfl, hk, T, hs, HS⟩ := hrel
    by_cases hlt : p < len
    · obtain ⟨r, hr⟩ : ∃ r, len - p = r + 1 := ⟨len - 1 - p, by omega⟩
      have ep : len - 1 - r = p := by omega
      have x1 : (len : Int) - 1 - (p : Int) = (r : Int) := by omega
      obtain ⟨ab, ao, ci, q1, q2, d1, d2⟩ := HT.out r (by omega)
      have hx := HC1.out p hlt
      obtain ⟨hx1, hx2⟩ := HX.out p hlt
      have KF := hid (rfar_any (X p) w1)
      rw [hx2] at KF
      obtain ⟨k, hkk⟩ : ∃ k, k = pvK X len (r + 1) := ⟨_, rfl⟩
      have hk24 : k ≤ 24 := by
        have h2 := pvK_le X len (show r + 1 ≤ len by omega)
        have := HK.out
        omega
      have hMk : (X p).natAbs ≤ k := by rw [hkk, pvK, ep]; omega
      have HK2 := hid (show k - (X p).natAbs = pvK X len r by rw [hkk, ← ep]; exact pvK_sub X len r)
      have HI := hid (show pvI X len (r + 1) = pvA (pvC r) k (pvP (X p)) + pvI X len r by rw [pvI, ep, ← hkk])
      have HA := hid (fun o (ho : o ≤ 2 * k + 1) => pvA_bd (n := r) (by omega) hk24 ho)
      have HT0 := hid (show T ≤ 33232930569601 by have h1 := HB.out len (Nat.le_refl _); have h2 := HS.out; rw [← HN.out] at h1; omega)
      have HCB := hid (fun q (hq : q ≤ 24) => pvC_bd (n := r) (k := q) (by omega) hq)
      have HD2 := hid d2
      rw [hr] at hk HS
      rw [← hkk] at hk
      clear hkk d2
      generalize X p = x at *
      obtain ⟨M, hM⟩ : ∃ M, M = x.natAbs := ⟨_, rfl⟩
      rw [← hM] at KF hMk HK2 hx1 hx2
      have HM := hid hM
      clear hM
      subst hk hs
      go_wp2_with (go_at_call 20; (with_reducible refine KF.out.mono ?_); rintro e w2 ⟨rfl, rfl⟩)
      go_loop [6, 11] (fun s j => ∃ d : Nat, d ≤ M ∧ j = .int .i64 d ∧ ∃ S : Int, s = .int .i64 S ∧ Hid (S = ((T + pvA (pvC r) k (2 * d - 1) : Nat) : Int))) (fun _ j => M - (intOf j).toNat)
      case atStart => exact ⟨0, Nat.zero_le _, rfl, (T : Int), rfl, rfl⟩
      case round =>
        obtain ⟨d, hd, rfl, S, rfl, HV⟩ := hrel
        obtain ⟨q, hq⟩ : ∃ q, q = k - d := ⟨_, rfl⟩
        have y2 : (k : Int) - (d : Int) = (q : Int) := by omega
        have hS : 0 ≤ S ∧ S ≤ 66465861139202 := by
          have h1 := HA.out (2 * d - 1) (by omega)
          have h2 := HV.out
          have h3 := HT0.out
          omega
        have d3 := HD2.out q (by omega)
        obtain ⟨C, hC⟩ : ∃ C : Int, C = pvT r q := ⟨_, rfl⟩
        have hCb : 0 ≤ C ∧ C ≤ 33232930569601 := by
          have := HCB.out q (by omega)
          rw [hC, pvT]; omega
        rw [← hC] at d3
        by_cases hlt2 : d < M
        · by_cases hd0 : d = 0
          · subst hd0
            obtain rfl : k = q := by omega
            have HV2 := hid (show S + C = ((T + pvA (pvC r) k (2 * (0 + 1) - 1) : Nat) : Int) by rw [pvA_one, HV.out, hC, pvT, Nat.sub_zero]; omega)
            clear hq hC HV
            go_wp2
            exact ⟨⟨0 + 1, by omega, by go_num, _, rfl, HV2⟩, by simp [intOf]; omega⟩
          · have hd1 : 1 ≤ d := by omega
            have HV2 := hid (show S + C + C = ((T + pvA (pvC r) k (2 * (d + 1) - 1) : Nat) : Int) by rw [pvA_two _ _ _ hd1, HV.out, hC, hq, pvT]; omega)
            clear hq hC HV hd0
            go_wp2
            exact ⟨⟨d + 1, by omega, by go_num, _, rfl, HV2⟩, by simp [intOf]; omega⟩
        · obtain rfl : d = M := by omega
          have q3 : q < 25 := by omega
          by_cases hneg : x < 0
          · have HV2 := hid (show S + C = ((T + pvA (pvC r) k (pvP x) : Nat) : Int) by rw [pvP_neg hneg, ← HM.out, pvA_minus _ _ _ (by have := HM.out; omega), HV.out, hC, hq, pvT]; omega)
            rw [← hq] at HK2
            clear hq hC HV
            go_wp2
            exact ⟨⟨p + 1, by omega, by go_num, by rw [show len - (p + 1) = r by omega, ← HK2.out], _, congrArg (Value.int .i64) HV2.out, by show _ + pvI X len (len - (p + 1)) = _; rw [show len - (p + 1) = r by omega]; have h1 := HS.out; have h2 := HI.out; omega⟩, by simp [intOf]; omega⟩
          · have HV2 := hid (show S = ((T + pvA (pvC r) k (pvP x) : Nat) : Int) by rw [pvP_nn (by omega), ← HM.out, HV.out])
            rw [← hq] at HK2
            clear hq hC HV
            go_wp2
            exact ⟨⟨p + 1, by omega, by go_num, by rw [show len - (p + 1) = r by omega, ← HK2.out], _, congrArg (Value.int .i64) HV2.out, by show _ + pvI X len (len - (p + 1)) = _; rw [show len - (p + 1) = r by omega]; have h1 := HS.out; have h2 := HI.out; omega⟩, by simp [intOf]; omega⟩
    · obtain rfl : p = len := by omega
      have hS := HS.out
      rw [Nat.sub_self] at hS
      have hV : (T : Int) = R := by
        rw [HR.out, ← HN.out, ← hS]; rfl
      rw [hV] at hs
      clear hV hS
      subst hk hs
      go_wp2
      go_ret2
      exact ⟨rfl, HB1.out⟩
end Go.Proofs.Ytcjdgcfblilneaa
