/-
  The program's Pulses.
-/
import Derived.Test.YtabgbchogmbofaaSES
namespace Go.Proofs.Ytabgbchogmbofaa
open Go.ChangeShapes Go.WideShapes Go.ChangeAt Go.RowKit
set_option linter.unusedVariables false

theorem seF_sh {X : Nat → Int} {n k i : Nat} (hi : i < n) : seF X n k i = if X i < 0 then -((shN X n k (shL X n k) i : Nat) : Int) else ((shN X n k (shL X n k) i : Nat) : Int) := by
  by_cases hz : seSum (seA X) n = 0
  · have h0 : seA X i = 0 := seSum_zero n hz i hi
    have h1 : ¬ X i < 0 := by unfold seA at h0; omega
    rw [seF, if_pos hz, if_neg h1]
    unfold shN; rw [if_pos hz]
    split <;> rfl
  · rw [seF, if_neg hz]
    unfold shN shL; rw [if_neg hz, if_neg hz]
theorem sh_le {X : Nat → Int} {n k i : Nat} (n1 : 1 ≤ n) (k24 : k ≤ 24) (hi : i < n) : shN X n k (shL X n k) i ≤ 24 := by
  unfold shN shL
  by_cases hz : seSum (seA X) n = 0
  · rw [if_pos hz]; split <;> omega
  · rw [if_neg hz, if_neg hz]
    have := seN_le (X := X) n1 (by omega) k hi; omega
theorem shL_le {X : Nat → Int} {n k : Nat} (n1 : 1 ≤ n) : shL X n k ≤ n := by
  unfold shL
  split
  · exact Nat.zero_le _
  · have := seL_lt (X := X) n1 (by omega) k; omega
set_option maxRecDepth 100000 in
theorem search_no (a : Option Addr) (len cap : Nat) (X : Nat → Int) (k : Int) (ml : len ≤ maxLen) (hno : seB len X k = false) (w : World) (h : IsInts w a len cap X) :
    Calls Try.prog 6 #[.slice a len cap, .int .i64 k] w (VPost 0 (fun _ => 0) false w) := by
  have HE := hid (fun W (hW : Below w.heap.size w W) => show VPost 0 (fun _ => 0) false w (.returned (.tuple #[.slice none 0 0, .bool false])) W from ⟨none, 0, rfl, .inl rfl, hW, fun x hx => by cases hx⟩)
  unfold maxLen at ml
  by_cases h1 : 1 ≤ len ∧ len ≤ 8
  · have K1 := hid (win_one 1 8 (len : Int) true (by simp; omega) w)
    by_cases h2 : 0 ≤ k ∧ k ≤ 24
    · have hall : allIn (-268435456) 268435456 X len = false := by
        cases hb : allIn (-268435456) 268435456 X len with
        | false => rfl
        | true => exfalso; unfold seB at hno; rw [hb] at hno; simp [h1.1, h1.2, h2.1, h2.2] at hno
      have K2 := hid (win_one 0 24 k true (by simp [h2.1, h2.2]))
      have K3 := hid (fun W (hW : Below w.heap.size w W) => swithin_any (-268435456) 268435456 a len cap X (by omega) W (h.below hW))
      rw [hall] at K3
      clear h hno hall h1 h2
      go_enter Try.func6, Try.ntmps6
      go_wp2_with (fail)
      refine Calls.mono K1.out ?_
      rintro e w1 ⟨rfl, b1⟩
      have HB1 := hid b1
      clear b1
      go_wp2_with (fail)
      refine Calls.mono (K2.out _) ?_
      rintro e w2 ⟨rfl, b2⟩
      have HB2 := hid (below_then HB1.out b2)
      clear b2
      go_wp2_with (fail)
      refine Calls.mono (K3.out _ HB2.out) ?_
      rintro e w3 ⟨rfl, b3⟩
      have HB3 := hid (below_then HB2.out b3)
      clear b3
      go_wp2
      go_ret2
      exact HE.out _ HB3.out
    · have K2 := hid (win_one 0 24 k false (by simp; omega))
      clear h hno h1 h2
      go_enter Try.func6, Try.ntmps6
      go_wp2_with (fail)
      refine Calls.mono K1.out ?_
      rintro e w1 ⟨rfl, b1⟩
      have HB1 := hid b1
      clear b1
      go_wp2_with (fail)
      refine Calls.mono (K2.out _) ?_
      rintro e w2 ⟨rfl, b2⟩
      have HB2 := hid (below_then HB1.out b2)
      clear b2
      go_wp2
      go_ret2
      exact HE.out _ HB2.out
  · have K1 := hid (win_one 1 8 (len : Int) false (by simp; omega) w)
    clear h hno h1
    go_enter Try.func6, Try.ntmps6
    go_wp2_with (fail)
    refine Calls.mono K1.out ?_
    rintro e w1 ⟨rfl, b1⟩
    have HB1 := hid b1
    clear b1
    go_wp2
    go_ret2
    exact HE.out _ HB1.out
set_option maxRecDepth 100000 in
set_option maxHeartbeats 2000000 in
theorem search_yes (a : Option Addr) (len cap : Nat) (X : Nat → Int) (k : Nat) (hok : seB len X (k : Int) = true) (w : World) (h : IsInts w a len cap X) :
    Calls Try.prog 6 #[.slice a len cap, .int .i64 (k : Int)] w (VPost len (seF X len k) true w) := by
  obtain ⟨h1, h2, h3, h4, h5⟩ := seB_iff.1 hok
  have hin : SeIn len X k := ⟨h1, h2, by omega, fun i hi => by have := h3 i hi; omega⟩
  have hall : allIn (-268435456) 268435456 X len = true := by
    cases hb : allIn (-268435456) 268435456 X len with
    | true => rfl
    | false => unfold seB at hok; rw [hb] at hok; simp at hok
  have n1 := hin.n1
  have n8 := hin.n8
  have k24 := hin.k24
  have K1 := hid (win_one 1 8 (len : Int) true (by simp; omega) w)
  have K2 := hid (win_one 0 24 (k : Int) true (by simp; omega))
  have K3 := hid (fun W (hW : Below w.heap.size w W) => swithin_any (-268435456) 268435456 a len cap X (by omega) W (h.below hW))
  rw [hall] at K3
  have K4 := hid (fun W (hW : Below w.heap.size w W) => shares_any a len cap X k hin W (h.below hW))
  have KF := hid (fun q W (hq : IsInts W (some ⟨q, 0, none⟩) len len (natI (seR X len k))) => falling_any _ len len (seR X len k) n1 n8 W hq)
  have hL := shL_le (X := X) (k := k) n1
  obtain ⟨b, off, rfl, hc⟩ := h.cells (by omega)
  have HC := hid hc
  clear h hc hok hin hall h1 h2 h3 h4 h5
  go_enter Try.func6, Try.ntmps6
  go_wp2_with (fail)
  refine Calls.mono K1.out ?_
  rintro e w1 ⟨rfl, b1⟩
  have HB1 := hid b1
  clear b1
  go_wp2_with (fail)
  refine Calls.mono (K2.out _) ?_
  rintro e w2 ⟨rfl, b2⟩
  have HB2 := hid (below_then HB1.out b2)
  clear b2
  go_wp2_with (fail)
  refine Calls.mono (K3.out _ HB2.out) ?_
  rintro e w3 ⟨rfl, b3⟩
  have HB3 := hid (below_then HB2.out b3)
  clear b3
  go_wp2_with (fail)
  refine Calls.mono (K4.out _ HB3.out) ?_
  rintro e w4 ⟨r, q, rfl, hR⟩
  have HR := hid hR
  clear hR
  go_wp2_with (fail)
  refine Calls.mono (KF.out q w4 (HR.out.snd.ints (by unfold maxLen; omega))) ?_
  rintro e w5 ⟨o, O, rfl, hO, hrow⟩
  have HO := hid hO
  have HR5 := hid (show Rows2 len r o (natI (shN X len k 0)) (natI O) w w5 from by
    have e1 := HR.out.fst.lt
    have e2 := hrow.r0
    have e3 := HR.out.bel.size
    have e4 := HB3.out.size
    have e5 := HR.out.r0
    exact ⟨HR.out.fst.below hrow.bel, hrow.row, by omega, by omega, by omega, below_then HB3.out (below_then HR.out.bel hrow.bel)⟩)
  clear hO hrow HR HB1 HB2 HB3 K1 K2 K3 K4 KF
  generalize hLg : shL X len k = L at *
  have HLg := hid hLg
  clear hLg
  go_wp2
  go_loopw [41] (fun i wr => ∃ t : Nat, t ≤ L ∧ i = .int .i64 (t : Int) ∧ Hid (Rows2 len r o (natI (shN X len k t)) (natI O) w wr)) (fun i _ => L - (intOf i).toNat)
  case atStart => exact ⟨0, Nat.zero_le _, rfl, HR5.out⟩
  case round =>
    clear HR5
    obtain ⟨t, ht, rfl, HR⟩ := hrel
    obtain ⟨w8, e8⟩ : ∃ w8, w8 = wr := ⟨_, rfl⟩
    subst e8
    by_cases hlt : t < L
    · have hz : ¬ seSum (seA X) len = 0 := fun hz => by
        have h1 := HLg.out; unfold shL at h1; rw [if_pos hz] at h1; omega
      have hb : O t < len := HO.out.lt t (by omega)
      have hrk := HO.out.rank t (by omega)
      have es : ∀ t i, shN X len k t i = seN X len k t i := fun t i => if_neg hz
      have HN := hid (fun (W : World) (h : Rows2 len r o (natI (shN X len k t)) (natI O) w W) =>
        show Rows2 len r o (natI (shN X len k (t + 1))) (natI O) w (W.setCell ⟨r, O t, none⟩ (.int .i64 (((shN X len k t (O t) : Nat) : Int) + 1))) from
          (h.setL hb (((shN X len k t (O t) : Nat) : Int) + 1)).congr (fun i hi => by
            have e1 := seN_next hb hrk i hi
            unfold upd at e1 ⊢
            unfold natI
            simp only [es]
            exact e1) (fun i _ => rfl))
      have c2 : w8.cell? ⟨o, t, none⟩ = some (.int .i64 ((O t : Nat) : Int)) := HR.out.cellR (by omega)
      have c1 : w8.cell? ⟨r, O t, none⟩ = some (.int .i64 ((shN X len k t (O t) : Nat) : Int)) := HR.out.cellL hb
      have f1 := HR.out.froL (O t)
      have hN24 : shN X len k t (O t) ≤ 25 := by
        rw [es]
        have h1 := (seSum_all (X := X) (n := len) (by omega) k).1
        have h2 := seSum_at (seQ X len k) len (O t) hb
        unfold seN; split <;> omega
      clear hrk es hz
      generalize hv1 : ((shN X len k t (O t) : Nat) : Int) = v1 at *
      generalize O t = bt at *
      have hb1 : 0 ≤ v1 ∧ v1 ≤ 25 := by omega
      clear hv1 hN24
      go_wp2
      exact ⟨⟨t + 1, by omega, by go_num, HN.out _ HR.out⟩, by simp [intOf]; omega⟩
    · obtain rfl : t = L := by omega
      have HZ0 := hid (show Rows2 len r o (fun i => if i < 0 then seF X len k i else ((shN X len k t i : Nat) : Int)) (natI O) w w8 from
        HR.out.congr (fun i _ => by rw [if_neg (by omega)]; rfl) (fun i _ => rfl))
      clear HR
      go_wp2
      go_loopw [54] (fun i wr => ∃ j : Nat, j ≤ len ∧ i = .int .i64 j ∧ Hid (Rows2 len r o (fun i => if i < j then seF X len k i else ((shN X len k t i : Nat) : Int)) (natI O) w wr)) (fun i _ => len - (intOf i).toNat)
      case atStart => exact ⟨0, Nat.zero_le _, rfl, HZ0.out⟩
      case round =>
        clear HZ0
        obtain ⟨j, hj, rfl, HZ⟩ := hrel
        obtain ⟨w9, e9⟩ : ∃ w9, w9 = wr := ⟨_, rfl⟩
        subst e9
        by_cases hlt2 : j < len
        · have hck := HC.out w9 HZ.out.bel j hlt2
          have c1 := HZ.out.cellL hlt2
          rw [if_neg (Nat.lt_irrefl j)] at c1
          have f1 := HZ.out.froL j
          have hFj : seF X len k j = if X j < 0 then -((shN X len k t j : Nat) : Int) else ((shN X len k t j : Nat) : Int) := by
            rw [seF_sh hlt2, HLg.out]
          have hN24 : shN X len k t j ≤ 24 := by
            have := sh_le (X := X) n1 k24 hlt2; rw [HLg.out] at this; exact this
          by_cases hneg : X j < 0
          · rw [if_pos hneg] at hFj
            have HN := hid (show Rows2 len r o (fun i => if i < j + 1 then seF X len k i else ((shN X len k t i : Nat) : Int)) (natI O) w (w9.setCell ⟨r, j, none⟩ (.int .i64 (-((shN X len k t j : Nat) : Int)))) from
              (HZ.out.setL hlt2 (-((shN X len k t j : Nat) : Int))).congr (fun i hi => by
                unfold upd
                by_cases e : i = j
                · subst e; rw [if_pos rfl, if_pos (by omega), hFj]
                · rw [if_neg e]
                  show (if i < j then seF X len k i else ((shN X len k t i : Nat) : Int)) = _
                  by_cases h2 : i < j
                  · rw [if_pos h2, if_pos (by omega)]
                  · rw [if_neg h2, if_neg (by omega)]) (fun i _ => rfl))
            clear HZ hFj
            generalize hv1 : ((shN X len k t j : Nat) : Int) = v1 at *
            have hb1 : 0 ≤ v1 ∧ v1 ≤ 24 := by omega
            generalize X j = x at *
            clear hv1 hN24
            go_wp2
            exact ⟨⟨j + 1, by omega, by go_num, HN⟩, by simp [intOf]; omega⟩
          · rw [if_neg hneg] at hFj
            have HN := hid (show Rows2 len r o (fun i => if i < j + 1 then seF X len k i else ((shN X len k t i : Nat) : Int)) (natI O) w w9 from
              HZ.out.congr (fun i hi => by
                by_cases e : i = j
                · subst e; rw [if_neg (Nat.lt_irrefl i), if_pos (by omega), hFj]
                · by_cases h2 : i < j
                  · rw [if_pos h2, if_pos (by omega)]
                  · rw [if_neg h2, if_neg (by omega)]) (fun i _ => rfl))
            clear HZ hFj c1 f1 hN24
            generalize X j = x at *
            go_wp2
            exact ⟨⟨j + 1, by omega, by go_num, HN⟩, by simp [intOf]; omega⟩
        · obtain rfl : j = len := by omega
          have HE := hid ((HZ.out.congr (Y' := seF X j k) (fun i hi => if_pos hi) (fun i _ => rfl)).post (by omega) true)
          clear HZ
          go_wp2
          go_ret2
          exact HE.out
end Go.Proofs.Ytabgbchogmbofaa
