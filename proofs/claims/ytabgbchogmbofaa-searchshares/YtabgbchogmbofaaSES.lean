/-
  The program's shares, Pulses.
-/
import Derived.Test.YtabgbchogmbofaaSEH
import Derived.Test.YtabgbchogmbofaaSEB
import Derived.Deep.RegionWith
import Derived.Deep.CutRange
import Derived.OwnWalk
namespace Go.Proofs.Ytabgbchogmbofaa
open Go.ChangeShapes Go.WideShapes Go.ChangeAt Go.RowKit
set_option linter.unusedVariables false

/-- How many each has, when t of those left are told; of nothing the first has all. -/
def shN (X : Nat → Int) (n k t i : Nat) : Nat := if seSum (seA X) n = 0 then (if i = 0 then k else 0) else seN X n k t i
def shL (X : Nat → Int) (n k : Nat) : Nat := if seSum (seA X) n = 0 then 0 else seL X n k
theorem Rows2.back {n r q : Nat} {Y Z : Nat → Int} {w0 w : World} (h : Rows2 n r q Y Z w0 w) : Rows2 n q r Z Y w0 w := ⟨h.snd, h.fst, fun e => h.ne e.symm, h.q0, h.r0, h.bel⟩
/-- What shares answers. -/
def ShPost (n : Nat) (X : Nat → Int) (k : Nat) (w : World) (e : Ending) (w' : World) : Prop :=
  ∃ r q, e = .returned (.tuple #[.slice (some ⟨r, 0, none⟩) n n, .slice (some ⟨q, 0, none⟩) n n, .int .i64 ((shL X n k : Nat) : Int)]) ∧ Rows2 n r q (natI (shN X n k 0)) (natI (seR X n k)) w w'
set_option maxRecDepth 100000 in
set_option maxHeartbeats 2000000 in
theorem shares_any (a : Option Addr) (len cap : Nat) (X : Nat → Int) (k : Nat) (hin : SeIn len X k) (w : World) (h : IsInts w a len cap X) :
    Calls Try.prog 13 #[.slice a len cap, .int .i64 (k : Int)] w (ShPost len X k w) := by
  have n1 := hin.n1
  have n8 := hin.n8
  have k24 := hin.k24
  have K1 : Hid (∀ W, Below w.heap.size w W → Calls Try.prog 20 #[.slice a len cap] W fun e w' => e = .returned (.int .i64 ((seSum (seA X) len : Nat) : Int)) ∧ Below W.heap.size W w') := fun W hW => far_any a len cap X k hin W (h.below hW)
  obtain ⟨b, off, rfl, hc⟩ := h.cells (by omega)
  have HC := hid hc
  have HIN := hid hin
  have hmk := make_ints (n := len) (by omega)
  have HS := hid (Rows2.start (n := len) (Below.refl w.heap.size w))
  clear h hc hin
  go_enter Try.func13, Try.ntmps13
  go_upto_region 1 with fail
  go_cut [4, 5] from 10 (fun s4 s5 wc => ∃ r q, s4 = .slice (some ⟨r, 0, none⟩) len len ∧ s5 = .slice (some ⟨q, 0, none⟩) len len ∧ Hid (Rows2 len r q (fun _ => 0) (fun _ => 0) w wc))
  case first =>
    go_region
    all_goals go_wp2_with fail
    all_goals go_meet
    all_goals first
      | exact ⟨_, _, rfl, rfl, HS.out⟩
      | exact ⟨_, _, rfl, rfl, HS.out.drew⟩
      | exact ⟨_, _, rfl, rfl, HS.out.back⟩
      | exact ⟨_, _, rfl, rfl, HS.out.back.drew⟩
  case rest =>
    obtain ⟨r, q, rfl, rfl, HR⟩ := hcut
    clear HS hmk
    go_wp2_with (fail)
    refine Calls.mono (K1.out _ HR.out.bel) ?_
    rintro e w2 ⟨rfl, b2⟩
    have HR2 := hid (HR.out.to b2)
    clear b2 HR K1
    by_cases hz : seSum (seA X) len = 0
    · have c1 := HR2.out.cellL (j := 0) (by omega)
      have f1 := HR2.out.froL 0
      have hp0 : (0 : Int) < (len : Int) := by omega
      have e2 : shL X len k = 0 := if_pos hz
      have HE := hid (show Rows2 len r q (natI (shN X len k 0)) (natI (seR X len k)) w (w2.setCell ⟨r, 0, none⟩ (.int .i64 (k : Int))) from
        (HR2.out.setL (j := 0) (by omega) (k : Int)).congr (fun i hi => by
          unfold upd natI shN
          rw [if_pos hz]
          by_cases e : i = 0
          · rw [if_pos e, if_pos e]
          · rw [if_neg e, if_neg e]; rfl) (fun i hi => by
          have h0 : seA X i = 0 := seSum_zero len hz i hi
          unfold natI seR
          rw [h0, Nat.zero_mul, Nat.zero_mod]; rfl))
      have hE2 := hid e2
      rw [hz]
      clear hz HR2 e2 HIN HC
      go_wp2
      go_ret3
      exact ⟨r, q, by rw [hE2.out]; rfl, HE.out⟩
    · obtain ⟨S, hSe⟩ : ∃ S, S = seSum (seA X) len := ⟨_, rfl⟩
      have hS := HIN.out.sum len (Nat.le_refl _)
      rw [← hSe] at hS ⊢
      have hS0 : (((S : Nat) : Int) == 0) = false := by simp; omega
      have hS1 : 1 ≤ S := by omega
      have HSE := hid hSe
      have HR0 : Hid (Rows2 len r q (tilF 0 (natI (seQ X len k))) (tilF 0 (natI (seR X len k))) w w2) :=
        HR2.out.congr (fun i _ => by simp [tilF]) (fun i _ => by simp [tilF])
      have HK0 := hid (show (k : Int) = ((k - seSum (seQ X len k) 0 : Nat) : Int) from rfl)
      clear hz hSe HR2
      go_wp2
      obtain ⟨n, hn⟩ : ∃ n, n = len := ⟨_, rfl⟩
      subst hn
      go_loopw [6, 28] (fun l i wr => ∃ p : Nat, p ≤ n ∧ i = .int .i64 p ∧ l = .int .i64 ((k - seSum (seQ X n k) p : Nat) : Int) ∧ Hid (Rows2 n r q (tilF p (natI (seQ X n k))) (tilF p (natI (seR X n k))) w wr)) (fun _ i _ => n - (intOf i).toNat)
      case atStart => exact ⟨0, Nat.zero_le _, rfl, congrArg (Value.int .i64) HK0.out, HR0.out⟩
      case round =>
        clear HR0 HK0
        obtain ⟨p, hp, rfl, hl, HR⟩ := hrel
        obtain ⟨w7, e7⟩ : ∃ w7, w7 = wr := ⟨_, rfl⟩
        subst e7
        by_cases hlt : p < n
        · have hck := HC.out w7 HR.out.bel p hlt
          have hx := HIN.out.x28 p hlt
          have KA := hid (fun W => abs_any (X p) W)
          rw [absF_nat (by omega)] at KA
          have hyk : (X p).natAbs * k ≤ 6442450944 := by
            have := Nat.mul_le_mul hx k24; omega
          have hw : wrap64 ((((X p).natAbs : Nat) : Int) * (k : Int)) = (((X p).natAbs * k : Nat) : Int) := by
            rw [← Int.natCast_mul]; unfold wrap64; omega
          have hSz : S = seSum (seA X) n := HSE.out
          have hq2 : (((X p).natAbs * k : Nat) : Int) / (S : Int) = ((seQ X n k p : Nat) : Int) := by rw [seQ, ← hSz, seA, Int.natCast_ediv]
          have hr2 : (((X p).natAbs * k : Nat) : Int) % (S : Int) = ((seR X n k p : Nat) : Int) := by rw [seR, ← hSz, seA, Int.natCast_emod]
          have KM := hid (fun W => mod_any (((X p).natAbs * k : Nat) : Int) (S : Int) ⟨by omega, by omega⟩ (by omega) W)
          rw [modQ_of (by omega), modR_of (by omega), hq2, hr2] at KM
          have hsum := (seSum_all (X := X) (n := n) (by omega) k).1
          have hsp : seSum (seQ X n k) p + seQ X n k p ≤ k := by
            have h1 : seSum (seQ X n k) (p + 1) ≤ seSum (seQ X n k) n := by
              have hh : ∀ d, seSum (seQ X n k) (p + 1) ≤ seSum (seQ X n k) (p + 1 + d) := fun d => by
                induction d with
                | zero => exact Nat.le_refl _
                | succ d ih => exact Nat.le_trans ih (Nat.le_add_right _ _)
              have := hh (n - (p + 1)); rwa [show p + 1 + (n - (p + 1)) = n by omega] at this
            rw [seSum] at h1; omega
          have HV := hid (show ((k - seSum (seQ X n k) p : Nat) : Int) - ((seQ X n k p : Nat) : Int) = ((k - seSum (seQ X n k) (p + 1) : Nat) : Int) by rw [seSum]; omega)
          have hl0 : k - seSum (seQ X n k) p ≤ 24 := by omega
          have hq0 : seQ X n k p ≤ 24 := by omega
          have HN := hid (fun (W : World) (h : Rows2 n r q (tilF p (natI (seQ X n k))) (tilF p (natI (seR X n k))) w W) =>
            show Rows2 n r q (tilF (p + 1) (natI (seQ X n k))) (tilF (p + 1) (natI (seR X n k))) w ((W.setCell ⟨r, p, none⟩ (.int .i64 ((seQ X n k p : Nat) : Int))).setCell ⟨q, p, none⟩ (.int .i64 ((seR X n k p : Nat) : Int))) by
              have h2 := (h.setL hlt (natI (seQ X n k) p)).setR hlt (natI (seR X n k) p)
              rwa [til_set p (natI (seQ X n k)), til_set p (natI (seR X n k))] at h2)
          have HG := hid (fun (W : World) (h : Rows2 n r q (tilF p (natI (seQ X n k))) (tilF p (natI (seR X n k))) w W) =>
            show ((W.setCell ⟨r, p, none⟩ (.int .i64 ((seQ X n k p : Nat) : Int))).setCell ⟨q, p, none⟩ (.int .i64 ((seR X n k p : Nat) : Int))).cell? ⟨r, p, none⟩ = some (.int .i64 ((seQ X n k p : Nat) : Int)) by
              have h2 := ((h.setL hlt (natI (seQ X n k) p)).setR hlt (natI (seR X n k) p)).cellL hlt
              unfold upd at h2; rw [if_pos rfl] at h2; exact h2)
          clear hx hyk hSz hq2 hr2 hsum hsp
          generalize hPg : (((X p).natAbs * k : Nat) : Int) = P at *
          generalize (X p).natAbs = y at *
          generalize hxg : X p = x at *
          generalize hQg : ((seQ X n k p : Nat) : Int) = Q at *
          generalize hRg : ((seR X n k p : Nat) : Int) = R at *
          generalize hLg : ((k - seSum (seQ X n k) p : Nat) : Int) = l0 at *
          have b1 : 0 ≤ l0 ∧ l0 ≤ 24 := by omega
          have b2 : 0 ≤ Q ∧ Q ≤ 24 := by omega
          clear hl0 hq0 hPg hxg hQg hRg hLg
          subst hl
          go_wp2_with (first
            | (go_at_call 22; (with_reducible refine Calls.mono (KA.out _) ?_); rintro e w8 ⟨rfl, b8⟩; have HR8 := hid (HR.out.to b8); clear b8)
            | fail)
          refine Calls.mono (KM.out _) ?_
          rintro e w9 ⟨rfl, b9⟩
          have HR9 := hid (HR8.out.to b9)
          have c1 := HR9.out.cellL hlt
          have f1 := HR9.out.froL p
          have c2 := (HR9.out.setL hlt Q).cellR hlt
          have f2 := (HR9.out.setL hlt Q).froR p
          have c3 := HG.out _ HR9.out
          clear b9 HR HR8 hck
          go_wp2
          exact ⟨⟨p + 1, by omega, by go_num, congrArg (Value.int .i64) HV.out, HN.out _ HR9.out⟩, by simp [intOf]; omega⟩
        · obtain rfl : p = n := by omega
          have hSn : ¬ seSum (seA X) p = 0 := by have := HSE.out; omega
          have hl2 : k - seSum (seQ X p k) p = shL X p k := (if_neg hSn).symm
          have HE := hid (show Rows2 p r q (natI (shN X p k 0)) (natI (seR X p k)) w w7 from
            HR.out.congr (fun i hi => by rw [til_all _ _ i hi]; unfold natI shN; rw [if_neg hSn, seN_zero]) (fun i hi => til_all _ _ i hi))
          rw [hl2] at hl
          clear HR hSn hl2 HSE
          subst hl
          go_wp2
          go_ret3
          exact ⟨r, q, rfl, HE.out⟩
end Go.Proofs.Ytabgbchogmbofaa
