/-
  Proved: of 1 to 8 numbers from -2^28 to 2^28 and 0 to 24 pulses, there are as many pulses as are asked for; each number's are off by less than one from its share, on its side of 0; who is farther from 0 has no fewer. Conditions: none beside the row's own.
-/
import Derived.Test.YtabgbchogmbofaaRows
import Derived.Test.YtabgbchogmbofaaSEJ
import Derived.Test.YtabgbchogmbofaaPVS
import Derived.WalkKit
import Derived.ProofKit
import Derived.OpenShut
import Derived.ShutString
import Derived.ChangeOld
import Derived.Below
namespace Go.Proofs.Ytabgbchogmbofaa.searchShares
open Go.ChangeShapes Go.WideShapes Go.ChangeAt Go.RowKit
open Go.ChangeMaps (open_string shut_string)
set_option linter.unusedVariables false

theorem own : ownKnob Try.prog.godebug = none := by kernel_rfl
theorem laidOut : laidOutB Try.prog = true := by kernel_rfl

theorem walkNo (w : World) (a : Option Addr) (len cap : Nat) (X : Nat → Int) (ml : len ≤ maxLen) (hI : IsInts w a len cap X) (k : Int) (wk : 0 ≤ k ∧ k ≤ 255) (hno : seB len X (k % 25) = false) :
    Calls Try.prog 4 #[.slice a len cap, .int .u8 k] w fun e w' => e = .returned (.bool true) ∧ Below w.heap.size w w' := by
  have K1 := hid (rright18_any a len cap X (k % 25) ml w hI)
  have K0 := hid (seawake_any w)
  unfold maxLen at ml
  rw [hno] at K1
  clear hI hno
  go_enter Try.func4, Try.ntmps4
  go_wp2_with (go_at_call 9; (with_reducible refine Calls.mono K1.out ?_); rintro e w1 ⟨rfl, rfl⟩)
  refine Calls.mono K0.out ?_
  rintro e w2 ⟨rfl, b2⟩
  go_wp2
  go_ret
  exact ⟨rfl, b2⟩
set_option maxRecDepth 100000 in
set_option maxHeartbeats 4000000 in
theorem walk (w : World) (a : Option Addr) (len cap : Nat) (X : Nat → Int) (hx : len ≤ maxLen ∧ IsInts w a len cap X) (k : Int) (wk : (Lit.int .u8 k).wf = true) :
    Calls Try.prog 4 #[.slice a len cap, .int .u8 k] w fun e w' => e = .returned (.bool true) ∧ Below w.heap.size w w' := by
  have hk : 0 ≤ k ∧ k ≤ 255 := by simpa [Lit.wf, IntKind.min, IntKind.max, IntKind.signed, IntKind.bits] using wk
  cases hno : seB len X (k % 25) with
  | false => exact walkNo w a len cap X hx.1 hx.2 k hk hno
  | true =>
  obtain ⟨q, hq⟩ : ∃ q : Nat, k % 25 = (q : Int) := ⟨(k % 25).toNat, by omega⟩
  rw [hq] at hno
  obtain ⟨n1, n8, hxb, q0, q24⟩ := seB_iff.1 hno
  have hin : SeIn len X q := ⟨n1, n8, by omega, fun i hi => by have := hxb i hi; omega⟩
  have hL := hin.law
  have HL := hid hL
  have hfar := seF_far (X := X) n1 (show q ≤ 24 by omega)
  have hpk : pvOk len (seF X len q) = true := by simp [pvOk]; omega
  have K0 := seawake_to w
  have K1 := hid (rright18_any a len cap X q hx.1 w hx.2)
  rw [hno] at K1
  have K2 := hid (search_yes a len cap X q hno w hx.2)
  have K3 : Hid (∀ a1 c1 W, IsInts W a1 len c1 (seF X len q) → Calls Try.prog 10 #[.slice a1 len c1] W fun e w' => e = .returned (.tuple #[.int .i64 (q : Int), .bool true]) ∧ w' = W) := fun a1 c1 W h => by
    have := rsize_any a1 len c1 (seF X len q) hx.1 W h
    rwa [pvSz, if_pos hpk, hpk, hfar.2] at this
  obtain ⟨b, off, rfl, hcx⟩ := hx.2.cells (by omega)
  have HC := hid hcx
  have HQ := hid hq
  have HIN := hid hin
  have B0 := hid (Below.refl w.heap.size w)
  have q24' : q ≤ 24 := by omega
  generalize seF X len q = V at *
  clear hno hin hfar hpk hx hcx hq hxb wk hL
  go_enter Try.func4, Try.ntmps4
  go_wp2_with (fail)
  rw [HQ.out]
  refine Calls.mono K1.out ?_
  rintro e w1 ⟨rfl, rfl⟩
  go_wp2_with (fail)
  refine Calls.mono K2.out ?_
  rintro e w2 ⟨a2, c2, rfl, i2, b2, _⟩
  have B2 := hid b2
  obtain ⟨b', off', rfl, hcv⟩ := i2.cells (by omega)
  have K4 := hid (K3.out _ _ _ i2)
  have HV := hid hcv
  have BB := hid (Below.refl w2.heap.size w2)
  clear b2 i2 hcv K2 K3
  go_wp2_with (fail)
  refine Calls.mono K4.out ?_
  rintro e w3 ⟨rfl, rfl⟩
  clear K4
  go_wp2
  clear K1
  go_loopw [10, 11] (fun s i wr => ∃ p : Nat, p ≤ len ∧ i = .int .i64 p ∧ s = .int .i64 ((seSum (seA X) p : Nat) : Int) ∧ Hid (Below w3.heap.size w3 wr)) (fun _ i _ => len - (intOf i).toNat)
  case atStart => exact ⟨0, Nat.zero_le _, rfl, rfl, BB.out⟩
  case round =>
    clear BB
    obtain ⟨p, hp, rfl, hs, HW⟩ := hrel
    obtain ⟨w5, e5⟩ : ∃ w5, w5 = wr := ⟨_, rfl⟩
    subst e5
    by_cases hlt : p < len
    · have hck := HC.out w5 (below_then B2.out HW.out) p hlt
      have hx := HIN.out.x28 p hlt
      have hb := HIN.out.sum p (by omega)
      have KA := hid (fun W => absR_any (X p) W)
      rw [absF_nat (by omega)] at KA
      have HVs := hid (show ((seSum (seA X) p : Nat) : Int) + (((X p).natAbs : Nat) : Int) = ((seSum (seA X) (p + 1) : Nat) : Int) by rw [seSum, seA]; omega)
      have hs2 : seSum (seA X) p ≤ 2147483648 := by omega
      clear hb
      generalize (X p).natAbs = y at *
      generalize X p = x at *
      generalize seSum (seA X) p = s0 at *
      subst hs
      go_wp2_with (go_at_call 11; (with_reducible refine Calls.mono (KA.out _) ?_); rintro e w6 ⟨rfl, rfl⟩)
      exact ⟨⟨p + 1, by omega, by go_num, congrArg (Value.int .i64) HVs.out, HW.out⟩, by simp [intOf]; omega⟩
    · obtain rfl : p = len := by omega
      have hS0 := HL.out.s0
      have hS31 := HL.out.s31
      generalize ((seSum (seA X) p : Nat) : Int) = S at *
      subst hs
      have HW0 := hid HW.out
      clear HIN HW
      go_wp2
      go_loopw [12] (fun i wr => ∃ j : Nat, j ≤ p ∧ i = .int .i64 j ∧ Hid (Below w3.heap.size w3 wr)) (fun i _ => p - (intOf i).toNat)
      case atStart => exact ⟨0, Nat.zero_le _, rfl, HW0.out⟩
      case round =>
        clear HW0
        obtain ⟨i, hi, rfl, HW⟩ := hrel
        obtain ⟨w6, e6⟩ : ∃ w6, w6 = wr := ⟨_, rfl⟩
        subst e6
        by_cases hlt : i < p
        · have hxi := HL.out.x28 i hlt
          have hvi := HL.out.v24 i hlt
          have HMo := hid (HL.out.more i hlt)
          have HOf := hid (fun hs => HL.out.off hs i hlt)
          have HSi := hid (fun hs => HL.out.side hs i hlt)
          have D1 := hid (fun W (hW : Below w6.heap.size w6 W) => HC.out W (below_then B2.out (below_then HW.out hW)) i hlt)
          have D2 := hid (fun W (hW : Below w6.heap.size w6 W) => HV.out W (below_then HW.out hW) i hlt)
          have KA : Hid (∀ z : Int, z.natAbs ≤ 268435456 → ∀ W, Below w6.heap.size w6 W → Calls Try.prog 11 #[.int .i64 z] W fun e w' => e = .returned (.int .i64 ((z.natAbs : Nat) : Int)) ∧ Below w6.heap.size w6 w') := fun z hz W hW =>
            (absR_any z W).mono fun e w' ⟨he, hb⟩ => ⟨by rw [he, absF_nat (by omega)], by rw [hb]; exact hW⟩
          have k1 := hid (KA.out (X i) hxi)
          have k2 := hid (KA.out (V i) (by omega))
          clear KA
          obtain ⟨ax, hax⟩ : ∃ ax : Int, ax = (((X i).natAbs : Nat) : Int) := ⟨_, rfl⟩
          obtain ⟨av, hav⟩ : ∃ av : Int, av = (((V i).natAbs : Nat) : Int) := ⟨_, rfl⟩
          rw [← hax] at k1 HOf
          rw [← hav] at k2 HOf
          have m1 : 0 ≤ av * S ∧ av * S ≤ 51539607552 := by
            have h1 := Int.mul_nonneg (show 0 ≤ av by omega) hS0
            have h2 := Int.mul_le_mul (show av ≤ 24 by omega) hS31 hS0 (by omega)
            omega
          have m2 : 0 ≤ ax * (q : Int) ∧ ax * (q : Int) ≤ 6442450944 := by
            have h1 := Int.mul_nonneg (show 0 ≤ ax by omega) (show 0 ≤ (q : Int) by omega)
            have h2 := Int.mul_le_mul (show ax ≤ 268435456 by omega) (show (q : Int) ≤ 24 by omega) (by omega) (by omega)
            omega
          obtain ⟨P1, hP1⟩ : ∃ P1, P1 = av * S := ⟨_, rfl⟩
          obtain ⟨P2, hP2⟩ : ∃ P2, P2 = ax * (q : Int) := ⟨_, rfl⟩
          have e1 : wrap64 (av * S) = P1 := by rw [hP1]; unfold wrap64; omega
          have e2 : wrap64 (ax * (q : Int)) = P2 := by rw [hP2]; unfold wrap64; omega
          rw [← hP1] at m1 HOf
          rw [← hP2] at m2 HOf
          generalize X i = x at *
          generalize V i = v at *
          have HXV := hid (And.intro hax hav)
          have HXB := hid (And.intro hxi hvi)
          clear hP1 hP2 hax hav hxi hvi
          go_wp2
          refine region_below (by kernel_rfl) (by kernel_rfl) ?_
          repeat (go_big_quiet_step (first
            | (intro hq; rfl)
            | (intro hq; rw [D1.out _ hq]; exact ⟨rfl, rfl⟩)
            | (intro hq; rw [D2.out _ hq]; exact ⟨rfl, rfl⟩)
            | (intro hq; go_at_call 11; (with_reducible exact k1.out _ hq))
            | (intro hq; go_at_call 11; (with_reducible exact k2.out _ hq))))
          refine wpQuiet_nil ?_
          intro w8 hw8
          have c1 := D1.out w8 hw8
          have c2 := D2.out w8 hw8
          have HW8 := hid hw8
          have BB := hid (Below.refl w8.heap.size w8)
          clear hw8 k1 k2 e1 e2
          have hcases : (¬ 0 < S) ∨ (0 < S ∧ P1 - P2 < S ∧ -S < P1 - P2 ∧ ((0 < x ∧ ¬ x < 0 ∧ ¬ v < 0) ∨ (¬ 0 < x ∧ x < 0 ∧ ¬ 0 < v) ∨ (¬ 0 < x ∧ ¬ x < 0))) := by
            by_cases hs : 0 < S
            · right
              have h1 := HOf.out hs
              have h2 := HSi.out hs
              refine ⟨hs, h1.1, h1.2, ?_⟩
              rcases (by omega : 0 < x ∨ x < 0 ∨ x = 0) with h | h | h
              · exact .inl ⟨h, by omega, by have := h2.1 h; omega⟩
              · exact .inr (.inl ⟨by omega, h, by have := h2.2 h; omega⟩)
              · exact .inr (.inr ⟨by omega, by omega⟩)
            · exact .inl hs
          clear HOf HSi
          rcases hcases with CC | ⟨g1, g2, g3, ⟨g4, g5, CC⟩ | ⟨g4, g5, CC⟩ | ⟨g4, CC⟩⟩
          all_goals
            go_wp2
            clear CC
            go_loopw [14] (fun j wr => ∃ m : Nat, m ≤ p ∧ j = .int .i64 m ∧ Hid (Below w8.heap.size w8 wr)) (fun j _ => p - (intOf j).toNat)
            case atStart => exact ⟨0, Nat.zero_le _, rfl, BB.out⟩
            case round =>
              clear BB
              obtain ⟨j, hj, rfl, HW9⟩ := hrel
              obtain ⟨w9, e9⟩ : ∃ w9, w9 = wr := ⟨_, rfl⟩
              subst e9
              by_cases hlt2 : j < p
              · have hxj := HL.out.x28 j hlt2
                have hvj := HL.out.v24 j hlt2
                have hmo := HMo.out j hlt2
                have D3 := hid (fun W (hW : Below w9.heap.size w9 W) => D1.out W (below_then HW8.out (below_then HW9.out hW)))
                have D4 := hid (fun W (hW : Below w9.heap.size w9 W) => D2.out W (below_then HW8.out (below_then HW9.out hW)))
                have D5 := hid (fun W (hW : Below w9.heap.size w9 W) => HC.out W (below_then B2.out (below_then HW.out (below_then HW8.out (below_then HW9.out hW)))) j hlt2)
                have D6 := hid (fun W (hW : Below w9.heap.size w9 W) => HV.out W (below_then HW.out (below_then HW8.out (below_then HW9.out hW))) j hlt2)
                have KA : Hid (∀ z : Int, z.natAbs ≤ 268435456 → ∀ W, Below w9.heap.size w9 W → Calls Try.prog 11 #[.int .i64 z] W fun e w' => e = .returned (.int .i64 ((z.natAbs : Nat) : Int)) ∧ Below w9.heap.size w9 w') := fun z hz W hW =>
                  (absR_any z W).mono fun e w' ⟨he, hb⟩ => ⟨by rw [he, absF_nat (by omega)], by rw [hb]; exact hW⟩
                obtain ⟨hax, hav⟩ := HXV.out
                have k3 := hid (KA.out x (by have := HXB.out; omega))
                have k4 := hid (KA.out v (by have := HXB.out; omega))
                have k5 := hid (KA.out (X j) (by omega))
                have k6 := hid (KA.out (V j) (by omega))
                rw [← hax] at k3
                rw [← hav] at k4
                clear KA
                generalize X j = xj at *
                generalize V j = vj at *
                generalize hxj1 : ((xj.natAbs : Nat) : Int) = axj at *
                generalize hvj1 : ((vj.natAbs : Nat) : Int) = avj at *
                by_cases hle : ax < axj
                · have hv : ¬ avj < av := by have := hmo (by omega); omega
                  clear hmo hxj1 hvj1 hxj hvj hax hav
                  go_wp2
                  refine region_below (by kernel_rfl) (by kernel_rfl) ?_
                  repeat (go_big_quiet_step (first
                    | (intro hq; rfl)
                    | (intro hq; rw [D3.out _ hq]; exact ⟨rfl, rfl⟩)
                    | (intro hq; rw [D4.out _ hq]; exact ⟨rfl, rfl⟩)
                    | (intro hq; rw [D5.out _ hq]; exact ⟨rfl, rfl⟩)
                    | (intro hq; rw [D6.out _ hq]; exact ⟨rfl, rfl⟩)
                    | (intro hq; go_at_call 11; (with_reducible exact k3.out _ hq))
                    | (intro hq; go_at_call 11; (with_reducible exact k4.out _ hq))
                    | (intro hq; go_at_call 11; (with_reducible exact k5.out _ hq))
                    | (intro hq; go_at_call 11; (with_reducible exact k6.out _ hq))))
                  refine wpQuiet_nil ?_
                  intro w10 hw10
                  go_wp2
                  exact ⟨⟨j + 1, by omega, by go_num, below_then HW9.out hw10⟩, by simp [intOf]; omega⟩
                · have hle2 : decide (ax < axj) = false := decide_eq_false hle
                  clear hmo hxj1 hvj1 hxj hvj hax hav
                  go_wp2
                  refine region_below (by kernel_rfl) (by kernel_rfl) ?_
                  repeat (go_big_quiet_step (first
                    | (intro hq; rfl)
                    | (intro hq; rw [D3.out _ hq]; exact ⟨rfl, rfl⟩)
                    | (intro hq; rw [D4.out _ hq]; exact ⟨rfl, rfl⟩)
                    | (intro hq; rw [D5.out _ hq]; exact ⟨rfl, rfl⟩)
                    | (intro hq; rw [D6.out _ hq]; exact ⟨rfl, rfl⟩)
                    | (intro hq; go_at_call 11; (with_reducible exact k3.out _ hq))
                    | (intro hq; go_at_call 11; (with_reducible exact k4.out _ hq))
                    | (intro hq; go_at_call 11; (with_reducible exact k5.out _ hq))
                    | (intro hq; go_at_call 11; (with_reducible exact k6.out _ hq))))
                  refine wpQuiet_nil ?_
                  intro w10 hw10
                  go_wp2
                  exact ⟨⟨j + 1, by omega, by go_num, below_then HW9.out hw10⟩, by simp [intOf]; omega⟩
              · obtain rfl : j = p := by omega
                go_wp2
                exact ⟨⟨i + 1, by omega, by go_num, below_then HW.out (below_then HW8.out HW9.out)⟩, by simp [intOf]; omega⟩
        · obtain rfl : i = p := by omega
          go_wp2_with (fail)
          refine Calls.mono (K0.out _ (below_then B2.out HW.out)) ?_
          rintro e w9 ⟨rfl, b9⟩
          go_wp2
          go_ret
          exact ⟨rfl, b9⟩

set_option maxRecDepth 100000 in
theorem lifted (os : Os) (started : os.Started) (H : Type) (enc : TypeId × Value → H) :
    ReturnsInHanded {} Try.checked os 4 .any (Rows.searchSharesSpec.pre6 enc Try.prog Try.f4 Rows.searchSharesRow.domain false) (Rows.searchSharesSpec.post enc Try.prog Try.f4 false true false false) := by
  refine returnsInHanded_of_change (C := Try.checked) own started (by kernel_rfl) Try.func4
    (ChangeSpec.witness6 (enc := enc) (C := Try.checked) false ⟨#[], #[.slice none 0 0, .int .u8 0], []⟩ 8 (by kernel_rfl) (by kernel_rfl) (by kernel_rfl) (by kernel_rfl)) ?_
  intro W base args ds gs before hval0 hW hcnd _
  have hval : ∀ (j : Nat) t v, Try.f4.params[j]? = some t → args[j]? = some v → Value.okWide Try.prog W .any base t v := hval0
  have hW' := hW
  obtain ⟨p, q, hA0, hV, rfl, hfz, hnd⟩ := hW
  have hA : DataW.TrodAll enc Try.prog W 0 (fun _ => true) true Try.f4.params.toList args.toList ds p := hA0
  rw [Try.params4] at hA hval
  obtain ⟨v0, vs0, d0, ds0, p0, q0, hargs, rfl, rfl, h0, r0⟩ := trodAll_cons hA
  obtain ⟨v1, vs1, d1, ds1, p1, q1, rfl, rfl, rfl, h1, r1⟩ := trodAll_cons r0
  obtain ⟨rfl, rfl, rfl⟩ := trodAll_nil r1
  obtain rfl : args = #[v0, v1] := by cases args; simp_all
  obtain ⟨rfl, rfl⟩ := trodVars_none hV
  obtain ⟨a0, len0, cap0, rfl⟩ := okWide_slice Try.underlying22 (hval 0 22 v0 rfl rfl)
  have k0 := h0
  have lt0 : ∀ x ∈ p0, x.block < W.heap.size := by obtain ⟨m, hm⟩ := k0; exact DataW.trod_lt m _ _ _ hm
  obtain ⟨x0, w0⟩ : ∃ X : Nat → Int, len0 ≤ maxLen ∧ IsInts W a0 len0 cap0 X := by
    obtain ⟨fuel, hf⟩ := h0
    exact open_isints Try.underlying22 Try.underlying3 (by kernel_rfl) hf
  obtain ⟨a1, rfl, rfl, rfl, w1⟩ := open_int Try.underlying5 (hval 1 5 v1 rfl rfl) h1
  clear hA0 hval0
  refine (walk W a0 len0 cap0 x0 w0 a1 w1).mono fun e W' ⟨he, bel⟩ => ?_
  subst he
  exact ⟨_, rfl, _, _, _, [], _, [], hW', trodAll_mk1 (shut_bool Try.underlying4 _), (trodAll_cons_mk (Below.trod laidOut (by kernel_rfl) (of_decide_eq_true (by kernel_rfl)) k0 bel lt0) (trodAll_cons_mk (shut_int Try.underlying5 w1) trodAll_mk0)), rfl, bel.frame _, fun h => by cases h⟩

theorem over : Rows.searchSharesRow.holds Try.pinned (OpenSpec.ofChange Rows.searchSharesSpec) :=
  OpenClaim.holds_of_wide 4 Try.f4 rfl rfl rfl rfl rfl rfl rfl ⟨rfl, rfl, rfl, rfl, rfl⟩ rfl rfl rfl rfl rfl (by kernel_rfl) Try.func4 (by kernel_rfl)
    (of_decide_eq_true (by kernel_rfl)) (by unfold Func.isWrapper; first | (rw [if_pos (by decide +kernel)]; kernel_rfl) | (rw [if_neg (by decide +kernel)]; exact ⟨rfl, rfl⟩))
    (fun os started H enc _ => lifted os started H enc)

/-- The statement. -/
theorem proved : Rows.SearchSharesSaid := over
#print axioms proved
end Go.Proofs.Ytabgbchogmbofaa.searchShares
