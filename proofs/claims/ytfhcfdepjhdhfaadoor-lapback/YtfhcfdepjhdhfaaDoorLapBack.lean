/-
  Proved: for 2 to 5 frames of samples (of 16 bits), long or short, what was taken frame by frame comes back, each sample off by 24 at most, but for the first 8 (other lists: the law answers by the chapter's example alone). Conditions: none beside the row's own (the slope's eight numbers and the library's tables of bits read as their texts lay them; the card ties it to the pruned copy).
-/
import Derived.Test.YtfhcfdepjhdhfaaDoorCards
import Derived.Test.YtfhcfdepjhdhfaaDoorTie
import Derived.Test.YtfhcfdepjhdhfaaDoorYV
import Derived.Test.YtfhcfdepjhdhfaaDoorYU
import Derived.Test.YtfhcfdepjhdhfaaDoorYX
import Derived.Test.YtfhcfdepjhdhfaaDoorZC
import Derived.Test.YtfhcfdepjhdhfaaDoorZL
import Derived.WalkKit
import Derived.ProofKit
import Derived.OpenShut
import Derived.ShutString
import Derived.ChangeOld
import Derived.Below
import Derived.Lay
import Derived.LaidOnce
import Derived.SevenTiedAt
namespace Go.Proofs.YtfhcfdepjhdhfaaDoor.lapBack
open Go.ChangeShapes Go.WideShapes Go.ChangeAt Go.RowKit
open Go.ChangeMaps (open_string shut_string)
set_option linter.unusedVariables false

theorem own : ownKnob Tryd.prog.godebug = none := by kernel_rfl
theorem laidOut : laidOutB Tryd.prog = true := by kernel_rfl

theorem walkBig (w : World) (hs : STab w) (a a1 : Option Addr) (len cap len1 cap1 : Nat) (ml : len ≤ maxLen) (ml1 : len1 ≤ maxLen) (h : len < 136 ∨ 392 ≤ len) :
    Calls Tryd.prog 5 #[.slice a len cap, .slice a1 len1 cap1] w fun e w' => e = .returned (.bool true) ∧ Below w.heap.size w w' := by
  unfold maxLen at ml ml1
  have k0 := lawake_to hs
  have b0 := Below.refl w.heap.size w
  clear hs
  by_cases h1 : len < 136
  · have hi : decide ((len : Int) < 136) = true := decide_eq_true (by omega)
    clear h
    go_enter Tryd.func5, Tryd.ntmps5
    go_wp2_with (go_at_call 7; refine (k0.out _ b0).mono ?_; rintro e w1 ⟨rfl, b1⟩)
    go_ret
    exact ⟨rfl, b1⟩
  · have hi : decide ((len : Int) < 136) = false := decide_eq_false (by omega)
    obtain ⟨q, hq⟩ : ∃ q : Nat, ((len : Int) - 8) / 64 = (q : Int) := ⟨(len - 8) / 64, by omega⟩
    have hq1 : ((len : Int) - 8).tdiv 64 = (q : Int) := by rw [Int.tdiv_eq_ediv_of_nonneg (by omega)]; exact hq
    have hq2 : 5 < q := by omega
    have hq3 : decide ((q : Int) > 5) = true := decide_eq_true (by omega)
    clear h
    go_enter Tryd.func5, Tryd.ntmps5
    go_wp2_with (go_at_call 7; refine (k0.out _ b0).mono ?_; rintro e w1 ⟨rfl, b1⟩)
    go_ret
    exact ⟨rfl, b1⟩
/-- The samples of a frame, and the 8 behind them. -/
def SF (X : Nat → Int) (f i : Nat) : Int := X (64 * f + i)
set_option maxRecDepth 100000 in
set_option maxHeartbeats 2000000 in
theorem walkMain (w : World) (hd : DTab w) (hs : STab w) (a a1 : Option Addr) (len cap len1 cap1 n : Nat) (ml1 : len1 ≤ maxLen) (hlen : 136 ≤ len) (hlen2 : len < 392) (hn : n = (len - 8) / 64) (X : Nat → Int) (hX : ∀ i, i < len → -32768 ≤ X i ∧ X i ≤ 32767)
    (h : IsVals w a len cap fun i => .int .i16 (X i)) (X1 : Nat → Bool) (h1 : IsVals w a1 len1 cap1 fun i => .bool (X1 i)) :
    Calls Tryd.prog 5 #[.slice a len cap, .slice a1 len1 cap1] w fun e w' => e = .returned (.bool true) ∧ Below w.heap.size w w' := by
  unfold maxLen at ml1
  obtain ⟨i0, hi, hz0, hz1, hz2⟩ := infoI
  have HI : Hid (Tryd.prog.info? 3 = some i0) := hi
  have k0 := lawake_to hs
  obtain ⟨sb, so, rfl, hc⟩ := h.cells (by omega)
  have HC := hid hc
  have H1 := hid h1
  have HX := hid hX
  have HD := hid hd
  have HS := hid hs
  have hi1 : decide ((len : Int) < 136) = false := decide_eq_false (by omega)
  have hq : ((len : Int) - 8) / 64 = (n : Int) := by omega
  have hq1 : ((len : Int) - 8).tdiv 64 = (n : Int) := by rw [Int.tdiv_eq_ediv_of_nonneg (by omega)]; exact hq
  have hq3 : decide ((n : Int) > 5) = false := decide_eq_false (by omega)
  have HN := hid (show 2 ≤ n ∧ n ≤ 5 ∧ 64 * n + 8 ≤ len by omega)
  obtain ⟨B, hB⟩ : ∃ B, B = w.heap.size := ⟨_, rfl⟩
  have HB := hid hB
  rw [← hB] at HC
  clear h h1 hc hX hd hs hi hn hB
  go_enter Tryd.func5, Tryd.ntmps5
  go_wp2
  clear hq hq1 hq3 hi1
  go_loopw [6, 7] (fun o i wr => ∃ k : Nat, k ≤ len ∧ i = .int .i64 k ∧ Hid (wr.ownsRow B 3 1 o k (intL k X)) ∧ Hid (Below B w wr) ∧ Hid (B ≤ wr.heap.size)) (fun _ i _ => len - (intOf i).toNat)
  case atStart => exact ⟨0, by omega, rfl, World.ownsRow_nil _ _ _ _, by rw [HB.out]; exact Below.refl _ _, by rw [HB.out]; exact Nat.le_refl _⟩
  case round =>
    obtain ⟨k, hk, rfl, HO, HW, HZ⟩ := hrel
    by_cases hlt : k < len
    · have hck := HC.out _ HW.out k hlt
      have hbx := HX.out k hlt
      obtain ⟨c, hc⟩ : ∃ c, c = X k := ⟨_, rfl⟩
      rw [← hc] at hck hbx
      have HCC := hid hc
      have hwr : IntKind.i64.wrap c = c := by
        simp [IntKind.wrap, IntKind.signed, IntKind.bits]
        omega
      have hwr2 : wrap64 c = c := wr_in (by omega) (by omega)
      clear hc hbx
      have HA : Hid ((wr.alloc (.cells #[.int .i64 c] 3)).ownsRow B 3 1 u6 k (intL k X)) := HO.out.alloc _
      have HZ2 : Hid (B ≤ (wr.alloc (.cells #[.int .i64 c] 3)).heap.size) := Nat.le_trans HZ.out (by simp)
      go_wp2_with (at_builtin; refine wpList_append_lies _ rfl _ _ _ rfl B 3 i0 (.int .i64 0) 1 8 Tryd.underlying23 HI.out hz0 hz1 hz2 rfl (by omega) _ _ _ rfl HA.out ⟨wr.heap.size, 0, none⟩ 1 1 [.int .i64 c] rfl rfl (World.news_of_block (cs := #[.int .i64 c]) (heap_alloc_new wr _)) (by intro u hu; simp at hu; subst hu; rfl) (by omega) (by unfold maxLen; omega) (by omega) HZ2.out _ rfl ?_)
      intro gg cap1 w4 hown hgr _ _
      obtain ⟨o1, o2, o3⟩ := oi_step HO.out HW.out HZ.out HCC.out hown hgr
      have O1 := hid o1
      have O2 := hid o2
      have O3 := hid o3
      clear hown hgr o1 o2 o3 HA HZ2
      go_wp2
      exact ⟨⟨k + 1, by omega, by go_num, O1, O2, O3⟩, by simp [intOf]; omega⟩
    · obtain rfl : k = len := by omega
      obtain ⟨al, cl, rfl, il⟩ := own_ints HO.out
      obtain ⟨bl, ol, rfl, hbl, hcl1, hcl2, hcl⟩ : ∃ b off, al = some ⟨b, off, none⟩ ∧ b < wr.heap.size ∧ k ≤ cl ∧ cl ≤ maxLen ∧ ∀ i, i < k → wr.cell? ⟨b, off + i, none⟩ = some (.int .i64 (X i)) := by
        rcases il with h | h
        · omega
        · exact h
      have HL := hid (And.intro hbl hcl)
      have HWB := HW.out
      rw [HB.out] at HWB
      have HW0 := hid HWB
      clear HWB hbl hcl il HO HZ HC
      go_wp2_with (go_at_call 8; refine (make_any _).mono ?_; rintro e w1 ⟨rfl, ht, b1⟩
                   have HT1 := hid ht
                   have HB1 := hid b1
                   have HN1 := hid (arr_new0 w1)
                   clear ht b1)
      obtain ⟨t, ht⟩ : ∃ t, t = wr.heap.size := ⟨_, rfl⟩
      obtain ⟨p, hp⟩ : ∃ p, p = w1.heap.size := ⟨_, rfl⟩
      rw [← ht, ← hp]
      have HB2 := hid (((Below.refl _ w1).alloc (Nat.le_refl _) (.cells #[Value.int .i64 0, Value.int .i64 0, Value.int .i64 0, Value.int .i64 0, Value.int .i64 0, Value.int .i64 0, Value.int .i64 0, Value.int .i64 0] 22)))
      generalize w1.alloc (.cells #[Value.int .i64 0, Value.int .i64 0, Value.int .i64 0, Value.int .i64 0, Value.int .i64 0, Value.int .i64 0, Value.int .i64 0, Value.int .i64 0] 22) = W9 at HN1 HB2 ⊢
      have HP9 : Hid (ArrAt p (fun _ => 0) W9) := by rw [hp]; exact HN1.out
      have HB9 : Hid (Below p w1 W9) := by rw [hp]; exact HB2.out
      have HTP : Hid (wr.heap.size < p) := by rw [hp]; exact HT1.out.1
      have HWP : Hid (∀ W, Below p W9 W → Below w.heap.size w W) := fun W hW => HW0.out.trans ((HB1.out.mono HW0.out.size).trans ((HB9.out.trans hW).mono (by have := HW0.out.size; have := HTP.out; omega)))
      have HENV : Hid (∀ W, Below p W9 W → Tab t W ∧ DTab W ∧ STab W) := fun W hW => ⟨by
        rw [ht]
        exact HT1.out.below (by have := HTP.out; omega) (HB9.out.trans hW), HD.out.below (HWP.out W hW), HS.out.below (HWP.out W hW)⟩
      have HCL : Hid (∀ W, Below p W9 W → ∀ i, i < k → W.cell? ⟨bl, ol + i, none⟩ = some (.int .i64 (X i))) := fun W hW i hi => by
        have hb := HL.out.1
        rw [(HB9.out.trans hW).cell (p := ⟨bl, ol + i, none⟩) (show bl < p by have := HTP.out; omega), HB1.out.cell (p := ⟨bl, ol + i, none⟩) hb]
        exact HL.out.2 i hi
      have HBLP : Hid (bl < p) := by have := HL.out.1; have := HTP.out; show bl < p; omega
      have HF0 := hid ok_tail
      clear ht hp HT1 HB1 HN1 HB2 HB9 HL HD HS HTP HW0 HW
      go_loopw [10] (fun i wq => ∃ f : Nat, f ≤ n ∧ i = .int .i64 f ∧ ∃ T : Nat → Int, Hid (ArrAt p T wq) ∧ Hid (allIn (-35184372088832) 35184372088832 T 8 = true) ∧ Hid (1 ≤ f → TailOf T (SF X f)) ∧ Hid (Below p W9 wq)) (fun i _ => n - (intOf i).toNat)
      case atStart => exact ⟨0, Nat.zero_le _, rfl, fun _ => 0, HP9, HF0, fun h => absurd h (by omega), Below.refl _ _⟩
      case round =>
        clear HP9 HF0
        obtain ⟨f, hf, rfl, T, HPT, HTB, HTO, HBQ⟩ := hrel
        have hn5 : n ≤ 5 := HN.out.2.1
        by_cases hlf : f < n
        · have hlen64 : 64 * f + 72 ≤ k := by have := HN.out; omega
          have HSF : Hid (Fit15 (SF X f) 72) := fun i hi => HX.out (64 * f + i) (by omega)
          obtain ⟨o, ho⟩ : ∃ o, o = 64 * f := ⟨_, rfl⟩
          obtain ⟨y, hy⟩ : ∃ y, y = o + 72 := ⟨_, rfl⟩
          have KT : Hid (∀ b bb, bb = b → Calls Tryd.prog 20 #[.pointer (some ⟨t, 0, none⟩), .slice (some ⟨bl, ol + o, none⟩) 72 (cl - o), .bool b] wr fun e w' => ∃ c, c = bb ∧ SPost 64 (takeF c (SF X f)) wr e w') := fun b bb e => by
            subst e
            have hE := HENV.out wr HBQ.out
            have hI : IsInts wr (some ⟨bl, ol + o, none⟩) 72 (cl - o) (SF X f) := .inr ⟨bl, ol + o, rfl, Nat.lt_trans HBLP.out (HPT.out.lt), by omega, by omega, fun i hi => by
              rw [Nat.add_assoc, ho]
              exact HCL.out wr HBQ.out (64 * f + i) (by omega)⟩
            cases bb
            · exact (take_long t _ _ (SF X f) HSF.out wr hE.1 hE.2.1 hE.2.2 hI).mono fun e w' h => ⟨false, rfl, h⟩
            · exact (take_short t _ _ (SF X f) HSF.out wr hE.1 hE.2.1 hE.2.2 hI).mono fun e w' h => ⟨true, rfl, h⟩
          have x1 : 64 * (f : Int) = (o : Int) := by omega
          have x2 : (o : Int) + 72 = (y : Int) := by omega
          have x3 : o ≤ y := by omega
          have x4 : y ≤ cl := by omega
          have x5 : ¬ (cl = o) := by omega
          have x6 : y - o = 72 := by omega
          have x7 : o ≤ 392 := by omega
          have HO := hid ho
          have HFN : Hid (f < n ∧ 64 * f + 72 ≤ k) := And.intro hlf hlen64
          clear ho hy
          have hsel : (∃ (b1 o1 : Nat) (bf : Bool), f < len1 ∧ wr.cell? ⟨b1, o1 + f, none⟩ = some (.bool bf) ∧ a1 = some ⟨b1, o1, none⟩) ∨ ¬ f < len1 := by
            by_cases hf1 : f < len1
            · obtain ⟨hb1, ho1, rfl, hc1⟩ := H1.out.cells (by omega)
              exact .inl ⟨hb1, ho1, X1 f, hf1, hc1 wr (HWP.out wr HBQ.out) f hf1, rfl⟩
            · exact .inr hf1
          have HW2 := hid (HWP.out wr HBQ.out)
          clear H1
          rcases hsel with ⟨b1, o1, bf, hf1, hcf, rfl⟩ | hf1
          all_goals
            go_wp2_with (fail)
            refine Calls.mono (KT.out _ _ rfl) ?_
            rintro e w10 ⟨bb, hbb, r10, rfl, hr10, h10, b10⟩
            have HP10 := hid (HPT.out.below b10)
            have HB10 := hid (HBQ.out.trans (b10.mono (Nat.le_of_lt HPT.out.lt)))
            have KF : Hid (∀ b, bb = b → Calls Tryd.prog 9 #[.pointer (some ⟨t, 0, none⟩), arr8 T, .slice (some ⟨r10, 0, none⟩) 64 64, .bool b] w10 (LFPost (smpF bb T (takeF bb (SF X f))) (endF bb T (takeF bb (SF X f))) w10)) := fun b e => by
              subst e
              have hE := HENV.out w10 HB10.out
              exact frame_ok bb t _ 64 _ T (take_in bb HSF.out) HTB.out w10 hE.1 hE.2.2 (h10.ints (by decide))
            have HG : Hid (∀ i, i < 64 → (1 ≤ f ∨ 8 ≤ i) → -24 ≤ smpF bb T (takeF bb (SF X f)) i - SF X f i ∧ smpF bb T (takeF bb (SF X f)) i - SF X f i ≤ 24) := fun i hi hc => smp_back bb HSF.out hi (fun h8 => HTO.out (by omega))
            have HGB : Hid (∀ i, -32768 ≤ smpF bb T (takeF bb (SF X f)) i ∧ smpF bb T (takeF bb (SF X f)) i ≤ 32767) := fun i => by
              unfold smpF frF
              split <;> (unfold satF; omega)
            have HE := hid (end_in bb T ((allIn_iff _ _ _ _).1 (take_in bb HSF.out)))
            have HET : Hid (TailOf (endF bb T (takeF bb (SF X f))) (SF X (f + 1))) := end_tail bb T HSF.out (fun j _ => by show X (64 * f + (64 + j)) = X (64 * (f + 1) + j); rw [show 64 * f + (64 + j) = 64 * (f + 1) + j by omega])
            generalize smpF bb T (takeF bb (SF X f)) = G at KF HG HGB
            generalize endF bb T (takeF bb (SF X f)) = E at KF HE HET
            clear hr10 h10 b10 KT HPT HBQ HTB HTO
            go_wp2_with (refine wp_load8 rfl rfl rfl HP10.out ?_)
            refine Calls.mono (KF.out _ hbb) ?_
            rintro e w11 ⟨r11, rfl, _, h11, b11⟩
            have HN11 := hid (arr_new0 w11)
            have HM11 := hid (made_arr E w11)
            have HR12 := hid (h11.below HM11.out.2)
            have HP12 := hid ((HP10.out.below b11).below HM11.out.2)
            have HB12 := hid ((HB10.out.trans (b11.mono (Nat.le_of_lt HP10.out.lt))).trans (HM11.out.2.mono (Nat.le_trans (Nat.le_of_lt HP10.out.lt) b11.size)))
            have HPW : Hid (p ≤ w11.heap.size) := Nat.le_trans (Nat.le_of_lt HP10.out.lt) b11.size
            clear h11 b11 KF HP10 HB10
            go_wp2_with (
              refine wp_store8 (X := E) rfl rfl rfl rfl HN11.out ?_
              have HA12 := hid HM11.out.1
              generalize hw12 : (w11.alloc _).setRow w11.heap.size (rowA 8 E) = w12 at HA12 HR12 HP12 HB12 ⊢
              clear hw12 HN11 HM11
              have HPQ : Hid (p ≤ w12.heap.size) := Nat.le_of_lt HP12.out.lt
              generalize w11.heap.size = p14 at HA12 HPW ⊢)
            clear hlf hlen64 x1 x2 x3 x4 x5 x6
            try (rename_i hh _ _; clear hh)
            go_loopw [15] (fun i wq => ∃ j : Nat, j ≤ 64 ∧ i = .int .i64 j ∧ Hid (Below w12.heap.size w12 wq)) (fun i _ => 64 - (intOf i).toNat)
            case atStart => exact ⟨0, by omega, rfl, Below.refl _ _⟩
            case round =>
              obtain ⟨j, hj, rfl, HB⟩ := hrel
              by_cases hlj : j < 64
              · obtain ⟨z, hz⟩ : ∃ z, z = o + j := ⟨_, rfl⟩
                have x1 : 64 * (f : Int) = (o : Int) := by have := HO.out; omega
                have x2 : (o : Int) + (j : Int) = (z : Int) := by omega
                have x3 : z < k := by have := HO.out; have := HFN.out; omega
                have ex : X z = SF X f j := by show X z = X (64 * f + j); rw [hz, HO.out]
                have hcb := fun V (hV : Below wr.heap.size wr V) => HCL.out V (HB12.out.trans ((below_then HB.out hV).mono HPQ.out)) z x3
                have hca := fun V (hV : Below wr.heap.size wr V) => (HR12.out.below (below_then HB.out hV)).get (j := j) hlj
                have hg := HG.out j hlj
                have hgb := HGB.out j
                have hsb := HX.out z x3
                rw [ex] at hcb hsb
                generalize G j = g at *
                generalize SF X f j = q at *
                have x4 : z ≤ 392 := by omega
                have HCA := hid hca
                have HCB := hid hcb
                have HGG := hid hg
                clear hz ex hca hcb hg
                go_wp2
                refine region_below (by kernel_rfl) (by kernel_rfl) ?_
                repeat (go_big_quiet_step (first
                  | (intro hq; rfl)
                  | (intro hq; rw [HCA.out _ hq]; exact ⟨rfl, rfl⟩)
                  | (intro hq; rw [HCB.out _ hq]; exact ⟨rfl, rfl⟩)))
                refine wpQuiet_nil ?_
                intro w13 hq13
                have HB13 := hid (below_then HB.out hq13)
                clear HB hq13 HCA HCB x1 x2
                by_cases hf0 : 0 < (f : Int)
                · have hg := HGG.out (by omega)
                  have g1 : ¬ (24 < g - q) := by omega
                  have g2 : ¬ (g - q < -24) := by omega
                  clear hg HGG
                  go_wp2
                  first | exact ⟨⟨j + 1, by omega, by go_num, HB13⟩, by simp [intOf]; omega⟩ | exact ⟨⟨j + 1, by omega, by omega⟩, by simp [intOf]; omega⟩
                · by_cases hj8 : 8 ≤ (j : Int)
                  · have hg := HGG.out (by omega)
                    have g1 : ¬ (24 < g - q) := by omega
                    have g2 : ¬ (g - q < -24) := by omega
                    clear hg HGG
                    go_wp2
                    first | exact ⟨⟨j + 1, by omega, by go_num, HB13⟩, by simp [intOf]; omega⟩ | exact ⟨⟨j + 1, by omega, by omega⟩, by simp [intOf]; omega⟩
                  · clear HGG
                    go_wp2
                    first | exact ⟨⟨j + 1, by omega, by go_num, HB13⟩, by simp [intOf]; omega⟩ | exact ⟨⟨j + 1, by omega, by omega⟩, by simp [intOf]; omega⟩
              · obtain rfl : j = 64 := by omega
                have HAQ := hid (HA12.out.below HB.out)
                have HPQ2 := hid (HP12.out.below HB.out)
                have HP13 := hid (HPQ2.out.laid E)
                have HB13 := hid (below_setRow (HB12.out.trans (HB.out.mono HPQ.out)) (Nat.le_refl p) (rowA 8 E))
                have HFF := hid (show f + 1 ≤ n by have := HFN.out; omega)
                clear HB HA12 HP12 HB12
                go_wp2_with (first
                  | (refine wp_load8 rfl rfl rfl HAQ.out ?_)
                  | (refine wp_store8 (X := E) rfl rfl rfl rfl HPQ2.out ?_))
                exact ⟨⟨f + 1, HFF.out, by go_num, E, HP13, HE, fun _ => HET.out, HB13⟩, by have := HFN.out; simp [intOf]; omega⟩
        · obtain rfl : f = n := by omega
          go_wp2_with (go_at_call 7; (with_reducible refine (k0.out _ (HWP.out wr HBQ.out)).mono ?_); rintro e w8 ⟨rfl, b8⟩)
          go_ret
          exact ⟨rfl, b8⟩
theorem walk (w : World) (hd : DTab w) (hs : STab w) (a : Option Addr) (len cap : Nat) (X : Nat → Int) (h : len ≤ maxLen ∧ (∀ i, i < len → (Lit.int .i16 (X i)).wf = true) ∧ IsVals w a len cap fun i => .int .i16 (X i)) (a1 : Option Addr) (len1 cap1 : Nat) (X1 : Nat → Bool) (h1 : len1 ≤ maxLen ∧ IsVals w a1 len1 cap1 fun i => .bool (X1 i)) :
    Calls Tryd.prog 5 #[.slice a len cap, .slice a1 len1 cap1] w fun e w' => e = .returned (.bool true) ∧ Below w.heap.size w w' := by
  by_cases hbig : len < 136 ∨ 392 ≤ len
  · exact walkBig w hs a a1 len cap len1 cap1 h.1 h1.1 hbig
  · refine walkMain w hd hs a a1 len cap len1 cap1 ((len - 8) / 64) h1.1 (by omega) (by omega) rfl X (fun i hi => ?_) h.2.2 X1 h1.2
    have := h.2.1 i hi
    have : IntKind.i16.min ≤ X i ∧ X i ≤ IntKind.i16.max := by simpa [Lit.wf] using this
    exact this

set_option maxRecDepth 100000 in
theorem lifted (os : Os) (started : os.Started) (H : Type) (enc : TypeId × Value → H) :
    ReturnsInHanded {} Tryd.checked os 5 .any (fun w args => (Rows.lapBackSpec.pre enc Tryd.prog Tryd.f5 [] false w args ∧ laidMetH Tryd.prog Rows.lapBackRow.laid w) ∧ sizedMet enc Tryd.prog Tryd.f5 (OpenSpec.ofChange Rows.lapBackSpec) false w args)
      (Rows.lapBackSpec.post enc Tryd.prog Tryd.f5 false true false false) := by
  refine returnsInHanded_of_change_and (C := Tryd.checked) (X := fun w _ => laidMetH Tryd.prog Rows.lapBackRow.laid w) (fun _ _ _ hh h => h.of_heap hh) own started (by kernel_rfl) Tryd.func5
    (ChangeSpec.witness_shaped (enc := enc) (C := Tryd.checked) (os := os) (X := fun w _ => laidMetH Tryd.prog Rows.lapBackRow.laid w) false (World.laidAll Tryd.prog os Rows.lapBackRow.laid) #[.slice none 0 0, .slice none 0 0] 8 (World.laidAll_os _ _ _)
      (World.shaped_of_ZipB (by kernel_rfl) (by kernel_rfl)) (by kernel_rfl) (by kernel_rfl) (by kernel_rfl)
      (by rw [MakeChecks.laidMetH_plain _ _ _ (by kernel_rfl)]; exact laidMet_laidAll _ (by kernel_rfl) (by kernel_rfl))) ?_
  intro W base args ds gs before hval0 hW _ _ hL _
  have hval : ∀ (j : Nat) t v, Tryd.f5.params[j]? = some t → args[j]? = some v → Value.okWide Tryd.prog W .any base t v := hval0
  have hW' := hW
  obtain ⟨p, q, hA0, hV, rfl, hfz, hnd⟩ := hW
  have hA : DataW.TrodAll enc Tryd.prog W 0 (fun _ => true) true Tryd.f5.params.toList args.toList ds p := hA0
  rw [Tryd.params5] at hA hval
  obtain ⟨v0, vs0, d0, ds0, p0, q0, hargs, rfl, rfl, h0, r0⟩ := trodAll_cons hA
  obtain ⟨v1, vs1, d1, ds1, p1, q1, rfl, rfl, rfl, h1, r1⟩ := trodAll_cons r0
  obtain ⟨rfl, rfl, rfl⟩ := trodAll_nil r1
  obtain rfl : args = #[v0, v1] := by cases args; simp_all
  obtain ⟨rfl, rfl⟩ := trodVars_none hV
  obtain ⟨a0, len0, cap0, rfl⟩ := okWide_slice Tryd.underlying39 (hval 0 39 v0 rfl rfl)
  have k0 := h0
  have lt0 : ∀ x ∈ p0, x.block < W.heap.size := by obtain ⟨m, hm⟩ := k0; exact DataW.trod_lt m _ _ _ hm
  obtain ⟨x0, w0⟩ : ∃ X : Nat → Int, len0 ≤ maxLen ∧ (∀ i, i < len0 → (Lit.int .i16 (X i)).wf = true) ∧ IsVals W a0 len0 cap0 fun i => .int .i16 (X i) := by
    obtain ⟨fuel, hf⟩ := h0
    exact open_iskind Tryd.underlying39 Tryd.underlying41 (by kernel_rfl) hf
  obtain ⟨a1, len1, cap1, rfl⟩ := okWide_slice Tryd.underlying40 (hval 1 40 v1 rfl rfl)
  have k1 := h1
  have lt1 : ∀ x ∈ p1, x.block < W.heap.size := by obtain ⟨m, hm⟩ := k1; exact DataW.trod_lt m _ _ _ hm
  obtain ⟨x1, w1⟩ : ∃ X : Nat → Bool, len1 ≤ maxLen ∧ IsVals W a1 len1 cap1 fun i => .bool (X i) := by
    obtain ⟨fuel, hf⟩ := h1
    exact open_isbools Tryd.underlying40 Tryd.underlying4 (by kernel_rfl) hf
  clear hA0 hval0
  refine (walk W (dtab_of_laid (by kernel_rfl) hL (by simp [Rows.lapBackRow])) (stab_of_laid (by kernel_rfl) hL (by simp [Rows.lapBackRow])) a0 len0 cap0 x0 w0 a1 len1 cap1 x1 w1).mono fun e W' ⟨he, bel⟩ => ?_
  subst he
  exact ⟨_, rfl, _, _, _, [], _, [], hW', trodAll_mk1 (shut_bool Tryd.underlying4 _), (trodAll_cons_mk (Below.trod laidOut (by kernel_rfl) (of_decide_eq_true (by kernel_rfl)) k0 bel lt0) (trodAll_cons_mk (Below.trod laidOut (by kernel_rfl) (of_decide_eq_true (by kernel_rfl)) k1 bel lt1) trodAll_mk0)), rfl, bel.frame _, fun h => by cases h⟩

theorem over : Rows.lapBackRow.holds Tryd.pinned (OpenSpec.ofChange Rows.lapBackSpec) :=
  OpenClaim.holds_of_wide 5 Tryd.f5 rfl rfl rfl rfl rfl rfl rfl ⟨rfl, rfl, rfl, rfl, rfl⟩ rfl rfl rfl rfl rfl (by kernel_rfl) Tryd.func5 (by kernel_rfl)
    (of_decide_eq_true (by kernel_rfl)) (by unfold Func.isWrapper; first | (rw [if_pos (by decide +kernel)]; kernel_rfl) | (rw [if_neg (by decide +kernel)]; exact ⟨rfl, rfl⟩))
    (fun os started H enc _ => lifted os started H enc)

theorem plain (f : FuncId) (fn : Func) (hf : Tryd.pinned.checked.prog.funcNamed "splicer/splicerlaw12.LapBack" = some f) (hfn : Tryd.pinned.checked.prog.funcs[f]? = some fn) :
    false = Tryd.pinned.checked.prog.looks [] ∧ ∀ (j : Nat) t, fn.params[j]? = some t → Tryd.pinned.checked.prog.wantsStandIn t = false := by
  obtain rfl : f = 5 := Option.some.inj ((show Tryd.prog.funcNamed "splicer/splicerlaw12.LapBack" = some 5 by kernel_rfl).symm.trans hf) |>.symm
  obtain rfl : fn = Tryd.f5 := (Option.some.inj (Tryd.func5.symm.trans hfn)).symm
  refine ⟨by kernel_rfl, fun j t ht => ?_⟩
  rw [Tryd.params5] at ht
  have hm : t ∈ [39, 40] := by simpa using Array.mem_of_getElem? ht
  have hall : ([39, 40].all fun u => !Tryd.prog.wantsStandIn u) = true := by kernel_rfl
  exact (show Tryd.prog.wantsStandIn t = false by simpa using List.all_eq_true.1 hall t hm)

/-- The statement. -/
theorem proved : Rows.LapBackCardSaid :=
  Claim7.holds_tied_plain_at .later [] _ _ _ _ over (fun _ h => by cases h) (by kernel_rfl) (fun _ h => by cases h) lapBack_row_tie rfl ⟨rfl, rfl⟩ (by kernel_rfl) rfl plain (by kernel_rfl)
#print axioms proved
end Go.Proofs.YtfhcfdepjhdhfaaDoor.lapBack
