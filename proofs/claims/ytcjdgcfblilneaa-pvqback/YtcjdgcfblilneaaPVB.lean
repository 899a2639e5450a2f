/-
  The document's far and rows.
-/
import Derived.Test.YtcjdgcfblilneaaPVA
import Derived.Test.YtcjdgcfblilneaaRS
import Derived.Deep.AppendLies
namespace Go.Proofs.Ytcjdgcfblilneaa
open Go.ChangeShapes Go.WideShapes Go.ChangeAt Go.RowKit
set_option linter.unusedVariables false

theorem rfar_any (x : Int) (w : World) : Calls Try.prog 20 #[.int .i64 x] w fun e w' => e = .returned (.int .i64 ((pvD x : Nat) : Int)) ∧ w' = w := by
  by_cases h1 : x < -24
  · have e : ((pvD x : Nat) : Int) = 25 := by rw [pvD, if_pos (by omega)]; rfl
    rw [e]
    go_enter Try.func20, Try.ntmps20
    go_wp2
    go_ret
    exact ⟨rfl, rfl⟩
  by_cases h2 : 24 < x
  · have e : ((pvD x : Nat) : Int) = 25 := by rw [pvD, if_pos (by omega)]; rfl
    rw [e]
    go_enter Try.func20, Try.ntmps20
    go_wp2
    go_ret
    exact ⟨rfl, rfl⟩
  have e : ((pvD x : Nat) : Int) = if 0 ≤ x then x else -x := by
    rw [pvD, if_neg (by omega)]; split <;> omega
  rw [e]
  by_cases h3 : 0 ≤ x
  · rw [if_pos h3]
    have h4 : -x ≤ x := by omega
    go_enter Try.func20, Try.ntmps20
    go_wp2
    all_goals (go_ret; exact ⟨ret_int (by omega), rfl⟩)
  · rw [if_neg h3]
    have h4 : x < -x := by omega
    go_enter Try.func20, Try.ntmps20
    go_wp2
    all_goals (go_ret; exact ⟨ret_int (by omega), rfl⟩)

def pvT (n k : Nat) : Int := ((pvC n k : Nat) : Int)
/-- A row of lists as a reader needs it. -/
theorem IsLists.row {w : World} {a : Option Addr} {k cap n : Nat} {Y : Nat → Nat → Int} (h : IsLists w a k cap n Y) {i : Nat} (hi : i < k) (hn : 1 ≤ n) :
    ∃ b off ab ao ci, a = some ⟨b, off, none⟩ ∧ n ≤ ci ∧ ci ≤ maxLen ∧ ∀ W, Below w.heap.size w W → W.cell? ⟨b, off + i, none⟩ = some (.slice (some ⟨ab, ao, none⟩) n ci) ∧ ∀ j, j < n → W.cell? ⟨ab, ao + j, none⟩ = some (.int .i64 (Y i j)) := by
  rcases h with h | ⟨b, off, rfl, hb, _, _, hc⟩
  · omega
  · obtain ⟨ai, ci, hc', hI⟩ := hc i hi
    rcases hI with h | ⟨ab, ao, rfl, hab, h2, h3, h4⟩
    · omega
    · exact ⟨b, off, ab, ao, ci, rfl, h2, h3, fun W hW => ⟨by rw [hW.cell (p := ⟨b, off + i, none⟩) hb]; exact hc', fun j hj => by rw [hW.cell (p := ⟨ab, ao + j, none⟩) hab]; exact h4 j hj⟩⟩
theorem IsLists.table {w : World} {a : Option Addr} {k cap n : Nat} {Y : Nat → Nat → Int} (h : IsLists w a k cap n Y) (hk : 1 ≤ k) (hn : 1 ≤ n) :
    ∃ b off, a = some ⟨b, off, none⟩ ∧ ∀ i, i < k → ∃ ab ao ci, n ≤ ci ∧ ci ≤ maxLen ∧ ∀ W, Below w.heap.size w W → W.cell? ⟨b, off + i, none⟩ = some (.slice (some ⟨ab, ao, none⟩) n ci) ∧ ∀ j, j < n → W.cell? ⟨ab, ao + j, none⟩ = some (.int .i64 (Y i j)) := by
  obtain ⟨b, off, _, _, _, e, _⟩ := h.row (show 0 < k by omega) hn
  refine ⟨b, off, e, fun i hi => ?_⟩
  obtain ⟨b', off', ab, ao, ci, e', h1, h2, h3⟩ := h.row hi hn
  have e2 := Option.some.inj (e.symm.trans e')
  cases e2
  exact ⟨ab, ao, ci, h1, h2, h3⟩
/-- A first list, laid as a literal. -/
theorem RowsOwn.one {n r c : Nat} {Y : Nat → Nat → Int} {w0 w : World} (h0 : Below w0.heap.size w0 w) (hr : w0.heap.size ≤ r) (hr2 : r < w.heap.size) (hI : IsInts w (some ⟨r, 0, none⟩) n c (Y 0)) :
    RowsOwn w0.heap.size n 1 (.slice (some ⟨w.heap.size, 0, none⟩) 1 1) Y w0 (w.alloc (.cells #[.slice (some ⟨r, 0, none⟩) n c] 22)) [.slice (some ⟨r, 0, none⟩) n c] := by
  have hs := h0.size
  refine ⟨⟨rfl, .inr ⟨w.heap.size, 1, _, rfl, hs, al_new w _, Nat.le_refl _, by decide, rfl, rfl⟩⟩, rfl, fun i hi => ?_, h0.alloc hs _, by rw [al_size]; omega⟩
  obtain rfl : i = 0 := by omega
  refine ⟨_, _, rfl, hI.below ((Below.refl _ w).alloc (Nat.le_refl _) _), fun x hx => ?_⟩
  cases hx
  exact ⟨hr, fun e => by have e := Option.some.inj (show some w.heap.size = some r from e); omega⟩
/-- The rows of the table, of one's own. -/
def TPost (n : Nat) (w : World) (e : Ending) (w' : World) : Prop := ∃ a cap, e = .returned (.slice a (n + 1) cap) ∧ IsLists w' a (n + 1) cap 25 pvT ∧ Below w.heap.size w w'
theorem pvSum_up (f : Nat → Nat) (k : Nat) {d : Nat} (h : d ≤ k) : f k + 2 * pvSum f k d ≤ pvNext f k := by
  rw [← pvA_odd, pvNext, ← pvA_odd]; exact pvA_mono _ _ (by omega)
set_option maxRecDepth 100000 in
theorem rrows_any (n : Nat) (hn : n ≤ 8) (w : World) : Calls Try.prog 22 #[.int .i64 n] w (TPost n w) := by
  obtain ⟨iL, hiL, hL0, hL1, hL2⟩ := infoL
  have HL : Hid (Try.prog.info? 22 = some iL) := hiL
  obtain ⟨i0, hi, hz0, hz1, hz2⟩ := infoI
  have HI : Hid (Try.prog.info? 3 = some i0) := hi
  have hmk : ∀ w, (Instr.makeSlice 22 (.int .i64 25) (.int .i64 25)).run Try.prog w = .ok (.slice (some ⟨w.heap.size, 0, none⟩) 25 25) (w.alloc (.cells (rowA 25 (fun _ => 0)) 3)) := make_ints (n := 25) (by omega)
  have hr0 : RowAt w.heap.size 25 (fun _ => 0) (w.alloc (.cells (rowA 25 (fun _ => 0)) 3)) := al_new w _
  have hcell := hr0.get (j := 0) (by omega)
  have hfro := hr0.frozen 0
  have er : (rowA 25 (fun _ => 0)).setIfInBounds 0 (.int .i64 1) = rowA 25 (pvT 0) := by kernel_rfl
  have hr1 : RowAt w.heap.size 25 (pvT 0) (w.alloc (.cells ((rowA 25 (fun _ => 0)).setIfInBounds 0 (.int .i64 1)) 3)) := by rw [er]; exact al_new w _
  have hb1 : Below w.heap.size w (w.alloc (.cells ((rowA 25 (fun _ => 0)).setIfInBounds 0 (.int .i64 1)) 3)) := (Below.refl _ w).alloc (Nat.le_refl _) _
  have h1 := RowsOwn.one hb1 (Nat.le_refl _) (by rw [al_size]; omega) (hr1.ints (by decide))
  rw [al_size] at h1
  have H1 := hid h1
  have HN := hid hn
  clear hr0 hr1 hb1 h1 er hi hiL
  go_enter Try.func22, Try.ntmps22
  go_wp2
  clear hmk hcell hfro
  go_loopw [4, 5] (fun o i wr => ∃ m : Nat, 1 ≤ m ∧ m ≤ n + 1 ∧ i = .int .i64 m ∧ Hid (∃ vs, RowsOwn w.heap.size 25 m o pvT w wr vs)) (fun _ i _ => n + 1 - (intOf i).toNat)
  case atStart => exact ⟨1, Nat.le_refl _, by omega, rfl, _, H1.out⟩
  case round =>
    clear H1
    obtain ⟨m, hm1, hm, rfl, HO⟩ := hrel
    obtain ⟨w5, e5⟩ : ∃ w5, w5 = wr := ⟨_, rfl⟩
    subst e5
    by_cases hlt : m ≤ n
    · obtain ⟨vs, ho⟩ := HO.out
      obtain ⟨p, hp⟩ : ∃ p, m = p + 1 := ⟨m - 1, by omega⟩
      have x1 : (m : Int) - 1 = (p : Int) := by omega
      have x2 : p < m := by omega
      have HP := hid hp
      obtain ⟨a1, c1, rfl, l1⟩ := ho.lists
      obtain ⟨b, off, ab, ao, ci, rfl, hci, hci2, hrow⟩ := l1.row x2 (by omega)
      have HR := hid hrow
      have HO1 := hid ho
      have HN1 := hid (World.ownsRow_nil w5 w5.heap.size 3 1)
      have HB1 := hid (Below.refl w5.heap.size w5)
      have HZ1 := hid (Nat.le_refl w5.heap.size)
      clear hrow ho HO l1 hp
      go_wp2
      go_loopw [6, 7] (fun o i wt => ∃ k : Nat, k ≤ 25 ∧ i = .int .i64 k ∧ Hid (wt.ownsRow w5.heap.size 3 1 o k (intL k (pvT m))) ∧ Hid (Below w5.heap.size w5 wt) ∧ Hid (w5.heap.size ≤ wt.heap.size)) (fun _ i _ => 25 - (intOf i).toNat)
      case atStart => exact ⟨0, by omega, rfl, HN1.out, HB1.out, HZ1.out⟩
      case round =>
        clear HN1 HB1 HZ1
        obtain ⟨k, hk, rfl, HO2, HB2, HZ2⟩ := hrel
        obtain ⟨w6, e6⟩ : ∃ w6, w6 = wr := ⟨_, rfl⟩
        subst e6
        by_cases hlt2 : k < 25
        · have d1 := (HR.out w6 HB2.out).1
          have d2 := (HR.out w6 HB2.out).2 k hlt2
          have HB3 := hid (Below.refl w6.heap.size w6)
          have HS0 := hid (show pvT p k = ((pvC p k + 2 * pvSum (pvC p) k 0 : Nat) : Int) from rfl)
          go_wp2
          clear d1 d2
          go_loopw [8, 9] (fun s j wt => ∃ d : Nat, d ≤ k ∧ j = .int .i64 ((d + 1 : Nat) : Int) ∧ s = .int .i64 ((pvC p k + 2 * pvSum (pvC p) k d : Nat) : Int) ∧ Hid (Below w6.heap.size w6 wt)) (fun _ j _ => k + 1 - (intOf j).toNat)
          case atStart => exact ⟨0, by omega, rfl, by rw [HS0.out], HB3.out⟩
          case round =>
            clear HB3 HS0
            obtain ⟨d, hd, hj, hs, HB4⟩ := hrel
            obtain ⟨w7, e7⟩ : ∃ w7, w7 = wr := ⟨_, rfl⟩
            subst e7
            have HB7 := hid (below_then HB2.out HB4.out)
            by_cases hlt3 : d < k
            · obtain ⟨q, hq⟩ : ∃ q, q = k - (d + 1) := ⟨_, rfl⟩
              have d1 := (HR.out w7 HB7.out).1
              have d2 := (HR.out w7 HB7.out).2 q (by omega)
              obtain ⟨y, hy⟩ : ∃ y : Int, y = ((d + 1 : Nat) : Int) := ⟨_, rfl⟩
              obtain ⟨S, hS⟩ : ∃ S : Int, S = ((pvC p k + 2 * pvSum (pvC p) k d : Nat) : Int) := ⟨_, rfl⟩
              obtain ⟨C, hC⟩ : ∃ C : Int, C = pvT p q := ⟨_, rfl⟩
              rw [← hy] at hj
              rw [← hS] at hs
              rw [← hC] at d2
              have hSb : 0 ≤ S ∧ S ≤ 33232930569601 := by
                have h1 := pvSum_up (pvC p) k (d := d) (by omega)
                have h2 := pvC_bd (n := p + 1) (k := k) (by have := HN.out; omega) (by omega)
                have h3 : pvC (p + 1) k = pvNext (pvC p) k := rfl
                omega
              have hCb : 0 ≤ C ∧ C ≤ 33232930569601 := by
                have h2 := pvC_bd (n := p) (k := q) (by have := HN.out; omega) (by omega)
                rw [hC, pvT]; omega
              have HV := hid (show S + 2 * C = ((pvC p k + 2 * pvSum (pvC p) k (d + 1) : Nat) : Int) by rw [pvSum, ← hq, hS, hC, pvT]; omega)
              have HY := hid (show y + 1 = ((d + 1 + 1 : Nat) : Int) by omega)
              have HM := hid (show k + 1 - y.toNat = k - d ∧ k + 1 - (y + 1).toNat = k - (d + 1) by omega)
              have y1 : y ≤ (k : Int) := by omega
              have y0 : 1 ≤ y := by omega
              have y2 : (k : Int) - y = (q : Int) := by omega
              have y3 : q < 25 := by omega
              clear hy hS hC hq
              subst hj hs
              go_wp2
              clear d1 d2
              exact ⟨⟨d + 1, by omega, congrArg (Value.int .i64) HY.out, congrArg (Value.int .i64) HV.out, HB4⟩, by simp only [intOf]; have := HM.out; omega⟩
            · obtain rfl : d = k := by omega
              obtain ⟨c, hc⟩ : ∃ c : Int, c = pvT m d := ⟨_, rfl⟩
              have hs2 : ((pvC p d + 2 * pvSum (pvC p) d d : Nat) : Int) = c := by rw [hc, HP.out]; rfl
              have HCC := hid hc
              rw [hs2] at hs
              obtain ⟨y, hy⟩ : ∃ y : Int, y = ((d + 1 : Nat) : Int) := ⟨_, rfl⟩
              rw [← hy] at hj
              have y1 : (d : Int) < y := by omega
              have HZ7 := hid (Nat.le_trans HZ2.out HB4.out.size)
              have HO7 := hid (owns_below HO2.out HB4.out)
              clear hc hs2 hy HO2 HB4
              subst hj hs
              have HA : Hid ((w7.alloc (.cells #[.int .i64 c] 3)).ownsRow w5.heap.size 3 1 u6 d (intL d (pvT m))) := HO7.out.alloc _
              have HS : Hid (w5.heap.size ≤ (w7.alloc (.cells #[.int .i64 c] 3)).heap.size) := Nat.le_trans HZ7.out (by simp)
              go_wp2_with (at_builtin; refine wpList_append_lies _ rfl _ _ _ rfl w5.heap.size 3 i0 (.int .i64 0) 1 8 Try.underlying22 HI.out hz0 hz1 hz2 rfl (by omega) _ _ _ rfl HA.out ⟨w7.heap.size, 0, none⟩ 1 1 [.int .i64 c] rfl rfl (World.news_of_block (cs := #[.int .i64 c]) (heap_alloc_new w7 _)) (by intro u hu; simp at hu; subst hu; rfl) (by omega) (by unfold maxLen; omega) (by omega) HS.out _ rfl ?_)
              intro gg cap1 w8 hown hgr _ _
              obtain ⟨o1, o2, o3⟩ := oi_step HO7.out HB7.out HZ7.out HCC.out hown hgr
              have O1 := hid o1
              have O2 := hid o2
              have O3 := hid o3
              clear hown hgr o1 o2 o3 HA HS
              go_wp2
              exact ⟨⟨d + 1, by omega, by go_num, O1, O2, O3⟩, by simp [intOf]; omega⟩
        · obtain rfl : k = 25 := by omega
          obtain ⟨a2, c2, rfl, i2⟩ := own_ints HO2.out
          have hnew := own_new HO2.out
          have I2 := hid i2
          have N2 := hid (HO1.out.apart hnew)
          have HO3 := hid (HO1.out.tr HB2.out)
          have HA : Hid ((w6.alloc (.cells #[.slice a2 25 c2] 22)).ownsRow w.heap.size 22 1 (.slice (some ⟨b, off, none⟩) m c1) m vs) := HO3.out.own.alloc _
          have HS : Hid (w.heap.size ≤ (w6.alloc (.cells #[.slice a2 25 c2] 22)).heap.size) := Nat.le_trans HO3.out.sz (by simp)
          clear i2 hnew HO2 HB2 HZ2
          have HN9 := hid (show m + 1 ≤ maxLen by have := HN.out; unfold maxLen; omega)
          go_wp2_with (at_builtin; refine wpList_append_lies _ rfl _ _ _ rfl w.heap.size 22 iL (.slice none 0 0) 1 24 Try.underlying40 HL.out hL0 hL1 hL2 rfl (by omega) _ _ _ rfl HA.out ⟨w6.heap.size, 0, none⟩ 1 1 [.slice a2 25 c2] rfl rfl (World.news_of_block (cs := #[.slice a2 25 c2]) (heap_alloc_new w6 _)) (by intro u hu; simp at hu; subst hu; rfl) (by omega) HN9.out (by omega) HS.out _ rfl ?_)
          intro gg cap1 w8 hown hgr hor _
          have HO4 := hid (HO3.out.next (by omega) I2.out N2.out hown hgr hor)
          clear hown hgr hor HA HS HO3 I2 N2
          go_wp2
          exact ⟨⟨m + 1, by omega, by omega, by go_num, _, HO4.out⟩, by simp [intOf]; omega⟩
    · obtain rfl : m = n + 1 := by omega
      obtain ⟨vs, ho⟩ := HO.out
      obtain ⟨a1, c1, rfl, l1⟩ := ho.lists
      have L1 := hid l1
      have HW := hid ho.bel
      clear l1 ho HO
      have y1 : (n : Int) < ((n + 1 : Nat) : Int) := by omega
      go_wp2
      go_ret
      exact ⟨a1, c1, rfl, L1.out, HW.out⟩
end Go.Proofs.Ytcjdgcfblilneaa
