/-
  The program's within, place, put, Pick.
-/
import Derived.Test.YtfhcfdepjhdhfaaDoorYD
import Derived.Test.YtfhcfdepjhdhfaaDoorZA
namespace Go.Proofs.YtfhcfdepjhdhfaaDoor
open Go.ChangeShapes Go.WideShapes Go.ChangeAt Go.RowKit
set_option linter.unusedVariables false

theorem lwithin_any (lo hi : Int) (a : Option Addr) (len cap : Nat) (X : Nat → Int) (hl : len ≤ 1000) (w : World) (h : IsInts w a len cap X) :
    Calls Tryd.prog 23 #[.int .i64 lo, .int .i64 hi, .slice a len cap] w fun e w' => e = .returned (.bool (allIn lo hi X len)) ∧ w' = w := by
  rcases h with rfl | ⟨b, off, rfl, h1, h2, h3, hc⟩
  · go_enter Tryd.func23, Tryd.ntmps23
    go_wp2
    go_loop [11] (fun i => i = .int .i64 0) (fun i => 0)
    case atStart => rfl
    case round =>
      subst hrel
      go_wp2
      go_ret
      exact ⟨rfl, rfl⟩
  · clear h1 h2 h3
    go_enter Tryd.func23, Tryd.ntmps23
    go_wp2
    go_loop [11] (fun i => ∃ k : Nat, k ≤ len ∧ i = .int .i64 k ∧ allIn lo hi X k = true) (fun i => len - (intOf i).toNat)
    case atStart => exact ⟨0, Nat.zero_le _, rfl, rfl⟩
    case round =>
      obtain ⟨k, hk, rfl, hall⟩ := hrel
      have HA : Hid (allIn lo hi X k = true) := hall
      clear hall
      by_cases hlt : k < len
      · have hck := hc k hlt
        clear hc
        by_cases h1 : X k < lo
        · go_wp2
          go_ret
          exact ⟨ret_bool (allIn_no hlt (by omega)).symm, rfl⟩
        · by_cases h2 : hi < X k
          · go_wp2
            go_ret
            exact ⟨ret_bool (allIn_no hlt (by omega)).symm, rfl⟩
          · go_wp2
            go_round
            case rel => exact ⟨k + 1, by omega, by go_num, by simp [allIn, HA.out]; omega⟩
            case measure => simp [intOf]; omega
      · clear hc
        go_wp2
        go_ret
        obtain rfl : k = len := by omega
        exact ⟨ret_bool HA.out.symm, rfl⟩
theorem place_any (b k : Nat) (hb : b < 64) (hk : k < 64) (w : World) :
    Calls Tryd.prog 35 #[.int .i64 (b : Int), .int .i64 (k : Int)] w fun e w' => e = .returned (.int .i64 ((8 * k + b : Nat) : Int)) ∧ w' = w := by
  go_enter Tryd.func35, Tryd.ntmps35
  go_wp2
  go_ret
  exact ⟨ret_int (by omega), rfl⟩
theorem ButX.other {r : Nat} {w W : World} (h : ButX r w W) {b : Nat} (hne : b ≠ r) (hb : b < w.heap.size) : W.heap[b]? = w.heap[b]? := by
  by_cases e : b < r
  · exact h.bel.block b e
  · exact h.more b (by omega) hb
/-- Numbers that are put, held, from a place on. -/
def putF (Z X : Nat → Int) (o k : Nat) (i : Nat) : Int := if o ≤ i ∧ i < o + k then satF (X (i - o)) else Z i
theorem putF_zero (Z X : Nat → Int) (o i : Nat) : Z i = putF Z X o 0 i := by rw [putF, if_neg (by omega)]
theorem putF_next (Z X : Nat → Int) (o k i : Nat) : upd (putF Z X o k) (o + k) (satF (X k)) i = putF Z X o (k + 1) i := by
  unfold upd
  by_cases e : i = o + k
  · subst e; rw [if_pos rfl, putF, if_pos (by omega), show o + k - o = k by omega]
  · rw [if_neg e, putF, putF]
    by_cases h : o ≤ i ∧ i < o + k
    · rw [if_pos h, if_pos (by omega)]
    · rw [if_neg h, if_neg (by omega)]
theorem put_any (r n o ls cs : Nat) (Z : Nat → Int) (a : Option Addr) (len cap : Nat) (X : Nat → Int) (h1 : 1 ≤ len) (h64 : len ≤ 64) (hls : len ≤ ls) (hn : o + len ≤ n) (w : World) (hr : RowAt r n Z w) (h : IsInts w a len cap X) (hne : ∀ x, a = some x → x.block ≠ r) :
    Calls Tryd.prog 27 #[.slice (some ⟨r, o, none⟩) ls cs, .slice a len cap] w fun e w' => (∃ v, e = .returned v) ∧ RowAt r n (putF Z X o len) w' ∧ ButX r w w' := by
  obtain ⟨b, off, rfl, hb, hc⟩ : ∃ b off, a = some ⟨b, off, none⟩ ∧ b < w.heap.size ∧ ∀ i, i < len → w.cell? ⟨b, off + i, none⟩ = some (.int .i64 (X i)) := by
    rcases h with h | ⟨b, off, e, hb, _, _, hc⟩
    · omega
    · exact ⟨b, off, e, hb, hc⟩
  have hbr : b ≠ r := hne _ rfl
  have HC : Hid (∀ W, ButX r w W → ∀ i, i < len → W.cell? ⟨b, off + i, none⟩ = some (.int .i64 (X i))) := fun W hW i hi => by
    rw [World.cell?_of_block (a := ⟨b, off + i, none⟩) (hW.other hbr hb)]; exact hc i hi
  have H0 := hid (And.intro (hr.congr fun i _ => putF_zero Z X o i) (ButX.refl r w))
  clear h hc hb hbr hne hr
  go_enter Tryd.func27, Tryd.ntmps27
  go_wp2
  go_loopw [8] (fun i wr => ∃ k : Nat, k ≤ len ∧ i = .int .i64 k ∧ Hid (RowAt r n (putF Z X o k) wr ∧ ButX r w wr)) (fun i _ => len - (intOf i).toNat)
  case atStart => exact ⟨0, Nat.zero_le _, rfl, H0⟩
  case round =>
    clear H0
    obtain ⟨k, hk, rfl, HI⟩ := hrel
    by_cases hlt : k < len
    · have hck := HC.out wr HI.out.2 k hlt
      have hcr := HI.out.1.get (j := o + k) (by omega)
      have hfr := IsAt.frozen HI.out.1 (o + k)
      have hkl : k < ls := by omega
      have HN := hid (And.intro ((HI.out.1.set (j := o + k) (by omega) (satF (X k))).congr fun i _ => putF_next Z X o k i) (HI.out.2.setCell (o := o + k) (.int .i64 (satF (X k)))))
      have ks := sat_any (X k) wr
      generalize satF (X k) = s at *
      generalize X k = x at *
      have KS := hid ks
      clear ks
      go_wp2_with (go_at_call 50; (with_reducible refine KS.out.mono ?_); rintro e w1 ⟨rfl, rfl⟩)
      exact ⟨⟨k + 1, by omega, by go_num, HN⟩, by simp [intOf]; omega⟩
    · obtain rfl : k = len := by omega
      go_wp2
      go_end0
      exact ⟨⟨_, rfl⟩, HI.out⟩
theorem put_none (s : Value) (a : Option Addr) (cap : Nat) (w : World) :
    Calls Tryd.prog 27 #[s, .slice a 0 cap] w fun e w' => (∃ v, e = .returned v) ∧ w' = w := by
  go_enter Tryd.func27, Tryd.ntmps27
  go_wp2
  go_loop [8] (fun i => i = .int .i64 0) (fun i => 0)
  case atStart => rfl
  case round =>
    subst hrel
    go_wp2
    go_end0
    exact ⟨⟨_, rfl⟩, rfl⟩
/-- The first k of eight are picked. -/
def pickedF (b : Nat) (X : Nat → Int) (k i : Nat) : Int := if i < k then pickF b X i else 0
theorem pickedF_next (b : Nat) (X : Nat → Int) (k i : Nat) : upd (pickedF b X k) k (pickF b X k) i = pickedF b X (k + 1) i := by
  unfold upd
  by_cases e : i = k
  · subst e; rw [if_pos rfl, pickedF, if_pos (by omega)]
  · rw [if_neg e, pickedF, pickedF]
    by_cases h : i < k
    · rw [if_pos h, if_pos (by omega)]
    · rw [if_neg h, if_neg (by omega)]
theorem pick_yes (b : Nat) (hb : b < 8) (a : Option Addr) (cap : Nat) (X : Nat → Int) (w : World) (h : IsInts w a 64 cap X) :
    Calls Tryd.prog 14 #[.slice a 64 cap, .int .i64 (b : Int)] w (SPost 8 (pickF b X) w) := by
  have hmk : ∀ w, (Instr.makeSlice 23 (.int .i64 8) (.int .i64 8)).run Tryd.prog w = .ok (.slice (some ⟨w.heap.size, 0, none⟩) 8 8) (w.alloc (.cells (rowA 8 (fun _ => 0)) 3)) := make_ints (n := 8) (by omega)
  obtain ⟨b0, off, rfl, hc⟩ := h.cells (by omega)
  have HC := hid hc
  have hd1 : ¬ ((b : Int) < 0) := by omega
  have hd2 : ¬ (8 ≤ (b : Int)) := by omega
  have hx : RowAt w.heap.size 8 (fun _ => 0) (w.alloc (.cells (rowA 8 (fun _ => 0)) 3)) := al_new w _
  have HX := hid (And.intro (hx.congr (Y := pickedF b X 0) (fun i _ => by rw [pickedF, if_neg (by omega)])) ((Below.refl _ w).alloc (Nat.le_refl _) (.cells (rowA 8 (fun _ => 0)) 3)))
  clear h hc hx
  go_enter Tryd.func14, Tryd.ntmps14
  go_wp2
  generalize w.alloc (.cells (rowA 8 (fun _ => 0)) 3) = W0 at HX ⊢
  obtain ⟨B, hB⟩ : ∃ B, B = w.heap.size := ⟨_, rfl⟩
  have HX2 : Hid (RowAt w.heap.size 8 (pickedF b X 0) W0 ∧ Below B w W0) := by rw [hB]; exact HX
  clear HX
  have HB := hid hB
  rw [← hB] at HC
  clear hB
  generalize hr : w.heap.size = r at HX2 ⊢
  have HR := hid hr
  clear hr
  go_loopw [21] (fun i wr => ∃ k : Nat, k ≤ 8 ∧ i = .int .i64 k ∧ Hid (RowAt r 8 (pickedF b X k) wr ∧ Below B w wr)) (fun i _ => 8 - (intOf i).toNat)
  case atStart => exact ⟨0, by omega, rfl, HX2⟩
  case round =>
    clear HX2
    obtain ⟨k, hk, rfl, HO⟩ := hrel
    by_cases hlt : k < 8
    · have hck := HC.out _ HO.out.2 (8 * k + b) (by omega)
      have hcr := HO.out.1.get (j := k) (by omega)
      have hfr := IsAt.frozen HO.out.1 k
      have h64 : 8 * k + b < 64 := by omega
      have KP := hid (place_any b k (by omega) (by omega))
      have HN := hid (And.intro ((RowAt.set HO.out.1 (j := k) (by omega) (pickF b X k)).congr fun i _ => pickedF_next b X k i) (HO.out.2.setCell (show B ≤ (Addr.mk r k none).block by rw [HB.out, HR.out]; exact Nat.le_refl _) (.int .i64 (pickF b X k))))
      rw [show X (8 * k + b) = pickF b X k from rfl] at hck
      generalize pickF b X k = y at *
      generalize 8 * k + b = z at *
      go_wp2_with (go_at_call 35; (with_reducible refine (KP.out _).mono ?_); rintro e w1 ⟨rfl, rfl⟩)
      exact ⟨⟨k + 1, by omega, by go_num, HN⟩, by simp [intOf]; omega⟩
    · obtain rfl : k = 8 := by omega
      go_wp2
      go_ret
      refine ⟨r, rfl, by rw [← HR.out]; exact Nat.le_refl _, HO.out.1.congr (fun i hi => if_pos hi), ?_⟩
      rw [← HB.out]; exact HO.out.2
theorem pick_no (b : Int) (a : Option Addr) (len cap : Nat) (hl : len ≤ maxLen) (h : ¬ (len = 64 ∧ 0 ≤ b ∧ b ≤ 7)) (w : World) :
    Calls Tryd.prog 14 #[.slice a len cap, .int .i64 b] w fun e w' => e = .returned (.slice none 0 0) ∧ w' = w := by
  by_cases h1 : len = 64
  · subst h1
    by_cases h2 : b < 0
    · go_enter Tryd.func14, Tryd.ntmps14
      go_wp2
      go_ret
      exact ⟨rfl, rfl⟩
    · have h3 : 8 ≤ b := by omega
      go_enter Tryd.func14, Tryd.ntmps14
      go_wp2
      go_ret
      exact ⟨rfl, rfl⟩
  · have h1' : ((len : Int) != 64) = true := by
      have : ((len : Int) == 64) = false := by simp; omega
      rw [bne, this]; rfl
    go_enter Tryd.func14, Tryd.ntmps14
    go_wp2
    go_ret
    exact ⟨rfl, rfl⟩
end Go.Proofs.YtfhcfdepjhdhfaaDoor
