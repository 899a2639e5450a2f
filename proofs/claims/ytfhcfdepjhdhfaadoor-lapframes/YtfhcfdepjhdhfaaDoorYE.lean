/-
  The document's Take.
-/
import Derived.Test.YtfhcfdepjhdhfaaDoorYD
import Derived.Test.YtfhcfdepjhdhfaaDoorZS
import Derived.Test.YtfhcfdepjhdhfaaDoorZK
namespace Go.Proofs.YtfhcfdepjhdhfaaDoor
open Go.ChangeShapes Go.WideShapes Go.ChangeAt Go.RowKit
set_option linter.unusedVariables false

/-- The spectrum of samples. -/
def shortX (X : Nat → Int) (b : Nat) (i : Nat) : Int := X (8 * b + i)
def takeF (short : Bool) (X : Nat → Int) : Nat → Int := if short then layF (fun b => fastF 8 2 (wFoldF 8 (shortX X b))) else fastF 64 5 (wFoldF 64 X)
abbrev Fit15 (X : Nat → Int) (n : Nat) : Prop := ∀ i, i < n → -32768 ≤ X i ∧ X i ≤ 32767
theorem fold_fit {n : Nat} (hn : n = 8 ∨ n = 64) {X : Nat → Int} (hX : Fit15 X (n + 8)) : ∀ i, i < n → -65536 ≤ wFoldF n X i ∧ wFoldF n X i ≤ 65536 := fun i hi => by
  have := fold_bd (X := X) hn (B := 32768) (by omega) (fun j hj => by have := hX j hj; omega) hi
  omega
theorem rtake_long (a : Option Addr) (cap : Nat) (X : Nat → Int) (hX : Fit15 X 72) (w : World) (h : IsInts w a 72 cap X) :
    Calls Tryd.prog 21 #[.slice a 72 cap, .bool false] w (SPost 64 (takeF false X) w) := by
  have K0 : Hid (Calls Tryd.prog 29 #[.slice a 72 cap, .int .i64 (-32768), .int .i64 32767] w fun e w' => e = .returned (.bool true) ∧ w' = w) := by
    have := rwithin_g (-32768) 32767 a 72 cap X (by omega) w h
    rwa [(allIn_iff (-32768) 32767 X 72).2 hX] at this
  have K1 := hid (rfold_yes 64 72 (.inr rfl) rfl a cap X (fun i hi => by have := hX i hi; omega) w h)
  have HF := hid (fold_fit (n := 64) (.inr rfl) hX)
  clear h hX
  go_enter Tryd.func21, Tryd.ntmps21
  go_wp2_with (go_at_call 29; (with_reducible refine K0.out.mono ?_); rintro e w1 ⟨rfl, rfl⟩)
  refine Calls.mono K1.out ?_
  rintro e w2 ⟨a2, c2, rfl, i2, b2, _⟩
  have K2 := hid (rfast_yes blk64 a2 c2 (wFoldF 64 X) (fun i hi => by have := HF.out i hi; omega) w2 i2)
  have B2 := hid b2
  clear i2 b2 K0 K1
  go_wp2_with (fail)
  refine Calls.mono K2.out ?_
  rintro e w3 ⟨r, rfl, hr, h3, b3⟩
  have H3 := hid (And.intro hr (And.intro h3 b3))
  clear hr h3 b3 K2
  go_wp2
  go_ret
  exact ⟨r, rfl, Nat.le_trans B2.out.size H3.out.1, H3.out.2.1, below_then B2.out H3.out.2.2⟩
theorem rtake_short (a : Option Addr) (cap : Nat) (X : Nat → Int) (hX : Fit15 X 72) (w : World) (h : IsInts w a 72 cap X) :
    Calls Tryd.prog 21 #[.slice a 72 cap, .bool true] w (SPost 64 (takeF true X) w) := by
  obtain ⟨i0, hi, hz0, hz1, hz2⟩ := infoL
  have HI : Hid (Tryd.prog.info? 23 = some i0) := hi
  have K0 : Hid (Calls Tryd.prog 29 #[.slice a 72 cap, .int .i64 (-32768), .int .i64 32767] w fun e w' => e = .returned (.bool true) ∧ w' = w) := by
    have := rwithin_g (-32768) 32767 a 72 cap X (by omega) w h
    rwa [(allIn_iff (-32768) 32767 X 72).2 hX] at this
  obtain ⟨b0, off, rfl, hb0, hcap, hcap2, hc⟩ : ∃ b off, a = some ⟨b, off, none⟩ ∧ b < w.heap.size ∧ 72 ≤ cap ∧ cap ≤ maxLen ∧ ∀ i, i < 72 → w.cell? ⟨b, off + i, none⟩ = some (.int .i64 (X i)) := by
    rcases h with h | h
    · omega
    · exact h
  have HS16 : Hid (∀ W, Below w.heap.size w W → ∀ b, b < 8 → IsInts W (some ⟨b0, off + 8 * b, none⟩) 16 (cap - 8 * b) (shortX X b)) := fun W hW b hb => .inr ⟨b0, off + 8 * b, rfl, Nat.lt_of_lt_of_le hb0 hW.size, by omega, by omega, fun i hi => by
    rw [hW.cell (p := ⟨b0, off + 8 * b + i, none⟩) hb0, Nat.add_assoc]
    exact hc (8 * b + i) (by omega)⟩
  have HX := hid hX
  obtain ⟨B, hB⟩ : ∃ B, B = w.heap.size := ⟨_, rfl⟩
  have HB := hid hB
  rw [← hB] at HS16
  clear hi h hB hc hX hb0
  go_enter Tryd.func21, Tryd.ntmps21
  go_wp2_with (go_at_call 29; (with_reducible refine K0.out.mono ?_); rintro e w1 ⟨rfl, rfl⟩)
  go_loopw [5, 6] (fun o i wr => ∃ k : Nat, k ≤ 8 ∧ i = .int .i64 k ∧ Hid (∃ vs, RowsOwn B 8 k o (fun b => fastF 8 2 (wFoldF 8 (shortX X b))) w1 wr vs)) (fun _ i _ => 8 - (intOf i).toNat)
  case atStart => exact ⟨0, by omega, rfl, [], RowsOwn.start HB.out⟩
  case round =>
    obtain ⟨k, hk, rfl, HO⟩ := hrel
    by_cases hlt : k < 8
    · obtain ⟨vs, ho⟩ := HO.out
      have I16 := HS16.out wr ho.bel k hlt
      have F16 : Fit15 (shortX X k) 16 := fun i hi => HX.out _ (by omega)
      have K1 := hid (rfold_yes 8 16 (.inl rfl) rfl _ _ (shortX X k) (fun i hi => by have := F16 i hi; omega) wr I16)
      have HF := hid (fold_fit (n := 8) (.inl rfl) F16)
      have HO1 := hid ho
      obtain ⟨z, hz⟩ : ∃ z, z = 8 * k := ⟨_, rfl⟩
      obtain ⟨y, hy⟩ : ∃ y, y = 8 * k + 16 := ⟨_, rfl⟩
      have x2 : (z : Int) + 16 = (y : Int) := by omega
      have x1 : 8 * (k : Int) = (z : Int) := by omega
      have z1 : z ≤ y := by omega
      have z2 : y ≤ cap := by omega
      have z3 : ¬ (cap = z) := by omega
      have z4 : y - z = 16 := by omega
      rw [← hz] at K1
      clear hz hy
      clear HO ho I16 F16
      go_wp2_with (fail)
      refine Calls.mono K1.out ?_
      rintro e w2 ⟨a2, c2, rfl, i2, b2, _⟩
      have HO2 := hid (HO1.out.tr b2)
      have K2 := hid (rfast_yes blk8 a2 c2 (wFoldF 8 (shortX X k)) (fun i hi => by have := HF.out i hi; omega) w2 i2)
      clear i2 b2 HO1 K1 HF
      go_wp2_with (fail)
      refine Calls.mono K2.out ?_
      rintro e w3 ⟨r3, rfl, hr, h3, b3⟩
      have HO3 := hid (HO2.out.tr b3)
      have I3 := hid (h3.ints (by decide))
      have N3 := hid (HO2.out.apart (a := some ⟨r3, 0, none⟩) (fun x hx => by cases hx; exact hr))
      have HA : Hid ((w3.alloc (.cells #[.slice (some ⟨r3, 0, none⟩) 8 8] 23)).ownsRow B 23 1 u5 k vs) := HO3.out.own.alloc _
      have HS : Hid (B ≤ (w3.alloc (.cells #[.slice (some ⟨r3, 0, none⟩) 8 8] 23)).heap.size) := Nat.le_trans HO3.out.sz (by simp)
      clear hr h3 b3 K2 HO2
      go_wp2_with (at_builtin; refine wpList_append_lies _ rfl _ _ _ rfl B 23 i0 (.slice none 0 0) 1 24 Tryd.underlying24 HI.out hz0 hz1 hz2 rfl (by omega) _ _ _ rfl HA.out ⟨w3.heap.size, 0, none⟩ 1 1 [.slice (some ⟨r3, 0, none⟩) 8 8] rfl rfl (World.news_of_block (cs := #[.slice (some ⟨r3, 0, none⟩) 8 8]) (heap_alloc_new w3 _)) (by intro u hu; simp at hu; subst hu; rfl) (by omega) (by unfold maxLen; omega) (by omega) HS.out _ rfl ?_)
      intro gg cap1 w4 hown hgr hor _
      have HO4 := hid (HO3.out.next (by omega) I3.out N3.out hown hgr hor)
      clear hown hgr hor HA HS HO3 I3 N3
      go_wp2
      exact ⟨⟨k + 1, by omega, by go_num, _, HO4.out⟩, by simp [intOf]; omega⟩
    · obtain rfl : k = 8 := by omega
      obtain ⟨vs, ho⟩ := HO.out
      obtain ⟨a1, c1, rfl, l1⟩ := ho.lists
      have K1 := hid (rlay_yes a1 c1 _ wr l1)
      have HO1 := hid ho
      clear l1 ho HO
      go_wp2_with (fail)
      refine Calls.mono K1.out ?_
      rintro e w3 ⟨r, rfl, hr, h3, b3⟩
      have H3 := hid (And.intro hr (And.intro h3 b3))
      clear hr h3 b3 K1
      go_wp2
      go_ret
      refine ⟨r, rfl, Nat.le_trans (by rw [← HB.out]; exact HO1.out.sz) H3.out.1, H3.out.2.1, ?_⟩
      rw [← HB.out]
      exact HO1.out.bel.trans (H3.out.2.2.mono HO1.out.sz)
end Go.Proofs.YtfhcfdepjhdhfaaDoor
