/-
  The document's Cut.
-/
import Derived.Test.YtmeldmmeaiiflaaDoorLYB
import Derived.Test.YtmeldmmeaiiflaaDoorRV
namespace Go.Proofs.YtmeldmmeaiiflaaDoor
open Go.ChangeShapes Go.WideShapes Go.ChangeAt Go.RowKit
set_option linter.unusedVariables false

/-- The numbers of a band. -/
def cutF (X : Nat → Int) (b i : Nat) : Int := X (begN b + i)
theorem rcut_yes (a : Option Addr) (cap : Nat) (X : Nat → Int) (w : World) (h : IsInts w a 64 cap X) :
    Calls Tryd.prog 14 #[.slice a 64 cap] w fun e w' => ∃ a' cap', e = .returned (.slice a' 13 cap') ∧ IsListsV w' a' 13 cap' widN (cutF X) ∧ Below w.heap.size w w' := by
  obtain ⟨i0, hi, hz0, hz1, hz2⟩ := infoL
  have HI : Hid (Tryd.prog.info? 22 = some i0) := hi
  obtain ⟨b0, off, rfl, hb0, hcap, hcap2, hc⟩ : ∃ b off, a = some ⟨b, off, none⟩ ∧ b < w.heap.size ∧ 64 ≤ cap ∧ cap ≤ maxLen ∧ ∀ i, i < 64 → w.cell? ⟨b, off + i, none⟩ = some (.int .i64 (X i)) := by
    rcases h with h | h
    · omega
    · exact h
  have HS : Hid (∀ W, Below w.heap.size w W → ∀ b, b < 13 → IsInts W (some ⟨b0, off + begN b, none⟩) (widN b) (cap - begN b) (cutF X b)) := fun W hW b hb => by
    have h64 := begN_in hb
    refine .inr ⟨b0, off + begN b, rfl, Nat.lt_of_lt_of_le hb0 hW.size, by omega, by omega, fun i hi => ?_⟩
    rw [hW.cell (p := ⟨b0, off + begN b + i, none⟩) hb0, Nat.add_assoc]
    exact hc (begN b + i) (by omega)
  have HB0 := hid hb0
  obtain ⟨B, hB⟩ : ∃ B, B = w.heap.size := ⟨_, rfl⟩
  have HB := hid hB
  rw [← hB] at HS HB0
  clear h hi hB hb0 hc
  go_enter Tryd.func14, Tryd.ntmps14
  go_wp2
  go_loopw [3, 4] (fun o i wr => ∃ k : Nat, k ≤ 13 ∧ i = .int .i64 k ∧ Hid (∃ vs, RowsV B widN k o (cutF X) w wr vs)) (fun _ i _ => 13 - (intOf i).toNat)
  case atStart => exact ⟨0, by omega, rfl, [], RowsV.start HB.out⟩
  case round =>
    obtain ⟨k, hk, rfl, HO⟩ := hrel
    by_cases hlt : k < 13
    · obtain ⟨vs, ho⟩ := HO.out
      have HO1 := hid ho
      have KW := hid (rwidth_nat (b := k) hlt)
      have KS := hid (rstart_nat (b := k) hlt)
      have h64 := begN_in hlt
      have hw := widN_in k
      have HI3 := hid (HS.out wr ho.bel k hlt)
      have HW1 := hid (fun (i : Nat) (_ : i < k) => Nat.le_trans (show 1 ≤ 2 by omega) (widN_in i).1)
      have HW2 := hid (show 1 ≤ widN k by omega)
      have HA := fun c => ho.own.alloc (.cells #[.slice (some ⟨b0, off + begN k, none⟩) (widN k) c] 22)
      have HAA : Hid ((wr.alloc (.cells #[.slice (some ⟨b0, off + begN k, none⟩) (widN k) (cap - begN k)] 22)).ownsRow B 22 1 u3 k vs) := ho.own.alloc _
      have HZ : Hid (B ≤ (wr.alloc (.cells #[.slice (some ⟨b0, off + begN k, none⟩) (widN k) (cap - begN k)] 22)).heap.size) := Nat.le_trans ho.sz (by simp)
      have HNX : Hid (∀ g cap1 w4, w4.ownsRow B 22 1 (.slice (some ⟨g, 0, none⟩) (k + 1) cap1) (k + 1) (vs ++ [.slice (some ⟨b0, off + begN k, none⟩) (widN k) (cap - begN k)]) → (wr.alloc (.cells #[.slice (some ⟨b0, off + begN k, none⟩) (widN k) (cap - begN k)] 22)).grownBy w4 u3.ownBlock → (u3.ownBlock = some g ∨ g = wr.heap.size + 1) → RowsV B widN (k + 1) (.slice (some ⟨g, 0, none⟩) (k + 1) cap1) (cutF X) w w4 (vs ++ [.slice (some ⟨b0, off + begN k, none⟩) (widN k) (cap - begN k)])) := fun g cap1 w4 h1 h2 h3 =>
        ho.next HW2.out HW1.out HI3.out (ho.old (fun x e => by cases e; exact HB0.out)) h1 h2 h3
      generalize widN k = x at KW h64 hw HAA HZ HNX
      generalize begN k = y at KS h64 HAA HZ HNX
      obtain ⟨z, hz⟩ : ∃ z, z = y + x := ⟨_, rfl⟩
      have x1 : (y : Int) + (x : Int) = (z : Int) := by omega
      have x2 : y ≤ z := by omega
      have x3 : z ≤ cap := by omega
      have x4 : ¬ (cap = y) := by omega
      have x5 : z - y = x := by omega
      have x6 : z ≤ 64 := by omega
      clear ho HO HA hz HW1 HW2 HI3 HO1 h64 hw
      go_wp2_with (first
        | (go_at_call 7; (with_reducible refine (KW.out _).mono ?_); rintro e w1 ⟨rfl, rfl⟩)
        | (go_at_call 9; (with_reducible refine (KS.out _).mono ?_); rintro e w1 ⟨rfl, rfl⟩)
        | (at_builtin; refine wpList_append_lies _ rfl _ _ _ rfl B 22 i0 (.slice none 0 0) 1 24 Tryd.underlying23 HI.out hz0 hz1 hz2 rfl (by omega) _ _ _ rfl HAA.out ⟨w1.heap.size, 0, none⟩ 1 1 [.slice (some ⟨b0, off + y, none⟩) x (cap - y)] rfl rfl (World.news_of_block (cs := #[.slice (some ⟨b0, off + y, none⟩) x (cap - y)]) (heap_alloc_new w1 _)) (by intro u hu; simp at hu; subst hu; rfl) (by omega) (by unfold maxLen; omega) (by omega) HZ.out _ rfl ?_))
      intro gg cap1 w4 hown hgr hor _
      have HO4 := hid (HNX.out gg cap1 w4 hown hgr hor)
      clear hown hgr hor HAA HZ HNX
      go_wp2
      exact ⟨⟨k + 1, by omega, by go_num, _, HO4.out⟩, by simp [intOf]; omega⟩
    · obtain rfl : k = 13 := by omega
      obtain ⟨vs, ho⟩ := HO.out
      obtain ⟨a1, c1, rfl, l1⟩ := ho.lists
      have L1 := hid l1
      have HW := hid ho.bel
      clear l1 ho HO
      go_wp2
      go_ret
      exact ⟨a1, c1, rfl, L1.out, by rw [← HB.out]; exact HW.out⟩
theorem rcut_no (a : Option Addr) (len cap : Nat) (hl : len ≤ maxLen) (h : len ≠ 64) (w : World) :
    Calls Tryd.prog 14 #[.slice a len cap] w fun e w' => e = .returned (.slice none 0 0) ∧ w' = w := by
  have h1' : ((len : Int) != 64) = true := by
    have : ((len : Int) == 64) = false := by simp; omega
    rw [bne, this]; rfl
  unfold maxLen at hl
  go_enter Tryd.func14, Tryd.ntmps14
  go_wp2
  go_ret
  exact ⟨rfl, rfl⟩
end Go.Proofs.YtmeldmmeaiiflaaDoor
