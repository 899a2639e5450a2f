/-
  The document's Pick, Spectra and Blocks.
-/
import Derived.Test.YtfhcfdepjhdhfaaDoorZC
import Derived.Test.YtfhcfdepjhdhfaaDoorZJ
namespace Go.Proofs.YtfhcfdepjhdhfaaDoor
open Go.ChangeShapes Go.WideShapes Go.ChangeAt Go.RowKit
set_option linter.unusedVariables false

/-- The eight of the short block b. -/
def pickF (b : Nat) (X : Nat → Int) (k : Nat) : Int := X (8 * k + b)
theorem rpick_yes (b : Nat) (hb : b < 8) (a : Option Addr) (cap : Nat) (X : Nat → Int) (w : World) (h : IsInts w a 64 cap X) :
    Calls Tryd.prog 15 #[.slice a 64 cap, .int .i64 (b : Int)] w (OPost 8 (pickF b X) w) := by
  obtain ⟨i0, hi, hz0, hz1, hz2⟩ := infoI
  have HI : Hid (Tryd.prog.info? 3 = some i0) := hi
  obtain ⟨b0, off, rfl, hc⟩ := h.cells (by omega)
  have HC := hid hc
  obtain ⟨B, hB⟩ : ∃ B, B = w.heap.size := ⟨_, rfl⟩
  rw [← hB] at HC
  have HB := hid hB
  have hd1 : ¬ ((b : Int) < 0) := by omega
  have hd2 : ¬ (7 < (b : Int)) := by omega
  clear hi h hc hB
  go_enter Tryd.func15, Tryd.ntmps15
  go_wp2
  go_loopw [5, 6] (fun o i wr => ∃ k : Nat, k ≤ 8 ∧ i = .int .i64 k ∧ Hid (wr.ownsRow B 3 1 o k (intL k (pickF b X))) ∧ Hid (Below B w wr) ∧ Hid (B ≤ wr.heap.size)) (fun _ i _ => 8 - (intOf i).toNat)
  case atStart => exact ⟨0, by omega, rfl, World.ownsRow_nil _ _ _ _, by rw [HB.out]; exact Below.refl _ _, by rw [HB.out]; exact Nat.le_refl _⟩
  case round =>
    obtain ⟨k, hk, rfl, HO, HW, HZ⟩ := hrel
    by_cases hlt : k < 8
    · have hck := HC.out _ HW.out (8 * k + b) (by omega)
      obtain ⟨c, hcc⟩ : ∃ c, c = pickF b X k := ⟨_, rfl⟩
      rw [show X (8 * k + b) = c from hcc.symm] at hck
      have HCC := hid hcc
      have hix : 8 * (k : Int) + (b : Int) = ((8 * k + b : Nat) : Int) := by omega
      have h64 : 8 * k + b < 64 := by omega
      clear hcc
      generalize 8 * k + b = z at *
      have HA : Hid ((wr.alloc (.cells #[.int .i64 c] 3)).ownsRow B 3 1 u5 k (intL k (pickF b X))) := HO.out.alloc _
      have HS : Hid (B ≤ (wr.alloc (.cells #[.int .i64 c] 3)).heap.size) := Nat.le_trans HZ.out (by simp)
      go_wp2_with (at_builtin; refine wpList_append_lies _ rfl _ _ _ rfl B 3 i0 (.int .i64 0) 1 8 Tryd.underlying23 HI.out hz0 hz1 hz2 rfl (by omega) _ _ _ rfl HA.out ⟨wr.heap.size, 0, none⟩ 1 1 [.int .i64 c] rfl rfl (World.news_of_block (cs := #[.int .i64 c]) (heap_alloc_new wr _)) (by intro u hu; simp at hu; subst hu; rfl) (by omega) (by unfold maxLen; omega) (by omega) HS.out _ rfl ?_)
      intro gg cap1 w4 hown hgr _ _
      obtain ⟨o1, o2, o3⟩ := oi_step HO.out HW.out HZ.out HCC.out hown hgr
      have O1 := hid o1
      have O2 := hid o2
      have O3 := hid o3
      clear hown hgr o1 o2 o3 HA HS
      go_wp2
      exact ⟨⟨k + 1, by omega, by go_num, O1, O2, O3⟩, by simp [intOf]; omega⟩
    · obtain rfl : k = 8 := by omega
      obtain ⟨a1, c1, rfl, i1⟩ := own_ints HO.out
      have I1 := hid i1
      clear i1
      go_wp2
      go_ret
      exact ⟨a1, c1, rfl, I1.out, by rw [← HB.out]; exact HW.out, fun x hx => by rw [← HB.out]; exact own_new HO.out x hx⟩
theorem rpick_no (b : Int) (a : Option Addr) (len cap : Nat) (hl : len ≤ maxLen) (h : ¬ (len = 64 ∧ 0 ≤ b ∧ b ≤ 7)) (w : World) :
    Calls Tryd.prog 15 #[.slice a len cap, .int .i64 b] w fun e w' => e = .returned (.slice none 0 0) ∧ w' = w := by
  by_cases h1 : len = 64
  · subst h1
    by_cases h2 : b < 0
    · go_enter Tryd.func15, Tryd.ntmps15
      go_wp2
      go_ret
      exact ⟨rfl, rfl⟩
    · have h3 : 7 < b := by omega
      go_enter Tryd.func15, Tryd.ntmps15
      go_wp2
      go_ret
      exact ⟨rfl, rfl⟩
  · have h1' : ((len : Int) != 64) = true := by
      have : ((len : Int) == 64) = false := by simp; omega
      rw [bne, this]; rfl
    go_enter Tryd.func15, Tryd.ntmps15
    go_wp2
    go_ret
    exact ⟨rfl, rfl⟩
/-- Lists of one's own. -/
def LPost (k n : Nat) (Y : Nat → Nat → Int) (w : World) (e : Ending) (w' : World) : Prop := ∃ a cap, e = .returned (.slice a k cap) ∧ IsLists w' a k cap n Y ∧ Below w.heap.size w w'
/-- New lists, of new lists. -/
def NPost (k n : Nat) (Y : Nat → Nat → Int) (w : World) (e : Ending) (w' : World) : Prop := ∃ a cap, e = .returned (.slice a k cap) ∧ IsListsN w.heap.size w' a k cap n Y ∧ Below w.heap.size w w'
theorem rspectra_short (a : Option Addr) (cap : Nat) (X : Nat → Int) (w : World) (h : IsInts w a 64 cap X) :
    Calls Tryd.prog 17 #[.slice a 64 cap, .bool true] w (LPost 8 8 (fun b => pickF b X) w) := by
  obtain ⟨i0, hi, hz0, hz1, hz2⟩ := infoL
  have HI : Hid (Tryd.prog.info? 23 = some i0) := hi
  have HX := hid h
  obtain ⟨B, hB⟩ : ∃ B, B = w.heap.size := ⟨_, rfl⟩
  have HB := hid hB
  clear hi h hB
  go_enter Tryd.func17, Tryd.ntmps17
  go_wp2
  go_loopw [5, 6] (fun o i wr => ∃ k : Nat, k ≤ 8 ∧ i = .int .i64 k ∧ Hid (∃ vs, RowsOwn B 8 k o (fun b => pickF b X) w wr vs)) (fun _ i _ => 8 - (intOf i).toNat)
  case atStart => exact ⟨0, by omega, rfl, [], RowsOwn.start HB.out⟩
  case round =>
    obtain ⟨k, hk, rfl, HO⟩ := hrel
    by_cases hlt : k < 8
    · obtain ⟨vs, ho⟩ := HO.out
      have K1 := hid (rpick_yes k hlt a cap X wr (HX.out.below (by rw [← HB.out]; exact ho.bel)))
      have HO1 := hid ho
      clear HO ho
      go_wp2_with (fail)
      refine Calls.mono K1.out ?_
      rintro e w3 ⟨a3, c3, rfl, i3, b3, n3⟩
      have HO2 := hid (HO1.out.tr b3)
      have I3 := hid i3
      have N3 := hid (HO1.out.apart n3)
      have HA : Hid ((w3.alloc (.cells #[.slice a3 8 c3] 23)).ownsRow B 23 1 u5 k vs) := HO2.out.own.alloc _
      have HS : Hid (B ≤ (w3.alloc (.cells #[.slice a3 8 c3] 23)).heap.size) := Nat.le_trans HO2.out.sz (by simp)
      clear i3 b3 n3 K1 HO1
      go_wp2_with (at_builtin; refine wpList_append_lies _ rfl _ _ _ rfl B 23 i0 (.slice none 0 0) 1 24 Tryd.underlying24 HI.out hz0 hz1 hz2 rfl (by omega) _ _ _ rfl HA.out ⟨w3.heap.size, 0, none⟩ 1 1 [.slice a3 8 c3] rfl rfl (World.news_of_block (cs := #[.slice a3 8 c3]) (heap_alloc_new w3 _)) (by intro u hu; simp at hu; subst hu; rfl) (by omega) (by unfold maxLen; omega) (by omega) HS.out _ rfl ?_)
      intro gg cap1 w4 hown hgr hor _
      have HO4 := hid (HO2.out.next (by omega) I3.out N3.out hown hgr hor)
      clear hown hgr hor HA HS HO2 I3 N3
      go_wp2
      exact ⟨⟨k + 1, by omega, by go_num, _, HO4.out⟩, by simp [intOf]; omega⟩
    · obtain rfl : k = 8 := by omega
      obtain ⟨vs, ho⟩ := HO.out
      obtain ⟨a1, c1, rfl, l1⟩ := ho.lists
      have L1 := hid l1
      have HW := hid ho.bel
      clear l1 ho HO
      go_wp2
      go_ret
      exact ⟨a1, c1, rfl, L1.out, by rw [← HB.out]; exact HW.out⟩
theorem rblocks_short (a : Option Addr) (cap : Nat) (X : Nat → Int) (hX : ∀ i, i < 64 → -33554432 ≤ X i ∧ X i ≤ 33554432) (w : World) (h : IsInts w a 64 cap X) :
    Calls Tryd.prog 30 #[.slice a 64 cap, .bool true] w (NPost 8 8 (fun b => backF 8 (pickF b X)) w) := by
  obtain ⟨i0, hi, hz0, hz1, hz2⟩ := infoL
  have HI : Hid (Tryd.prog.info? 23 = some i0) := hi
  have HX := hid h
  have HXB := hid hX
  obtain ⟨B, hB⟩ : ∃ B, B = w.heap.size := ⟨_, rfl⟩
  have HB := hid hB
  clear hi h hB hX
  go_enter Tryd.func30, Tryd.ntmps30
  go_wp2
  go_loopw [5, 6] (fun o i wr => ∃ k : Nat, k ≤ 8 ∧ i = .int .i64 k ∧ Hid (∃ vs, RowsOwn B 8 k o (fun b => backF 8 (pickF b X)) w wr vs)) (fun _ i _ => 8 - (intOf i).toNat)
  case atStart => exact ⟨0, by omega, rfl, [], RowsOwn.start HB.out⟩
  case round =>
    obtain ⟨k, hk, rfl, HO⟩ := hrel
    by_cases hlt : k < 8
    · obtain ⟨vs, ho⟩ := HO.out
      have K1 := hid (rpick_yes k hlt a cap X wr (HX.out.below (by rw [← HB.out]; exact ho.bel)))
      have HO1 := hid ho
      clear HO ho
      go_wp2_with (fail)
      refine Calls.mono K1.out ?_
      rintro e w2 ⟨a2, c2, rfl, i2, b2, _⟩
      have HOa := hid (HO1.out.tr b2)
      have K2 := hid (rback_yes (n := 8) (.inl rfl) a2 c2 (pickF k X) (fun i hi => HXB.out _ (by omega)) w2 i2)
      clear K1 HO1 i2 b2
      go_wp2_with (fail)
      refine Calls.mono K2.out ?_
      rintro e w3 ⟨a3, c3, rfl, i3, b3, n3⟩
      have HO2 := hid (HOa.out.tr b3)
      have I3 := hid i3
      have N3 := hid (HOa.out.apart n3)
      have HA : Hid ((w3.alloc (.cells #[.slice a3 8 c3] 23)).ownsRow B 23 1 u5 k vs) := HO2.out.own.alloc _
      have HS : Hid (B ≤ (w3.alloc (.cells #[.slice a3 8 c3] 23)).heap.size) := Nat.le_trans HO2.out.sz (by simp)
      clear i3 b3 n3 K2 HOa
      go_wp2_with (at_builtin; refine wpList_append_lies _ rfl _ _ _ rfl B 23 i0 (.slice none 0 0) 1 24 Tryd.underlying24 HI.out hz0 hz1 hz2 rfl (by omega) _ _ _ rfl HA.out ⟨w3.heap.size, 0, none⟩ 1 1 [.slice a3 8 c3] rfl rfl (World.news_of_block (cs := #[.slice a3 8 c3]) (heap_alloc_new w3 _)) (by intro u hu; simp at hu; subst hu; rfl) (by omega) (by unfold maxLen; omega) (by omega) HS.out _ rfl ?_)
      intro gg cap1 w4 hown hgr hor _
      have HO4 := hid (HO2.out.next (by omega) I3.out N3.out hown hgr hor)
      clear hown hgr hor HA HS HO2 I3 N3
      go_wp2
      exact ⟨⟨k + 1, by omega, by go_num, _, HO4.out⟩, by simp [intOf]; omega⟩
    · obtain rfl : k = 8 := by omega
      obtain ⟨vs, ho⟩ := HO.out
      obtain ⟨a1, c1, rfl, l1⟩ := ho.listsN
      have L1 := hid l1
      have HW := hid ho.bel
      clear l1 ho HO
      go_wp2
      go_ret
      exact ⟨a1, c1, rfl, by rw [← HB.out]; exact L1.out, by rw [← HB.out]; exact HW.out⟩
/-- A list of one list. -/
theorem one_list {n cap : Nat} {a : Option Addr} {X : Nat → Int} {w : World} (h : IsInts w a n cap X) : IsLists (w.alloc (.cells #[.slice a n cap] 23)) (some ⟨w.heap.size, 0, none⟩) 1 1 n (fun _ => X) :=
  .inr ⟨w.heap.size, 0, rfl, by rw [al_size]; omega, Nat.le_refl _, by decide, fun i hi => by
    obtain rfl : i = 0 := by omega
    exact ⟨a, cap, cell_of_row _ _ 0 _ _ _ (al_new w _), h.below ((Below.refl _ w).alloc (Nat.le_refl _) _)⟩⟩
theorem one_listN {B n cap : Nat} {a : Option Addr} {X : Nat → Int} {w : World} (hB : B ≤ w.heap.size) (h : IsInts w a n cap X) (hn : ∀ x, a = some x → B ≤ x.block) : IsListsN B (w.alloc (.cells #[.slice a n cap] 23)) (some ⟨w.heap.size, 0, none⟩) 1 1 n (fun _ => X) :=
  .inr ⟨w.heap.size, 0, rfl, hB, by rw [al_size]; omega, Nat.le_refl _, by decide, fun i hi => by
    obtain rfl : i = 0 := by omega
    exact ⟨a, cap, cell_of_row _ _ 0 _ _ _ (al_new w _), h.below ((Below.refl _ w).alloc (Nat.le_refl _) _), hn⟩⟩
theorem rspectra_long (a : Option Addr) (n cap : Nat) (X : Nat → Int) (w : World) (h : IsInts w a n cap X) :
    Calls Tryd.prog 17 #[.slice a n cap, .bool false] w (LPost 1 n (fun _ => X) w) := by
  have HI := hid (one_list h)
  have HB := hid ((Below.refl _ w).alloc (Nat.le_refl _) (.cells #[.slice a n cap] 23))
  clear h
  go_enter Tryd.func17, Tryd.ntmps17
  go_wp2
  go_ret
  exact ⟨_, _, rfl, HI.out, HB.out⟩
theorem rblocks_long (a : Option Addr) (cap : Nat) (X : Nat → Int) (hX : ∀ i, i < 64 → -33554432 ≤ X i ∧ X i ≤ 33554432) (w : World) (h : IsInts w a 64 cap X) :
    Calls Tryd.prog 30 #[.slice a 64 cap, .bool false] w (NPost 1 64 (fun _ => backF 64 X) w) := by
  have K1 := hid (rback_yes (n := 64) (.inr rfl) a cap X hX w h)
  clear h hX
  go_enter Tryd.func30, Tryd.ntmps30
  go_wp2_with (fail)
  refine Calls.mono K1.out ?_
  rintro e w2 ⟨a2, c2, rfl, i2, b2, n2⟩
  have HI := hid (one_listN (Nat.le_trans (Nat.le_refl _) b2.size) i2 n2)
  have HB := hid (below_then b2 ((Below.refl _ w2).alloc (Nat.le_refl _) (.cells #[.slice a2 64 c2] 23)))
  clear i2 b2 n2 K1
  go_wp2
  go_ret
  exact ⟨_, _, rfl, HI.out, HB.out⟩
end Go.Proofs.YtfhcfdepjhdhfaaDoor
