/-
  The contract of fft.merge: a stage.
-/
import Derived.Test.YtgkjjkdjalbfaaaDoorFC
import Derived.Test.YtgkjjkdjalbfaaaDoorCT
import Derived.BigQuiet
import Derived.Deep.RegionHeld3
namespace Go.Proofs.YtgkjjkdjalbfaaaDoor
open Go.ChangeShapes Go.WideShapes Go.ChangeAt Go.RowKit
set_option linter.unusedVariables false

/-- A stage behind p pairs and k places of the next one. -/
def mg (s p k : Nat) (F : Nat → P2) (x : Nat) : P2 := if x / (2 * 2 ^ s) < p ∨ (x / (2 * 2 ^ s) = p ∧ x % 2 ^ s < k) then bfly (2 ^ s) s F x else F x
theorem six {s : Nat} (h : s ≤ 5) : s = 0 ∨ s = 1 ∨ s = 2 ∨ s = 3 ∨ s = 4 ∨ s = 5 := by omega
theorem mg_even {s p k : Nat} (hs : s ≤ 5) (hk : k < 2 ^ s) (F : Nat → P2) : mg s p k F (p * (2 * 2 ^ s) + k) = F (p * (2 * 2 ^ s) + k) := by
  refine if_neg ?_
  rcases six hs with rfl | rfl | rfl | rfl | rfl | rfl <;> simp only [Nat.reducePow, Nat.reduceMul] at * <;> omega
theorem mg_odd {s p k : Nat} (hs : s ≤ 5) (hk : k < 2 ^ s) (F : Nat → P2) : mg s p k F (p * (2 * 2 ^ s) + k + 2 ^ s) = F (p * (2 * 2 ^ s) + k + 2 ^ s) := by
  refine if_neg ?_
  rcases six hs with rfl | rfl | rfl | rfl | rfl | rfl <;> simp only [Nat.reducePow, Nat.reduceMul] at * <;> omega
theorem mg_iff {s p k x : Nat} (hs : s ≤ 5) (hk : k < 2 ^ s) : (x / (2 * 2 ^ s) < p ∨ (x / (2 * 2 ^ s) = p ∧ x % 2 ^ s < k + 1)) ↔
    ((x / (2 * 2 ^ s) < p ∨ (x / (2 * 2 ^ s) = p ∧ x % 2 ^ s < k)) ∨ x = p * (2 * 2 ^ s) + k ∨ x = p * (2 * 2 ^ s) + k + 2 ^ s) := by
  rcases six hs with rfl | rfl | rfl | rfl | rfl | rfl <;> simp only [Nat.reducePow, Nat.reduceMul] at * <;> omega
theorem mg_mod {s p k : Nat} (hs : s ≤ 5) (hk : k < 2 ^ s) : (p * (2 * 2 ^ s) + k) % (2 * 2 ^ s) = k ∧ (p * (2 * 2 ^ s) + k + 2 ^ s) % (2 * 2 ^ s) = k + 2 ^ s := by
  rcases six hs with rfl | rfl | rfl | rfl | rfl | rfl <;> simp only [Nat.reducePow, Nat.reduceMul] at * <;> omega
theorem mg_step {s p k : Nat} (hs : s ≤ 5) (hk : k < 2 ^ s) (F : Nat → P2) (x : Nat) : mg s p (k + 1) F x =
    if x = p * (2 * 2 ^ s) + k + 2 ^ s then subP (F (p * (2 * 2 ^ s) + k)) (twd (F (p * (2 * 2 ^ s) + k + 2 ^ s)) (ang s k))
    else if x = p * (2 * 2 ^ s) + k then addP (F (p * (2 * 2 ^ s) + k)) (twd (F (p * (2 * 2 ^ s) + k + 2 ^ s)) (ang s k)) else mg s p k F x := by
  obtain ⟨m1, m2⟩ := mg_mod (p := p) hs hk
  have hi := mg_iff (p := p) (x := x) hs hk
  by_cases e1 : x = p * (2 * 2 ^ s) + k + 2 ^ s
  · rw [if_pos e1, mg, if_pos (hi.2 (.inr (.inr e1))), bfly, e1, m2, if_neg (by omega), Nat.add_sub_cancel, Nat.add_sub_cancel]
  · rw [if_neg e1]
    by_cases e2 : x = p * (2 * 2 ^ s) + k
    · rw [if_pos e2, mg, if_pos (hi.2 (.inr (.inl e2))), bfly, e2, m1, if_pos hk]
    · rw [if_neg e2, mg, mg]
      by_cases c : x / (2 * 2 ^ s) < p ∨ (x / (2 * 2 ^ s) = p ∧ x % 2 ^ s < k)
      · rw [if_pos c, if_pos (hi.2 (.inl c))]
      · rw [if_neg c, if_neg (fun h => (hi.1 h).elim c (fun h => h.elim e2 e1))]
theorem mg_next (s p : Nat) (F : Nat → P2) (x : Nat) : mg s p (2 ^ s) F x = mg s (p + 1) 0 F x := by
  have hm : x % 2 ^ s < 2 ^ s := Nat.mod_lt _ (Nat.two_pow_pos s)
  rw [mg, mg]
  by_cases c : x / (2 * 2 ^ s) < p + 1
  · rw [if_pos (by omega), if_pos (.inl c)]
  · rw [if_neg (by omega), if_neg (by omega)]
theorem mg_zero (s : Nat) (F : Nat → P2) (x : Nat) : mg s 0 0 F x = F x := if_neg (fun h => h.elim (Nat.not_lt_zero _) (fun h => Nat.not_lt_zero _ h.2))
theorem mg_all {s m : Nat} (hm : m ≤ 6) (hs : s < m) (F : Nat → P2) (x : Nat) (hx : x < 2 ^ m) : mg s (2 ^ m / (2 * 2 ^ s)) 0 F x = bfly (2 ^ s) s F x := by
  refine if_pos (.inl ?_)
  rw [← Nat.pow_succ'] at *
  have h : 2 ^ m = 2 ^ (s + 1) * 2 ^ (m - (s + 1)) := by rw [← Nat.pow_add]; congr 1; omega
  rw [h, Nat.mul_div_cancel_left _ (Nat.two_pow_pos _)]
  rw [h] at hx
  exact Nat.div_lt_of_lt_mul hx
theorem tdiv512 {s : Nat} (h : s ≤ 5) : (512 : Int).tdiv (2 * ((2 ^ s : Nat) : Int)) = ((2 ^ (8 - s) : Nat) : Int) := by
  rcases six h with rfl | rfl | rfl | rfl | rfl | rfl <;> rfl
theorem ang_le {s k : Nat} (h : s ≤ 5) (hk : k < 2 ^ s) : 2 ^ (8 - s) ≤ 256 ∧ 2 ^ (8 - s) * k ≤ 256 := by
  rcases six h with rfl | rfl | rfl | rfl | rfl | rfl <;> simp only [Nat.reducePow, Nat.reduceSub] at * <;> omega
theorem mround {s p k n h P : Nat} {F : Nat → P2} (hs : s ≤ 5) (hh : h = 2 ^ s) (hP : P * (2 * h) ≤ n) (hp : p < P) (hk : k < h) (hn : n ≤ 64) :
    ∃ (b ev o c : Nat) (th : Int), wrap64 ((p : Int) * (2 * (h : Int))) = (b : Int) ∧ wrap64 ((b : Int) + (k : Int)) = (ev : Int) ∧ wrap64 ((ev : Int) + (h : Int)) = (o : Int) ∧ (ev : Int) + (h : Int) = (o : Int) ∧
      (512 : Int).tdiv (2 * (h : Int)) = (c : Int) ∧ wrap64 (c : Int) = (c : Int) ∧ wrap64 ((c : Int) * (k : Int)) = th ∧ ev < n ∧ o < n ∧ ev ≠ o ∧ 0 ≤ th ∧ th ≤ 256 ∧
      Hid (mg s p k F ev = F ev) ∧ Hid (mg s p k F o = F o) ∧
      Hid (∀ x, mg s p (k + 1) F x = if x = o then subP (F ev) (twd (F o) th) else if x = ev then addP (F ev) (twd (F o) th) else mg s p k F x) := by
  have hn' : p * (2 * h) + k + h < n := by
    have h1 : (p + 1) * (2 * h) ≤ P * (2 * h) := Nat.mul_le_mul_right _ (by omega)
    rw [Nat.add_mul] at h1
    omega
  have hk' : k < 2 ^ s := by rw [← hh]; exact hk
  obtain ⟨al1, al2⟩ := ang_le hs hk'
  have c0 : (p : Int) * (2 * (h : Int)) = ((p * (2 * h) : Nat) : Int) := by simp
  have c1 : ((2 ^ (8 - s) : Nat) : Int) * (k : Int) = ((2 ^ (8 - s) * k : Nat) : Int) := by rw [Int.natCast_mul]
  have ha : ang s k = ((2 ^ (8 - s) * k : Nat) : Int) := rfl
  refine ⟨p * (2 * h), p * (2 * h) + k, p * (2 * h) + k + h, 2 ^ (8 - s), ang s k, ?_, ?_, ?_, ?_, ?_, ?_, ?_, ?_, ?_, ?_, ?_, ?_, ?_, ?_, ?_⟩
  · rw [c0]; generalize p * (2 * h) = z at *; unfold wrap64; omega
  · generalize p * (2 * h) = z at *; unfold wrap64; omega
  · generalize p * (2 * h) = z at *; unfold wrap64; omega
  · omega
  · rw [hh]; exact tdiv512 hs
  · generalize 2 ^ (8 - s) = z at *; unfold wrap64; omega
  · rw [c1, ha]; generalize 2 ^ (8 - s) * k = z at *; unfold wrap64; omega
  · omega
  · omega
  · omega
  · rw [ha]; omega
  · rw [ha]; omega
  · show _ = _; subst hh; exact mg_even hs hk F
  · show _ = _; subst hh; exact mg_odd hs hk F
  · show ∀ x, _ = _; subst hh; exact mg_step hs hk F
abbrev fst (F : Nat → P2) : Nat → Int := fun x => (F x).1
abbrev snd (F : Nat → P2) : Nat → Int := fun x => (F x).2
set_option maxRecDepth 100000 in
set_option maxHeartbeats 1000000 in
theorem merge_any {m s : Nat} (hm : m ≤ 6) (hs : s < m) (B r q t n h : Nat) (hn : n = 2 ^ m) (hh : h = 2 ^ s) (F : Nat → P2) (bd : ∀ x, Bd 764411904 (F x)) (w : World) (ht : Tab t w) (htB : t < B)
    (hw : Two B r q n (fst F) (snd F) w w) :
    Calls Tryd.prog 40 #[.pointer (some ⟨t, 0, none⟩), .slice (some ⟨r, 0, none⟩) n n, .slice (some ⟨q, 0, none⟩) n n, .int .i64 h] w fun e w' => e = .returned (.tuple #[]) ∧ Two B r q n (fst (bfly (2 ^ s) s F)) (snd (bfly (2 ^ s) s F)) w w' := by
  have H64 : n ≤ 64 := by rw [hn]; exact Nat.pow_le_pow_right (by omega) (show m ≤ 6 from hm)
  have h32 : h ≤ 32 := by rw [hh]; exact Nat.pow_le_pow_right (n := 2) (by omega) (show s ≤ 5 by omega)
  have h1 : 1 ≤ h := by rw [hh]; exact Nat.two_pow_pos s
  have hz : (2 * (h : Int) == 0) = false := by simp; omega
  have hP : (n : Int).tdiv (2 * (h : Int)) = ((n / (2 * h) : Nat) : Int) := by rw [show (2 * (h : Int)) = ((2 * h : Nat) : Int) by simp, Int.ofNat_tdiv]
  have hP64 : n / (2 * h) ≤ 64 := Nat.le_trans (Nat.div_le_self _ _) H64
  have hs5 : s ≤ 5 := by omega
  have HN : Hid (n = 2 ^ m) := hn
  have HH : Hid (h = 2 ^ s) := hh
  have HPE : Hid (n / (2 * h) = 2 ^ m / (2 * 2 ^ s)) := by show _ = _; rw [hn, hh]
  have HW0 : Hid (Two B r q n (fst (mg s 0 0 F)) (snd (mg s 0 0 F)) w w) := hw.congr (fun i _ => by show _ = (mg s 0 0 F i).1; rw [mg_zero]) (fun i _ => by show _ = (mg s 0 0 F i).2; rw [mg_zero])
  have HPn : Hid (n / (2 * h) * (2 * h) ≤ n) := Nat.div_mul_le_self _ _
  have HT : Hid (∀ W, Below B w W → Tab t W) := fun W hb => ht.below htB hb
  clear hn hh hw ht htB
  generalize n / (2 * h) = P at *
  go_enter Tryd.func40, Tryd.ntmps40
  go_wp2
  go_loopw [21] (fun i wr => ∃ p : Nat, p ≤ P ∧ i = .int .i64 p ∧ Hid (Two B r q n (fst (mg s p 0 F)) (snd (mg s p 0 F)) w wr)) (fun i _ => P - (intOf i).toNat)
  case atStart => exact ⟨0, Nat.zero_le _, rfl, HW0⟩
  case round =>
    clear HW0
    obtain ⟨p, hp, rfl, HW⟩ := hrel
    by_cases hlt : p < P
    · go_wp2
      go_loopw [25] (fun i wr => ∃ k : Nat, k ≤ h ∧ i = .int .i64 k ∧ Hid (Two B r q n (fst (mg s p k F)) (snd (mg s p k F)) w wr)) (fun i _ => h - (intOf i).toNat)
      case atStart => exact ⟨0, Nat.zero_le _, rfl, HW⟩
      case round =>
        clear HW
        obtain ⟨k, hk, rfl, HW⟩ := hrel
        by_cases hlt2 : k < h
        · obtain ⟨b, ev, o, c, th, e0, e1, e2, e5, e3, e6, e4, hev, ho, hee, th0, th1, HE, HO, HF⟩ := mround (F := F) hs5 HH.out HPn.out hlt hlt2 H64
          have b1 := bd ev
          have b2 := bd o
          have b3 := b2.twd th
          have ca : ∀ W, Below wr.heap.size wr W → W.cell? ⟨r, o, none⟩ = some (.int .i64 (F o).1) := fun W hq => by
            rw [(HW.out.below hq).a.get (by omega)]; show some (Value.int _ (mg s p k F o).1) = _; rw [HO.out]
          have cb : ∀ W, Below wr.heap.size wr W → W.cell? ⟨q, o, none⟩ = some (.int .i64 (F o).2) := fun W hq => by
            rw [(HW.out.below hq).b.get (by omega)]; show some (Value.int _ (mg s p k F o).2) = _; rw [HO.out]
          have HC : Hid (∀ W, Below wr.heap.size wr W → Calls Tryd.prog 34 #[.pointer (some ⟨t, 0, none⟩), .int .i64 (F o).1, .int .i64 (F o).2, .int .i64 th] W fun e w' => e = .returned (.tuple #[.int .i64 (twd (F o) th).1, .int .i64 (twd (F o) th).2]) ∧ Below wr.heap.size wr w') := fun W hq => by
            have hT : Tab t W := HT.out _ (HW.out.below hq).bel
            refine (turn_yes t (F o).1 (F o).2 th (by omega) (by obtain ⟨z1, z2⟩ := b2; omega) (by obtain ⟨z1, z2⟩ := b2; omega) W hT).mono ?_
            rintro e w2 ⟨he, hb⟩
            have hb2 := below_then hq hb
            exact ⟨he, hb2⟩
          have ho1 : 0 ≤ (o : Int) := by omega
          have ho2 : (o : Int) < (n : Int) := by omega
          generalize hX : twd (F o) th = xy at *
          obtain ⟨⟨x1, x2⟩, ⟨x3, x4⟩⟩ := b1
          obtain ⟨⟨y1, y2⟩, ⟨y3, y4⟩⟩ := b3
          clear b2
          go_wp2
          simp only [e0, e1]
          refine region_below (by kernel_rfl) (by kernel_rfl) ?_
          repeat (go_big_quiet_step (first
            | (intro hq; rfl)
            | (intro hq; rw [ca _ hq]; exact ⟨rfl, rfl⟩)
            | (intro hq; rw [cb _ hq]; exact ⟨rfl, rfl⟩)
            | (intro hq; go_at_call 34; exact HC.out _ hq)))
          refine wpQuiet_nil ?_
          intro w1 hq
          have HW1 := HW.out.below hq
          have g1 : w1.cell? ⟨r, ev, none⟩ = some (.int .i64 (F ev).1) := by
            rw [HW1.a.get hev]; show some (Value.int _ (mg s p k F ev).1) = _; rw [HE.out]
          have g2 : w1.cell? ⟨q, ev, none⟩ = some (.int .i64 (F ev).2) := by
            rw [HW1.b.get hev]; show some (Value.int _ (mg s p k F ev).2) = _; rw [HE.out]
          obtain ⟨v1, g3⟩ : ∃ v, w1.cell? ⟨r, o, none⟩ = some v := ⟨_, HW1.a.get ho⟩
          obtain ⟨v2, g4⟩ : ∃ v, w1.cell? ⟨q, o, none⟩ = some v := ⟨_, HW1.b.get ho⟩
          have f1 := IsAt.frozen HW1.a ev
          have f2 := IsAt.frozen HW1.a o
          have f3 := IsAt.frozen HW1.b ev
          have f4 := IsAt.frozen HW1.b o
          have HW2 : Hid _ := HW1
          clear HW1 HW HC ca cb hq
          go_wp2
          go_region
          have HW3 := ((HW2.out.setA hev ((F ev).1 + xy.1)).setA ho ((F ev).1 - xy.1)).drew
          generalize ((w1.setCell ⟨r, ev, none⟩ (.int .i64 ((F ev).1 + xy.1))).setCell ⟨r, o, none⟩ (.int .i64 ((F ev).1 - xy.1))).drew = W2 at HW3 ⊢
          clear g1 g2 g3 g4 f1 f2 f3 f4 HW2
          have g2 : W2.cell? ⟨q, ev, none⟩ = some (.int .i64 (F ev).2) := by
            rw [HW3.b.get hev]; show some (Value.int _ (mg s p k F ev).2) = _; rw [HE.out]
          obtain ⟨v3, g4⟩ : ∃ v, W2.cell? ⟨q, o, none⟩ = some v := ⟨_, HW3.b.get ho⟩
          have f3 := IsAt.frozen HW3.b ev
          have f4 := IsAt.frozen HW3.b o
          have HW4 : Hid _ := HW3
          clear HW3
          go_wp2
          go_region
          have HW5 := (((HW4.out.setB hev ((F ev).2 + xy.2)).setB ho ((F ev).2 - xy.2)).drew).congr
            (fun i hi => show upd (upd (fst (mg s p k F)) ev ((F ev).1 + xy.1)) o ((F ev).1 - xy.1) i = (mg s p (k + 1) F i).1 by
              rw [HF.out i]; unfold upd; by_cases u1 : i = o
              · rw [if_pos u1, if_pos u1]; rfl
              · rw [if_neg u1, if_neg u1]; by_cases u2 : i = ev
                · rw [if_pos u2, if_pos u2]; rfl
                · rw [if_neg u2, if_neg u2])
            (fun i hi => show upd (upd (snd (mg s p k F)) ev ((F ev).2 + xy.2)) o ((F ev).2 - xy.2) i = (mg s p (k + 1) F i).2 by
              rw [HF.out i]; unfold upd; by_cases u1 : i = o
              · rw [if_pos u1, if_pos u1]; rfl
              · rw [if_neg u1, if_neg u1]; by_cases u2 : i = ev
                · rw [if_pos u2, if_pos u2]; rfl
                · rw [if_neg u2, if_neg u2])
          go_wp2
          refine ⟨⟨k + 1, by omega, by go_num, HW5⟩, by simp [intOf]; omega⟩
        · have HK : Hid (k = h) := by show _ = _; omega
          clear bd hP
          go_wp2
          refine ⟨⟨p + 1, by omega, by go_num, HW.out.congr (fun i hi => ?_) (fun i hi => ?_)⟩, by simp [intOf]; omega⟩
          · show (mg s p k F i).1 = (mg s (p + 1) 0 F i).1; rw [HK.out, HH.out, mg_next]
          · show (mg s p k F i).2 = (mg s (p + 1) 0 F i).2; rw [HK.out, HH.out, mg_next]
    · obtain rfl : p = P := by omega
      go_wp2
      go_end0
      refine ⟨rfl, HW.out.congr (fun i hi => ?_) (fun i hi => ?_)⟩
      · show (mg s p 0 F i).1 = (bfly (2 ^ s) s F i).1; rw [HPE.out, mg_all hm hs F i (by rw [← HN.out]; exact hi)]
      · show (mg s p 0 F i).2 = (bfly (2 ^ s) s F i).2; rw [HPE.out, mg_all hm hs F i (by rw [← HN.out]; exact hi)]
end Go.Proofs.YtgkjjkdjalbfaaaDoor
