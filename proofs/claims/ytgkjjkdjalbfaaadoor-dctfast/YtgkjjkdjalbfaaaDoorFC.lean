/-
  Lists of ints of one's own in the heap; the contract of fft.turnPlaces.
-/
import Derived.Test.YtgkjjkdjalbfaaaDoorFB
import Derived.Test.YtgkjjkdjalbfaaaDoorB
import Derived.BigRegion
namespace Go.Proofs.YtgkjjkdjalbfaaaDoor
open Go.ChangeShapes Go.WideShapes Go.ChangeAt Go.RowKit
set_option linter.unusedVariables false

/-- Two lists of one's own, those that X and Y tell; all that was there at first is as it was. -/
structure Two (B r q n : Nat) (X Y : Nat → Int) (w0 w : World) : Prop where
  rB : B ≤ r
  qB : B ≤ q
  ne : r ≠ q
  a : RowAt r n X w
  b : RowAt q n Y w
  bel : Below B w0 w
theorem Two.congr {B r q n : Nat} {X Y X' Y' : Nat → Int} {w0 w : World} (h : Two B r q n X Y w0 w) (e1 : ∀ i, i < n → X i = X' i) (e2 : ∀ i, i < n → Y i = Y' i) : Two B r q n X' Y' w0 w :=
  ⟨h.rB, h.qB, h.ne, h.a.congr e1, h.b.congr e2, h.bel⟩
theorem Two.setA {B r q n : Nat} {X Y : Nat → Int} {w0 w : World} (h : Two B r q n X Y w0 w) {j : Nat} (hj : j < n) (v : Int) : Two B r q n (upd X j v) Y w0 (w.setCell ⟨r, j, none⟩ (.int .i64 v)) :=
  ⟨h.rB, h.qB, h.ne, h.a.set hj v, IsAt.other h.b (fun e => h.ne e.symm) _, h.bel.setCell (show B ≤ (Addr.mk r j none).block from h.rB) _⟩
theorem Two.setB {B r q n : Nat} {X Y : Nat → Int} {w0 w : World} (h : Two B r q n X Y w0 w) {j : Nat} (hj : j < n) (v : Int) : Two B r q n X (upd Y j v) w0 (w.setCell ⟨q, j, none⟩ (.int .i64 v)) :=
  ⟨h.rB, h.qB, h.ne, IsAt.other h.a h.ne _, h.b.set hj v, h.bel.setCell (show B ≤ (Addr.mk q j none).block from h.qB) _⟩
theorem Two.drew {B r q n : Nat} {X Y : Nat → Int} {w0 w : World} (h : Two B r q n X Y w0 w) : Two B r q n X Y w0 w.drew :=
  ⟨h.rB, h.qB, h.ne, h.a, h.b, h.bel.drew⟩
theorem Two.below {B r q n : Nat} {X Y : Nat → Int} {w0 w w' : World} (h : Two B r q n X Y w0 w) (hb : Below w.heap.size w w') : Two B r q n X Y w0 w' :=
  ⟨h.rB, h.qB, h.ne, h.a.below hb, h.b.below hb, h.bel.trans (hb.mono (by have := h.a.lt; have := h.rB; omega))⟩

/-- Places behind k rounds. -/
def plc (m k : Nat) (X : Nat → Int) : Nat → Int := fun x => if x < k ∨ rev m x < k then X (rev m x) else X x
theorem plc_at {m k : Nat} (X : Nat → Int) (h : k ≤ rev m k) : plc m k X k = X k := if_neg (by omega)
theorem plc_far {m k : Nat} (hm : m ≤ 6) (hk : k < 2 ^ m) (X : Nat → Int) (h : k < rev m k) : plc m k X (rev m k) = X (rev m k) := by
  have := rev_back hm hk
  exact if_neg (by omega)
theorem plc_swap {m k : Nat} (hm : m ≤ 6) (hk : k < 2 ^ m) (X : Nat → Int) (h : k < rev m k) (x : Nat) (hx : x < 2 ^ m) :
    upd (upd (plc m k X) k (X (rev m k))) (rev m k) (X k) x = plc m (k + 1) X x := by
  have h1 := rev_back hm hk
  have h2 := rev_back hm hx
  unfold upd
  by_cases e1 : x = rev m k
  · subst e1
    rw [if_pos rfl, plc, if_pos (by omega), h1]
  · rw [if_neg e1]
    by_cases e2 : x = k
    · subst e2
      rw [if_pos rfl, plc, if_pos (by omega)]
    · rw [if_neg e2, plc, plc]
      have e3 : rev m x ≠ k := fun e => e1 (by rw [← e, h2])
      by_cases c : x < k ∨ rev m x < k
      · rw [if_pos c, if_pos (by omega)]
      · rw [if_neg c, if_neg (by omega)]
theorem plc_swap' {m k : Nat} (hm : m ≤ 6) (hk : k < 2 ^ m) (X : Nat → Int) (h : k < rev m k) (x : Nat) (hx : x < 2 ^ m) :
    upd (upd (plc m k X) (rev m k) (X k)) k (X (rev m k)) x = plc m (k + 1) X x := by
  rw [← plc_swap hm hk X h x hx]
  unfold upd
  by_cases e1 : x = rev m k
  · rw [if_neg (by omega), if_pos e1, if_pos e1]
  · rw [if_neg e1, if_neg e1]
theorem plc_stay {m k : Nat} (hm : m ≤ 6) (hk : k < 2 ^ m) (X : Nat → Int) (h : ¬ k < rev m k) (x : Nat) (hx : x < 2 ^ m) : plc m k X x = plc m (k + 1) X x := by
  have h1 := rev_back hm hk
  have h2 := rev_back hm hx
  rw [plc, plc]
  by_cases c : x < k ∨ rev m x < k
  · rw [if_pos c, if_pos (by omega)]
  · rw [if_neg c]
    by_cases c2 : x < k + 1 ∨ rev m x < k + 1
    · rw [if_pos c2]
      have : x = k ∨ rev m x = k := by omega
      rcases this with rfl | e
      · congr 1; omega
      · have : x = rev m k := by rw [← e, h2]
        congr 1; omega
    · rw [if_neg c2]
theorem plc_all {m : Nat} (X : Nat → Int) (x : Nat) (hx : x < 2 ^ m) : plc m (2 ^ m) X x = X (rev m x) := if_pos (.inl hx)

theorem turnPlaces_any {m : Nat} (hm : m ≤ 6) (B r q n : Nat) (hn : n = 2 ^ m) (X Y : Nat → Int) (w : World) (ht : DTab w) (hv : 1 < B) (h : Two B r q n X Y w w) :
    Calls Tryd.prog 38 #[.slice (some ⟨r, 0, none⟩) n n, .slice (some ⟨q, 0, none⟩) n n] w fun e w' => e = .returned (.tuple #[]) ∧ Two B r q n (fun x => X (rev m x)) (fun x => Y (rev m x)) w w' := by
  have H64 : n ≤ 64 := by rw [hn]; exact Nat.pow_le_pow_right (by omega) (show m ≤ 6 from hm)
  have HP : Hid (∀ wr, Below B w wr → Calls Tryd.prog 39 #[.int .i64 (n : Int)] wr fun e w' => e = .returned (.int .i64 (m : Int)) ∧ w' = wr) := fun wr hb => by
    rw [hn]; exact places_any hm wr (ht.frame hb hv)
  have HT : Hid (∀ (k : Nat), k < n → ∀ wr, Calls Tryd.prog 49 #[.int .i64 k, .int .i64 m] wr fun e w' => e = .returned (.int .i64 (rev m k : Nat)) ∧ w' = wr) := fun k hk wr =>
    turnBits_any hm (by omega) wr
  have HN : Hid (n = 2 ^ m) := hn
  have H0 : Hid (Two B r q n (plc m 0 X) (plc m 0 Y) w w) := h
  clear ht hv h hn
  go_enter Tryd.func38, Tryd.ntmps38
  go_wp2
  go_loopw [8] (fun i wr => ∃ k : Nat, k ≤ n ∧ i = .int .i64 k ∧ Hid (Two B r q n (plc m k X) (plc m k Y) w wr)) (fun i _ => n - (intOf i).toNat)
  case atStart => exact ⟨0, Nat.zero_le _, rfl, H0⟩
  case round =>
    clear H0
    obtain ⟨k, hk, rfl, HW⟩ := hrel
    by_cases hlt : k < n
    · by_cases hj : k < rev m k
      · have hjn : rev m k < n := by rw [HN.out]; exact rev_lt m k
        have ca : wr.cell? ⟨r, k, none⟩ = some (.int .i64 (X k)) := by rw [HW.out.a.get hlt, plc_at X (by omega)]
        have cb : wr.cell? ⟨r, rev m k, none⟩ = some (.int .i64 (X (rev m k))) := by rw [HW.out.a.get hjn, plc_far hm (by rw [← HN.out]; exact hlt) X hj]
        have cc : wr.cell? ⟨q, k, none⟩ = some (.int .i64 (Y k)) := by rw [HW.out.b.get hlt, plc_at Y (by omega)]
        have cd : wr.cell? ⟨q, rev m k, none⟩ = some (.int .i64 (Y (rev m k))) := by rw [HW.out.b.get hjn, plc_far hm (by rw [← HN.out]; exact hlt) Y hj]
        have fa := IsAt.frozen HW.out.a k
        have fb := IsAt.frozen HW.out.a (rev m k)
        have fc := IsAt.frozen HW.out.b k
        have fd := IsAt.frozen HW.out.b (rev m k)
        have HJ : Hid (∀ Z : Nat → Int, ∀ x, x < n → upd (upd (plc m k Z) k (Z (rev m k))) (rev m k) (Z k) x = plc m (k + 1) Z x) := fun Z x hx => plc_swap hm (by rw [← HN.out]; exact hlt) Z hj x (by rw [← HN.out]; exact hx)
        go_wp2_with (first
          | (go_at_call 39; refine (HP.out _ HW.out.bel).mono ?_; rintro e w1 ⟨rfl, rfl⟩)
          | (go_at_call 49; refine (HT.out k hlt _).mono ?_; rintro e w1 ⟨rfl, rfl⟩))
        go_region
        have HW2 := ((HW.out.setA hlt (X (rev m k))).setA hjn (X k)).drew
        generalize ((w1.setCell ⟨r, k, none⟩ (.int .i64 (X (rev m k)))).setCell ⟨r, rev m k, none⟩ (.int .i64 (X k))).drew = W2 at HW2 ⊢
        replace cc : W2.cell? ⟨q, k, none⟩ = some (.int .i64 (Y k)) := by rw [HW2.b.get hlt, plc_at Y (by omega)]
        replace cd : W2.cell? ⟨q, rev m k, none⟩ = some (.int .i64 (Y (rev m k))) := by rw [HW2.b.get hjn, plc_far hm (by rw [← HN.out]; exact hlt) Y hj]
        replace fc := IsAt.frozen HW2.b k
        replace fd := IsAt.frozen HW2.b (rev m k)
        have HW3 : Hid _ := HW2
        clear HW HW2 ca cb fa fb
        go_wp2
        go_region
        have HW4 := (((HW3.out.setB hlt (Y (rev m k))).setB hjn (Y k)).drew).congr (HJ.out X) (HJ.out Y)
        go_wp2
        refine ⟨⟨k + 1, by omega, by go_num, HW4⟩, by simp [intOf]; omega⟩
      · have HJ : Hid (∀ Z : Nat → Int, ∀ x, x < n → plc m k Z x = plc m (k + 1) Z x) := fun Z x hx => plc_stay hm (by rw [← HN.out]; exact hlt) Z hj x (by rw [← HN.out]; exact hx)
        go_wp2_with (first
          | (go_at_call 39; refine (HP.out _ HW.out.bel).mono ?_; rintro e w1 ⟨rfl, rfl⟩)
          | (go_at_call 49; refine (HT.out k hlt _).mono ?_; rintro e w1 ⟨rfl, rfl⟩))
        refine ⟨⟨k + 1, by omega, by go_num, HW.out.congr (HJ.out X) (HJ.out Y)⟩, by simp [intOf]; omega⟩
    · obtain rfl : k = n := by omega
      go_wp2
      go_end0
      refine ⟨rfl, HW.out.congr (fun i hi => ?_) (fun i hi => ?_)⟩
      · rw [HN.out, plc_all X i (by rw [← HN.out]; exact hi)]
      · rw [HN.out, plc_all Y i (by rw [← HN.out]; exact hi)]
end Go.Proofs.YtgkjjkdjalbfaaaDoor
