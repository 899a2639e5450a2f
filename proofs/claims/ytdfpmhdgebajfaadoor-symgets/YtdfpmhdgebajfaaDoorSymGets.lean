/-
  Proved: for any string of up to 200 octets and any list of up to 40 asks of any sorts (above that the law answers by the chapter's example alone), the numbers that are taken, and where the decoder stands behind them, are the document's. Conditions: none beside the row's own (the listed tables read as the program's text lays them, sym's small differences among them; the card ties them to the pruned copy).
-/
import Derived.Test.YtdfpmhdgebajfaaDoorCards
import Derived.Test.YtdfpmhdgebajfaaDoorTie
import Derived.Test.YtdfpmhdgebajfaaDoorW2
import Derived.Test.YtdfpmhdgebajfaaDoorW5
import Derived.Test.YtdfpmhdgebajfaaDoorW6
import Derived.WalkKit
import Derived.ProofKit
import Derived.OpenShut
import Derived.ShutString
import Derived.ChangeOld
import Derived.Below
import Derived.Lay
import Derived.LaidOnce
import Derived.SevenTiedAt
namespace Go.Proofs.YtdfpmhdgebajfaaDoor.symGets
open Go.ChangeShapes Go.WideShapes Go.ChangeAt Go.RowKit
open Go.ChangeMaps (open_string shut_string)
set_option linter.unusedVariables false

theorem own : ownKnob Tryd.prog.godebug = none := by kernel_rfl
theorem laidOut : laidOutB Tryd.prog = true := by kernel_rfl

set_option maxRecDepth 100000
def bI (l : List UInt8) (d : De) (n : Int) : Int := if bitsB n then ((getB l d n.toNat).1 : Int) else 0
def bS (l : List UInt8) (d : De) (n : Int) : De := if bitsB n then (getB l d n.toNat).2 else d
def rbS (l : List UInt8) (d : De) (n : Int) : De := if bitsB n then rgetB l d n.toNat else d
def wI (l : List UInt8) (d : De) (n : Int) : Int := if boundB n then ((getW l d n.toNat).1 : Int) else 0
def wB (l : List UInt8) (d : De) (n : Int) : Bool := if boundB n then (getW l d n.toNat).2.1 else false
def wS (l : List UInt8) (d : De) (n : Int) : De := if boundB n then (getW l d n.toNat).2.2 else d
def rwS (l : List UInt8) (d : De) (n : Int) : De := if boundB n then rgetW l d n.toNat else d
theorem but_cell {r b o : Nat} {w w' : World} {v : Value} (h : But r w w') (hb : b ≠ r) (hc : w.cell? ⟨b, o, none⟩ = some v) : w'.cell? ⟨b, o, none⟩ = some v := by
  rw [← hc]
  simp [World.cell?, h.block b (block_lt_of_cell hc) hb]
theorem gbits_int (r : Nat) (l : List UInt8) (d : De) (n : Int) (w : World) (h : IsAt r 65 (dc l d) w) (ok : d.Ok) (hl : l.length ≤ 100000) :
    Calls Tryd.prog 13 #[.pointer (some ⟨r, 0, none⟩), .int .i64 n] w fun e w' => e = .returned (.int .i64 (bI l d n)) ∧ IsAt r 65 (dc l (bS l d n)) w' ∧ But r w w' := by
  unfold bI bS
  cases hb : bitsB n with
  | false =>
    refine (getbits_not r n w hb).mono ?_
    rintro e w' ⟨rfl, rfl⟩
    exact ⟨rfl, h, But.refl r w'⟩
  | true =>
    obtain ⟨h1, h2⟩ := bitsB_yes hb
    obtain ⟨m, rfl⟩ : ∃ m : Nat, n = m := ⟨n.toNat, by omega⟩
    exact getbits_at r l d m w h ok (by omega) hl
theorem rgbits_int (r : Nat) (l : List UInt8) (d : De) (n : Int) (w : World) (h : IsAt r 67 (rdc l d) w) (ok : d.Ok) (hl : l.length ≤ 100000) (hpos : d.pos ≤ 20000) :
    Calls Tryd.prog 14 #[.pointer (some ⟨r, 0, none⟩), .int .i64 n] w fun e w' => e = .returned (.int .i64 (bI l d n)) ∧ IsAt r 67 (rdc l (rbS l d n)) w' ∧ But r w w' := by
  unfold bI rbS
  cases hb : bitsB n with
  | false =>
    refine (rgetbits_not r n w hb).mono ?_
    rintro e w' ⟨rfl, rfl⟩
    exact ⟨rfl, h, But.refl r w'⟩
  | true =>
    obtain ⟨h1, h2⟩ := bitsB_yes hb
    obtain ⟨m, rfl⟩ : ∃ m : Nat, n = m := ⟨n.toNat, by omega⟩
    exact rgetbits_at r l d m w h ok (by omega) hl (by omega)
theorem gbelow_int (r : Nat) (l : List UInt8) (d : De) (n : Int) (w : World) (h : IsAt r 65 (dc l d) w) (ok : d.Ok) (hl : l.length ≤ 100000) :
    Calls Tryd.prog 15 #[.pointer (some ⟨r, 0, none⟩), .int .i64 n] w fun e w' => e = .returned (.tuple #[.int .i64 (wI l d n), .bool (wB l d n)]) ∧ IsAt r 65 (dc l (wS l d n)) w' ∧ But r w w' := by
  unfold wI wB wS
  cases hb : boundB n with
  | false =>
    refine (getbelow_not r n w hb).mono ?_
    rintro e w' ⟨rfl, rfl⟩
    exact ⟨rfl, h, But.refl r w'⟩
  | true =>
    obtain ⟨h1, h2⟩ := boundB_yes hb
    obtain ⟨m, rfl⟩ : ∃ m : Nat, n = m := ⟨n.toNat, by omega⟩
    exact getbelow_at r l d m w h ok (by omega) (by omega) hl
theorem rgbelow_int (r : Nat) (l : List UInt8) (d : De) (n : Int) (w : World) (h : IsAt r 67 (rdc l d) w) (ok : d.Ok) (hl : l.length ≤ 100000) (hpos : d.pos ≤ 20000) :
    Calls Tryd.prog 16 #[.pointer (some ⟨r, 0, none⟩), .int .i64 n] w fun e w' => e = .returned (.tuple #[.int .i64 (wI l d n), .bool (wB l d n)]) ∧ IsAt r 67 (rdc l (rwS l d n)) w' ∧ But r w w' := by
  unfold wI wB rwS
  cases hb : boundB n with
  | false =>
    refine (rgetbelow_not r n w hb).mono ?_
    rintro e w' ⟨rfl, rfl⟩
    exact ⟨rfl, h, But.refl r w'⟩
  | true =>
    obtain ⟨h1, h2⟩ := boundB_yes hb
    obtain ⟨m, rfl⟩ : ∃ m : Nat, n = m := ⟨n.toNat, by omega⟩
    exact rgetbelow_at r l d m w h ok (by omega) (by omega) hl (by omega)
/-- Two decoders behind one ask. -/
structure Nx (d e d' e' : De) : Prop where
  okd : d'.Ok
  oke : e'.Ok
  sim : Sim d' e'
  pos : e'.pos ≤ e.pos + 20
theorem bits_step {l : List UInt8} {d e : De} (sim : Sim d e) (okd : d.Ok) (oke : e.Ok) (n : Int) : bI l d n = bI l e n ∧ Nx d e (bS l d n) (rbS l e n) := by
  unfold bI bS rbS
  cases hb : bitsB n with
  | false => exact ⟨rfl, okd, oke, sim, by simp⟩
  | true =>
    obtain ⟨h1, h2⟩ := bitsB_yes hb
    have hn : n.toNat ≤ 31 := by omega
    have eq := sim.getB okd oke l n.toNat
    have k := getB_ok l d n.toNat hn okd
    have q := rgetB_ok l e n.toNat hn oke
    simp only [if_true]
    exact ⟨by rw [eq], k.1, q.1, by rw [eq]; exact (rgetB_sim l e n.toNat oke).symm, by have := q.2; omega⟩
theorem below_step {l : List UInt8} {d e : De} (sim : Sim d e) (okd : d.Ok) (oke : e.Ok) (n : Int) : (wI l d n = wI l e n ∧ wB l d n = wB l e n) ∧ Nx d e (wS l d n) (rwS l e n) := by
  unfold wI wB wS rwS
  cases hb : boundB n with
  | false => exact ⟨⟨rfl, rfl⟩, okd, oke, sim, by simp⟩
  | true =>
    obtain ⟨h1, h2⟩ := boundB_yes hb
    have g1 : 1 ≤ n.toNat := by omega
    have g2 : n.toNat ≤ 2147483648 := by omega
    have eq := sim.getW okd oke l n.toNat g1 g2
    have k := getW_ok l d n.toNat g1 g2 okd
    have q := rgetW_ok l e n.toNat g1 g2 oke
    simp only [if_true]
    exact ⟨⟨by rw [eq], by rw [eq]⟩, k.1, q.1, by rw [eq]; exact (rgetW_sim l e n.toNat g1 g2 oke).symm, by have := q.2; omega⟩
theorem delta_step {l : List UInt8} {d e : De} (sim : Sim d e) (okd : d.Ok) (oke : e.Ok) : (getD l d).1 = (getD l e).1 ∧ Nx d e (getD l d).2 (rgetD l e) := by
  have eq := sim.getD okd oke l
  have k := getD_ok l d okd
  have q := rgetD_ok l e oke
  exact ⟨by rw [eq], k.1, q.1, by rw [eq]; exact (rgetD_sim l e oke).symm, q.2⟩
/-- What stands in SymGets' loop: d and x. -/
structure St (w : World) (l : List UInt8) (r : Nat) (d e : De) (wr : World) : Prop where
  okd : d.Ok
  oke : e.Ok
  sim : Sim d e
  dd : IsAt w.heap.size 65 (dc l d) wr
  xx : IsAt r 67 (rdc l e) wr
  bel : Below w.heap.size w wr
  ge : w.heap.size ≤ r
theorem St.below {w : World} {l : List UInt8} {r : Nat} {d e : De} {wr w' : World} (h : St w l r d e wr) (hb : Below wr.heap.size wr w') : St w l r d e w' :=
  ⟨h.okd, h.oke, h.sim, h.dd.below hb, h.xx.below hb, h.bel.trans (hb.mono h.bel.size), h.ge⟩
theorem St.drewN {w : World} {l : List UInt8} {r : Nat} {d e : De} {wr : World} (h : St w l r d e wr) (n : Nat) : St w l r d e (wr.drewN n) := h.below (below_drewN (Below.refl _ wr) n)
/-- Behind the program's call. -/
structure Mid (w : World) (l : List UInt8) (r : Nat) (d' e : De) (w1 : World) : Prop where
  oke : e.Ok
  dd : IsAt w.heap.size 65 (dc l d') w1
  xx : IsAt r 67 (rdc l e) w1
  bel : Below w.heap.size w w1
  ge : w.heap.size ≤ r
theorem St.mid {w : World} {l : List UInt8} {r : Nat} {d e d' : De} {wr w1 : World} (h : St w l r d e wr) (i : IsAt w.heap.size 65 (dc l d') w1) (b : But w.heap.size wr w1) : Mid w l r d' e w1 :=
  ⟨h.oke, i, b.at h.xx (isAt_ne h.xx h.dd (by decide)), h.bel.trans (b.below (Nat.le_refl _) h.bel.size), h.ge⟩
theorem Mid.st {w : World} {l : List UInt8} {r : Nat} {d e d' e' : De} {w1 w2 : World} (h : Mid w l r d' e w1) (nx : Nx d e d' e') (i : IsAt r 67 (rdc l e') w2) (b : But r w1 w2) : St w l r d' e' w2 :=
  ⟨nx.okd, nx.oke, nx.sim, b.at h.dd (isAt_ne h.dd h.xx (by decide)), i, h.bel.trans (b.below h.ge h.bel.size), h.ge⟩
theorem walkBig (w : World) (ht : Tab w) (l : List UInt8) (a : Option Addr) (len cap : Nat) (hl : len ≤ maxLen) (hs : l.length ≤ maxLen) (h : 200 < l.length ∨ 40 < len) :
    Calls Tryd.prog 4 #[.string ⟨l.toArray⟩, .slice a len cap] w fun e w' => e = .returned (.bool true) ∧ Below w.heap.size w w' := by
  unfold maxLen at hl hs
  have hstr := str_len l
  by_cases h1 : 200 < l.length
  · have hi : decide ((l.length : Int) > 200) = true := decide_eq_true (by omega)
    go_enter Tryd.func4, Tryd.ntmps4
    go_wp2_with (go_at_call 6; refine (awake_any _ ht).mono ?_; rintro e w7 ⟨rfl, hb7⟩)
    go_ret
    exact ⟨rfl, hb7⟩
  · have hi : decide ((l.length : Int) > 200) = false := decide_eq_false (by omega)
    have hj : decide ((len : Int) > 40) = true := decide_eq_true (by omega)
    go_enter Tryd.func4, Tryd.ntmps4
    go_wp2_with (go_at_call 6; refine (awake_any _ ht).mono ?_; rintro e w7 ⟨rfl, hb7⟩)
    go_ret
    exact ⟨rfl, hb7⟩
set_option maxHeartbeats 4000000 in
theorem walkN (w : World) (ht : Tab w) (l : List UInt8) (a : Option Addr) (b off len cap : Nat) (X : Nat → Int × Int × Int) (hs : l.length ≤ 200) (hA : len ≠ 0 → a = some ⟨b, off, none⟩) (hb : len ≠ 0 → b < w.heap.size) (hl : len ≤ 40) (hX : ∀ i, i < len → ItemAt w b (off + i * 3) (X i)) :
    Calls Tryd.prog 4 #[.string ⟨l.toArray⟩, .slice a len cap] w fun e w' => e = .returned (.bool true) ∧ Below w.heap.size w w' := by
  have hz : 0 < w.heap.size := block_lt_of_cell (ht 0 (by decide))
  have HT : Hid (Tab w) := ht
  have HX : Hid (∀ i, i < len → ItemAt w b (off + i * 3) (X i)) := hX
  clear hX ht
  have hstr := str_len l
  have hi : decide ((l.length : Int) > 200) = false := decide_eq_false (by omega)
  have hj : decide ((len : Int) > 40) = false := decide_eq_false (by omega)
  have hli : (len : Int) ≤ 40 := by omega
  go_enter Tryd.func4, Tryd.ntmps4
  go_wp2_with (fail)
  refine (new_any l w (by omega)).mono ?_
  rintro e w1 ⟨rfl, h1, f1⟩
  have H1 : Hid (IsAt w.heap.size 65 (dc l (newD l)) w1) := h1
  have F1 : Hid (Below w.heap.size w w1) := f1
  clear h1 f1
  go_wp2_with (fail)
  refine (rnew_any l w1 (by omega)).mono ?_
  rintro e w2 ⟨rfl, h2, f2⟩
  have HS0 : Hid (St w l w1.heap.size (newD l) (newD l) w2) := ⟨new_ok l, new_ok l, Sim.refl _, H1.out.below f2, h2, F1.out.trans (f2.mono F1.out.size), F1.out.size⟩
  clear h2 f2 H1
  generalize hr : w1.heap.size = r at *
  go_wp2
  go_loopw [7] (fun i wr => ∃ (k : Nat) (d e : De), k ≤ len ∧ i = .int .i64 k ∧ e.pos ≤ 4 + 20 * k ∧ St w l r d e wr) (fun i _ => len - (intOf i).toNat)
  case atStart => exact ⟨0, newD l, newD l, by omega, rfl, by show 4 ≤ _; omega, HS0.out⟩
  case round =>
    obtain ⟨k, d, e, hk, rfl, hpos, hst⟩ := hrel
    have HS : Hid (St w l r d e wr) := hst
    have hbel := hst.bel
    clear hst HS0
    by_cases hlt : k < len
    · obtain rfl := hA (by omega)
      have hb' := hb (by omega)
      have h3' := (HX.out k hlt).below hbel hb'
      obtain ⟨c0, c1, c2⟩ := h3'
      have hki : (k : Int) < (len : Int) := by omega
      have hne : b ≠ w.heap.size := by omega
      have hner : b ≠ r := by have := HS.out.ge; omega
      have HTr : Hid (Tab wr) := HT.out.frame hbel hz
      clear hbel
      generalize hXk : X k = Y at *
      obtain ⟨K, v, n⟩ := Y
      by_cases h0 : K = 0
      · subst h0
        have st := bits_step (l := l) HS.out.sim HS.out.okd HS.out.oke n
        have NX : Hid (Nx d e (bS l d n) (rbS l e n)) := st.2
        have HG1 : Hid (∀ w1, w1.cell? ⟨b, off + k * 3 + 2, none⟩ = some (.int .i64 n) → IsAt w.heap.size 65 (dc l d) w1 → Calls Tryd.prog 13 #[.pointer (some ⟨w.heap.size, 0, none⟩), .int .i64 n] w1 fun e' w' => e' = .returned (.int .i64 (bI l d n)) ∧ w'.cell? ⟨b, off + k * 3 + 2, none⟩ = some (.int .i64 n) ∧ IsAt w.heap.size 65 (dc l (bS l d n)) w' ∧ But w.heap.size w1 w') :=
          fun w1 k1 k2 => (gbits_int w.heap.size l d n w1 k2 HS.out.okd (by omega)).mono fun e' w' ⟨q1, q2, q3⟩ => ⟨q1, but_cell q3 hne k1, q2, q3⟩
        have HG2 : Hid (∀ w1, w1.cell? ⟨b, off + k * 3 + 2, none⟩ = some (.int .i64 n) → IsAt r 67 (rdc l e) w1 → Calls Tryd.prog 14 #[.pointer (some ⟨r, 0, none⟩), .int .i64 n] w1 fun e' w' => e' = .returned (.int .i64 (bI l d n)) ∧ w'.cell? ⟨b, off + k * 3 + 2, none⟩ = some (.int .i64 n) ∧ IsAt r 67 (rdc l (rbS l e n)) w' ∧ But r w1 w') := by
          show ∀ w1, _
          rw [st.1]
          exact fun w1 k1 k2 => (rgbits_int r l e n w1 k2 HS.out.oke (by omega) (by omega)).mono fun e' w' ⟨q1, q2, q3⟩ => ⟨q1, but_cell q3 hner k1, q2, q3⟩
        have HSd : Hid (St w l r d e wr.drew) := HS.out.drewN 1
        clear st HTr
        generalize bI l d n = V at *
        go_wp2
        go_region_held3 (fun w' => w'.cell? ⟨b, off + k * 3 + 2, none⟩ = some (.int .i64 n)) (go_keep)
          (first
            | (go_at_call 13; refine (HG1.out _ ?_ HSd.out.dd).mono ?_; go_keep; rintro e1 w2 ⟨rfl, x2, i2, b2⟩)
            | (go_at_call 14; refine (HG2.out _ ?_ (HSd.out.mid i2 b2).xx).mono ?_; go_keep; rintro e2 w3 ⟨rfl, x3, i3, b3⟩))
        have HS4 : Hid (St w l r (bS l d n) (rbS l e n) w3) := (HSd.out.mid i2 b2).st NX.out i3 b3
        have hp4 := NX.out.pos
        clear i2 b2 i3 b3 x2 x3 HSd HS c0 c1 c2
        go_wp2
        exact ⟨⟨k + 1, _, _, by omega, by go_num, by omega, HS4.out⟩, by simp [intOf]; omega⟩
      · by_cases h1 : K = 1
        · subst h1
          have st := below_step (l := l) HS.out.sim HS.out.okd HS.out.oke n
          have NX : Hid (Nx d e (wS l d n) (rwS l e n)) := st.2
          have HG1 : Hid (Calls Tryd.prog 15 #[.pointer (some ⟨w.heap.size, 0, none⟩), .int .i64 n] wr fun e' w' => e' = .returned (.tuple #[.int .i64 (wI l d n), .bool (wB l d n)]) ∧ IsAt w.heap.size 65 (dc l (wS l d n)) w' ∧ But w.heap.size wr w') := gbelow_int w.heap.size l d n wr HS.out.dd HS.out.okd (by omega)
          have HG2 : Hid (∀ w1, IsAt r 67 (rdc l e) w1 → Calls Tryd.prog 16 #[.pointer (some ⟨r, 0, none⟩), .int .i64 n] w1 fun e' w' => e' = .returned (.tuple #[.int .i64 (wI l d n), .bool (wB l d n)]) ∧ IsAt r 67 (rdc l (rwS l e n)) w' ∧ But r w1 w') := by
            show ∀ w1, _
            rw [st.1.1, st.1.2]
            exact fun w1 k2 => rgbelow_int r l e n w1 k2 HS.out.oke (by omega) (by omega)
          clear st HTr
          generalize wI l d n = V at *
          generalize wB l d n = U at *
          go_wp2_with (fail)
          refine HG1.out.mono ?_
          rintro e1 w2 ⟨rfl, i2, b2⟩
          have x2 : w2.cell? ⟨b, off + k * 3 + 2, none⟩ = some (.int .i64 n) := but_cell b2 hne c2
          have M2 : Hid (Mid w l r (wS l d n) e w2) := HS.out.mid i2 b2
          clear i2 b2 HS c0 c1 c2
          go_wp2_with (fail)
          refine (HG2.out _ M2.out.xx).mono ?_
          rintro e2 w3 ⟨rfl, i3, b3⟩
          have HS4 : Hid (St w l r (wS l d n) (rwS l e n) w3) := M2.out.st NX.out i3 b3
          have hp4 := NX.out.pos
          clear i3 b3 x2 M2
          cases U
          all_goals
            go_wp2
            exact ⟨⟨k + 1, _, _, by omega, by go_num, by omega, HS4.out⟩, by simp [intOf]; omega⟩
        · have st := delta_step (l := l) HS.out.sim HS.out.okd HS.out.oke
          have NX : Hid (Nx d e (getD l d).2 (rgetD l e)) := st.2
          have HG1 : Hid (Calls Tryd.prog 17 #[.pointer (some ⟨w.heap.size, 0, none⟩)] wr fun e' w' => e' = .returned (.int .i64 (getD l d).1) ∧ IsAt w.heap.size 65 (dc l (getD l d).2) w' ∧ But w.heap.size wr w') := getdelta_at w.heap.size l d wr HS.out.dd HS.out.okd HTr.out (by omega)
          have HG2 : Hid (∀ w1, IsAt r 67 (rdc l e) w1 → Calls Tryd.prog 18 #[.pointer (some ⟨r, 0, none⟩)] w1 fun e' w' => e' = .returned (.int .i64 (getD l d).1) ∧ IsAt r 67 (rdc l (rgetD l e)) w' ∧ But r w1 w') := by
            show ∀ w1, _
            rw [st.1]
            exact fun w1 k2 => rgetdelta_at r l e w1 k2 HS.out.oke (by omega) (by omega)
          clear st HTr
          generalize (getD l d).2 = d2 at *
          generalize (getD l d).1 = V at *
          go_wp2_with (fail)
          refine HG1.out.mono ?_
          rintro e1 w2 ⟨rfl, i2, b2⟩
          have M2 : Hid (Mid w l r d2 e w2) := HS.out.mid i2 b2
          clear i2 b2 HS c0 c1 c2
          go_wp2_with (fail)
          refine (HG2.out _ M2.out.xx).mono ?_
          rintro e2 w3 ⟨rfl, i3, b3⟩
          have HS4 : Hid (St w l r d2 (rgetD l e) w3) := M2.out.st NX.out i3 b3
          have hp4 := NX.out.pos
          clear i3 b3 M2
          go_wp2
          exact ⟨⟨k + 1, _, _, by omega, by go_num, by omega, HS4.out⟩, by simp [intOf]; omega⟩
    · obtain rfl : k = len := by omega
      have EQ : Hid (placeF d 256 = placeF e 256) := by
        show _ = _
        rw [show (256 : Int) = ((256 : Nat) : Int) from rfl, placeF_nat d 256 (by decide) (by decide), placeF_nat e 256 (by decide) (by decide), HS.out.sim.place HS.out.okd HS.out.oke 256 (by decide) (by decide)]
      go_wp2_with (fail)
      refine (place_at w.heap.size l d 256 wr HS.out.dd HS.out.okd).mono ?_
      rintro e1 w3 ⟨rfl, n3, rfl⟩
      rw [EQ.out]
      have HS3 : Hid (St w l r d e (wr.drewN n3)) := HS.out.drewN n3
      clear HS EQ
      generalize wr.drewN n3 = w3 at *
      go_wp2_with (fail)
      refine (rplace_at r l e 256 w3 HS3.out.xx HS3.out.oke).mono ?_
      rintro e1 w4 ⟨rfl, n4, rfl⟩
      have HS5 : Hid (St w l r d e (w3.drewN n4)) := HS3.out.drewN n4
      clear HS3
      generalize w3.drewN n4 = w4 at *
      have T4 : Hid (Tab w4) := HT.out.frame HS5.out.bel hz
      generalize placeF e 256 = V at *
      go_wp2_with (go_at_call 6; refine (awake_any _ T4.out).mono ?_; rintro e w9 ⟨rfl, hb9⟩)
      go_ret
      exact ⟨rfl, HS5.out.bel.trans (hb9.mono HS5.out.bel.size)⟩
theorem walk (w : World) (ht : Tab w) (s : ByteArray) (hs : s.size ≤ maxLen) (a : Option Addr) (len cap : Nat) (X : Nat → Int × Int × Int) (h : IsItems w a len cap X) :
    Calls Tryd.prog 4 #[.string s, .slice a len cap] w fun e w' => e = .returned (.bool true) ∧ Below w.heap.size w w' := by
  obtain ⟨l, rfl⟩ : ∃ l : List UInt8, s = ⟨l.toArray⟩ := ⟨s.data.toList, by simp⟩
  have hs' : l.length ≤ maxLen := by rw [str_len] at hs; exact hs
  obtain ⟨hl, h⟩ := h
  by_cases hbig : 200 < l.length ∨ 40 < len
  · exact walkBig w ht l a len cap hl hs' hbig
  rcases h with rfl | ⟨b, off, rfl, hb, hlc, hc, hx⟩
  · exact walkN w ht l a 0 0 0 cap X (by omega) (fun h => absurd rfl h) (fun h => absurd rfl h) (by omega) (fun i hi => absurd hi (Nat.not_lt_zero i))
  · exact walkN w ht l _ b off len cap X (by omega) (fun _ => rfl) (fun _ => hb) (by omega) hx

set_option maxRecDepth 100000 in
theorem lifted (os : Os) (started : os.Started) (H : Type) (enc : TypeId × Value → H) :
    ReturnsInHanded {} Tryd.checked os 4 .any (fun w args => (Rows.symGetsSpec.pre enc Tryd.prog Tryd.f4 [] false w args ∧ laidMetH Tryd.prog Rows.symGetsRow.laid w) ∧ sizedMet enc Tryd.prog Tryd.f4 (OpenSpec.ofChange Rows.symGetsSpec) false w args)
      (Rows.symGetsSpec.post enc Tryd.prog Tryd.f4 false true false false) := by
  refine returnsInHanded_of_change_and (C := Tryd.checked) (X := fun w _ => laidMetH Tryd.prog Rows.symGetsRow.laid w) (fun _ _ _ hh h => h.of_heap hh) own started (by kernel_rfl) Tryd.func4
    (ChangeSpec.witness_shaped (enc := enc) (C := Tryd.checked) (os := os) (X := fun w _ => laidMetH Tryd.prog Rows.symGetsRow.laid w) false (World.laidAll Tryd.prog os Rows.symGetsRow.laid) #[.string ByteArray.empty, .slice none 0 0] 8 (World.laidAll_os _ _ _)
      (World.shaped_of_ZipB (by kernel_rfl) (by kernel_rfl)) (by kernel_rfl) (by kernel_rfl) (by kernel_rfl)
      (by rw [MakeChecks.laidMetH_plain _ _ _ (by kernel_rfl)]; exact laidMet_laidAll _ (by kernel_rfl) (by kernel_rfl))) ?_
  intro W base args ds gs before hval0 hW _ _ hL _
  have hval : ∀ (j : Nat) t v, Tryd.f4.params[j]? = some t → args[j]? = some v → Value.okWide Tryd.prog W .any base t v := hval0
  have hW' := hW
  obtain ⟨p, q, hA0, hV, rfl, hfz, hnd⟩ := hW
  have hA : DataW.TrodAll enc Tryd.prog W 0 (fun _ => true) true Tryd.f4.params.toList args.toList ds p := hA0
  rw [Tryd.params4] at hA hval
  obtain ⟨v0, vs0, d0, ds0, p0, q0, hargs, rfl, rfl, h0, r0⟩ := trodAll_cons hA
  obtain ⟨v1, vs1, d1, ds1, p1, q1, rfl, rfl, rfl, h1, r1⟩ := trodAll_cons r0
  obtain ⟨rfl, rfl, rfl⟩ := trodAll_nil r1
  obtain rfl : args = #[v0, v1] := by cases args; simp_all
  obtain ⟨rfl, rfl⟩ := trodVars_none hV
  obtain ⟨s0, rfl, rfl, rfl, w0⟩ := open_string Tryd.underlying9 (hval 0 9 v0 rfl rfl) h0
  obtain ⟨a1, len1, cap1, rfl⟩ := okWide_slice Tryd.underlying22 (hval 1 22 v1 rfl rfl)
  have k1 := h1
  have lt1 : ∀ x ∈ p1, x.block < W.heap.size := by obtain ⟨m, hm⟩ := k1; exact DataW.trod_lt m _ _ _ hm
  obtain ⟨x1, w1⟩ : ∃ X : Nat → Int × Int × Int, IsItems W a1 len1 cap1 X := by
    obtain ⟨fuel, hf⟩ := h1
    exact open_items Tryd.underlying22 Tryd.underlying40 Tryd.underlying3 Tryd.underlying3 Tryd.underlying3 (by kernel_rfl) rfl rfl rfl (by kernel_rfl) (by kernel_rfl) (by kernel_rfl) hf
  clear hA0 hval0
  refine (walk W (tab_of_laid (by kernel_rfl) hL (by simp [Rows.symGetsRow])) s0 w0 a1 len1 cap1 x1 w1).mono fun e W' ⟨he, bel⟩ => ?_
  subst he
  exact ⟨_, rfl, _, _, _, [], _, [], hW', trodAll_mk1 (shut_bool Tryd.underlying4 _), (trodAll_cons_mk (shut_string Tryd.underlying9 w0) (trodAll_cons_mk (Below.trod laidOut (by kernel_rfl) (of_decide_eq_true (by kernel_rfl)) k1 bel lt1) trodAll_mk0)), rfl, bel.frame _, fun h => by cases h⟩

theorem over : Rows.symGetsRow.holds Tryd.pinned (OpenSpec.ofChange Rows.symGetsSpec) :=
  OpenClaim.holds_of_wide 4 Tryd.f4 rfl rfl rfl rfl rfl rfl rfl ⟨rfl, rfl, rfl, rfl, rfl⟩ rfl rfl rfl rfl rfl (by kernel_rfl) Tryd.func4 (by kernel_rfl)
    (of_decide_eq_true (by kernel_rfl)) (by unfold Func.isWrapper; first | (rw [if_pos (by decide +kernel)]; kernel_rfl) | (rw [if_neg (by decide +kernel)]; exact ⟨rfl, rfl⟩))
    (fun os started H enc _ => lifted os started H enc)

theorem plain (f : FuncId) (fn : Func) (hf : Tryd.pinned.checked.prog.funcNamed "splicer/splicerlaw05.SymGets" = some f) (hfn : Tryd.pinned.checked.prog.funcs[f]? = some fn) :
    false = Tryd.pinned.checked.prog.looks [] ∧ ∀ (j : Nat) t, fn.params[j]? = some t → Tryd.pinned.checked.prog.wantsStandIn t = false := by
  obtain rfl : f = 4 := Option.some.inj ((show Tryd.prog.funcNamed "splicer/splicerlaw05.SymGets" = some 4 by kernel_rfl).symm.trans hf) |>.symm
  obtain rfl : fn = Tryd.f4 := (Option.some.inj (Tryd.func4.symm.trans hfn)).symm
  refine ⟨by kernel_rfl, fun j t ht => ?_⟩
  rw [Tryd.params4] at ht
  have hm : t ∈ [9, 22] := by simpa using Array.mem_of_getElem? ht
  have hall : ([9, 22].all fun u => !Tryd.prog.wantsStandIn u) = true := by kernel_rfl
  exact (show Tryd.prog.wantsStandIn t = false by simpa using List.all_eq_true.1 hall t hm)

/-- The statement. -/
theorem proved : Rows.SymGetsCardSaid :=
  Claim7.holds_tied_plain_at .later [] _ _ _ _ over (fun _ h => by cases h) (by kernel_rfl) (fun _ h => by cases h) symGets_row_tie rfl ⟨rfl, rfl⟩ (by kernel_rfl) rfl plain (by kernel_rfl)
#print axioms proved
end Go.Proofs.YtdfpmhdgebajfaaDoor.symGets
