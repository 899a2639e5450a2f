/-
  The program's within, far.
-/
import Derived.Test.YtabgbchogmbofaaSEB
import Derived.Test.YtabgbchogmbofaaSEO
import Derived.Test.YtabgbchogmbofaaNAbs
import Derived.Test.YtabgbchogmbofaaNMod
import Derived.Test.YtabgbchogmbofaaL2
namespace Go.Proofs.Ytabgbchogmbofaa
open Go.ChangeShapes Go.WideShapes Go.ChangeAt Go.RowKit
set_option linter.unusedVariables false

def outS (lo hi x : Int) : Bool := decide (x < lo) || decide (hi < x)
/-- Blocks g and g + 1 hold from where and to where. -/
structure Ends (g : Nat) (lo hi : Int) (w : World) : Prop where
  lo : w.cell? ⟨g, 0, none⟩ = some (.int .i64 lo)
  hi : w.cell? ⟨g + 1, 0, none⟩ = some (.int .i64 hi)
theorem Ends.below {g : Nat} {lo hi : Int} {w W : World} (h : Ends g lo hi w) (hb : Below w.heap.size w W) : Ends g lo hi W :=
  ⟨by rw [hb.cell (p := ⟨g, 0, none⟩) (block_lt_of_cell h.lo)]; exact h.lo, by rw [hb.cell (p := ⟨g + 1, 0, none⟩) (block_lt_of_cell h.hi)]; exact h.hi⟩
theorem ends_new (w : World) (lo hi : Int) : Ends w.heap.size lo hi ((w.alloc (.cells #[.int .i64 lo] 3)).alloc (.cells #[.int .i64 hi] 3)) := by
  have h1 : IsAt w.heap.size 3 #[.int .i64 lo] ((w.alloc (.cells #[.int .i64 lo] 3)).alloc (.cells #[.int .i64 hi] 3)) := (al_old _ (by rw [al_size]; omega)).trans (al_new w _)
  have h2 : IsAt (w.heap.size + 1) 3 #[.int .i64 hi] ((w.alloc (.cells #[.int .i64 lo] 3)).alloc (.cells #[.int .i64 hi] 3)) := by
    have := al_new (w.alloc (.cells #[.int .i64 lo] 3)) (.cells #[.int .i64 hi] 3)
    rw [al_size] at this
    exact this
  exact ⟨h1.cell 0, h2.cell 0⟩
theorem sout_any (lo hi x : Int) (g : Nat) (w : World) (he : Ends g lo hi w) :
    Calls Try.prog 19 #[.int .i64 x, .pointer (some ⟨g, 0, none⟩), .pointer (some ⟨g + 1, 0, none⟩)] w fun e w' => e = .returned (.bool (outS lo hi x)) ∧ Below w.heap.size w w' := by
  have c1 := he.lo
  have c2 := he.hi
  clear he
  have HB0 := hid (Below.refl w.heap.size w)
  by_cases h1 : x < lo
  · have e : outS lo hi x = true := by simp [outS, h1]
    rw [e]
    clear e
    go_enter Try.func19, Try.ntmps19
    go_wp2
    go_ret
    exact ⟨rfl, HB0.out⟩
  · have h2 : decide (x < lo) = false := decide_eq_false h1
    have e : outS lo hi x = decide (hi < x) := by simp [outS, h2]
    rw [e]
    clear e
    go_enter Try.func19, Try.ntmps19
    go_wp2
    go_ret
    exact ⟨rfl, HB0.out⟩
abbrev outV (g : Nat) : Value := .func (.func 19) #[] #[.pointer (some ⟨g, 0, none⟩), .pointer (some ⟨g + 1, 0, none⟩)]
/-- The place of the first that is out, or none. -/
theorem sindex_any (lo hi : Int) (a : Option Addr) (len cap : Nat) (X : Nat → Int) (hl : len ≤ 1000) (g : Nat) (w : World) (h : IsInts w a len cap X) (he : Ends g lo hi w) :
    Calls Try.prog 26 #[.slice a len cap, outV g] w fun e w' => (∃ k : Int, e = .returned (.int .i64 k) ∧ (decide (k ≥ 0)) = !(allIn lo hi X len)) ∧ Below w.heap.size w w' := by
  have HB0 := hid (Below.refl w.heap.size w)
  by_cases h0 : len = 0
  · subst h0
    clear h he
    go_enter Try.func26, Try.ntmps26
    go_wp2
    go_loop [8] (fun i => i = .int .i64 0) (fun i => 0)
    case atStart => rfl
    case round =>
      subst hrel
      go_wp2
      go_ret
      exact ⟨⟨-1, rfl, rfl⟩, HB0.out⟩
  obtain ⟨b, off, rfl, hc0⟩ := h.cells (by omega)
  have HC := hid hc0
  have HEN := hid (fun W (hW : Below w.heap.size w W) => he.below hW)
  clear h hc0 he
  go_enter Try.func26, Try.ntmps26
  go_wp2
  go_loopw [8] (fun i wr => ∃ k : Nat, k ≤ len ∧ i = .int .i64 k ∧ Hid (allIn lo hi X k = true) ∧ Hid (Below w.heap.size w wr)) (fun i _ => len - (intOf i).toNat)
  case atStart => exact ⟨0, Nat.zero_le _, rfl, rfl, HB0.out⟩
  case round =>
    clear HB0
    obtain ⟨k, hk, rfl, HA, HB⟩ := hrel
    obtain ⟨w5, e5⟩ : ∃ w5, w5 = wr := ⟨_, rfl⟩
    subst e5
    by_cases hlt : k < len
    · have hck := HC.out w5 HB.out k hlt
      have KB := hid (sout_any lo hi (X k) g w5 (HEN.out w5 HB.out))
      by_cases ho : outS lo hi (X k) = true
      · have HN : Hid (allIn lo hi X len = false) := allIn_no hlt (by simp [outS] at ho; omega)
        rw [ho] at KB
        go_wp2_with (go_at_call 19; (with_reducible refine KB.out.mono ?_); rintro e w1 ⟨rfl, b1⟩)
        go_ret
        exact ⟨⟨k, rfl, by rw [HN.out]; simp⟩, below_then HB.out b1⟩
      · have ho : outS lo hi (X k) = false := by simpa using ho
        have ho2 : lo ≤ X k ∧ X k ≤ hi := by simp [outS] at ho; omega
        have HN : Hid (allIn lo hi X (k + 1) = true) := by show (allIn lo hi X k && decide (lo ≤ X k) && decide (X k ≤ hi)) = true; rw [HA.out]; simp [ho2]
        rw [ho] at KB
        go_wp2_with (go_at_call 19; (with_reducible refine KB.out.mono ?_); rintro e w1 ⟨rfl, b1⟩)
        exact ⟨⟨k + 1, by omega, by go_num, HN, below_then HB.out b1⟩, by simp [intOf]; omega⟩
    · obtain rfl : k = len := by omega
      go_wp2
      go_ret
      exact ⟨⟨-1, rfl, by rw [HA.out]; rfl⟩, HB.out⟩
theorem scontains_any (lo hi : Int) (a : Option Addr) (len cap : Nat) (X : Nat → Int) (hl : len ≤ 1000) (g : Nat) (w : World) (h : IsInts w a len cap X) (he : Ends g lo hi w) :
    Calls Try.prog 18 #[.slice a len cap, outV g] w fun e w' => e = .returned (.bool (!(allIn lo hi X len))) ∧ Below w.heap.size w w' := by
  have K := hid (sindex_any lo hi a len cap X hl g w h he)
  clear h he
  go_enter Try.func18, Try.ntmps18
  go_wp2_with (fail)
  refine Calls.mono K.out ?_
  rintro e w1 ⟨⟨k, rfl, hk⟩, b1⟩
  have HK := hid hk
  have HB := hid b1
  clear hk K b1
  go_wp2
  go_ret
  exact ⟨ret_bool HK.out, HB.out⟩
/-- Does each lie from lo to hi? -/
theorem swithin_any (lo hi : Int) (a : Option Addr) (len cap : Nat) (X : Nat → Int) (hl : len ≤ 1000) (w : World) (h : IsInts w a len cap X) :
    Calls Try.prog 12 #[.int .i64 lo, .int .i64 hi, .slice a len cap] w fun e w' => e = .returned (.bool (allIn lo hi X len)) ∧ Below w.heap.size w w' := by
  have ba : ∀ (W : World) (o : Obj), Below W.heap.size W (W.alloc o) := fun W o => (Below.refl _ W).alloc (Nat.le_refl _) _
  have hb2 : Below w.heap.size w ((w.alloc (.cells #[.int .i64 lo] 3)).alloc (.cells #[.int .i64 hi] 3)) := below_then (ba _ _) (ba _ _)
  have K := hid (scontains_any lo hi a len cap X hl w.heap.size ((w.alloc (.cells #[.int .i64 lo] 3)).alloc (.cells #[.int .i64 hi] 3)) (h.below hb2) (ends_new w lo hi))
  have HB := hid hb2
  clear h ba hb2
  generalize allIn lo hi X len = z at *
  go_enter Try.func12, Try.ntmps12
  go_wp2_with (fail)
  refine Calls.mono K.out ?_
  rintro e w1 ⟨rfl, b1⟩
  have HB1 := hid (below_then HB.out b1)
  clear K b1 HB
  go_wp2
  go_ret
  exact ⟨by cases z <;> rfl, HB1.out⟩
theorem one_ints (W : World) (c : Int) : IsInts (W.alloc (.cells #[.int .i64 c] 3)) (some ⟨W.heap.size, 0, none⟩) 1 1 (fun _ => c) := by
  have := (RowAt.ints (r := W.heap.size) (n := 1) (X := fun _ => c) (al_new W _) (by unfold maxLen; omega))
  exact this
theorem win_one (lo hi c : Int) (b : Bool) (hb : (decide (lo ≤ c) && decide (c ≤ hi)) = b) (W : World) :
    Calls Try.prog 12 #[.int .i64 lo, .int .i64 hi, .slice (some ⟨W.heap.size, 0, none⟩) 1 1] (W.alloc (.cells #[.int .i64 c] 3)) fun e w' => e = .returned (.bool b) ∧ Below W.heap.size W w' :=
  (swithin_any lo hi _ 1 1 (fun _ => c) (by omega) _ (one_ints W c)).mono fun e w' ⟨he, hb2⟩ => ⟨by rw [he, ← hb]; rfl, ret_bel hb2⟩
/-- How far from 0 all are. -/
theorem far_any (a : Option Addr) (len cap : Nat) (X : Nat → Int) (k : Nat) (hin : SeIn len X k) (w : World) (h : IsInts w a len cap X) :
    Calls Try.prog 20 #[.slice a len cap] w fun e w' => e = .returned (.int .i64 ((seSum (seA X) len : Nat) : Int)) ∧ Below w.heap.size w w' := by
  have n1 := hin.n1
  have n8 := hin.n8
  obtain ⟨b, off, rfl, hc⟩ := h.cells (by omega)
  have HC := hid hc
  have HIN := hid hin
  have HB0 := hid (Below.refl w.heap.size w)
  clear h hc hin
  go_enter Try.func20, Try.ntmps20
  go_wp2
  go_loopw [3, 8] (fun s i wr => ∃ p : Nat, p ≤ len ∧ i = .int .i64 p ∧ s = .int .i64 ((seSum (seA X) p : Nat) : Int) ∧ Hid (Below w.heap.size w wr)) (fun _ i _ => len - (intOf i).toNat)
  case atStart => exact ⟨0, Nat.zero_le _, rfl, rfl, HB0.out⟩
  case round =>
    clear HB0
    obtain ⟨p, hp, rfl, hs, HW⟩ := hrel
    obtain ⟨w5, e5⟩ : ∃ w5, w5 = wr := ⟨_, rfl⟩
    subst e5
    by_cases hlt : p < len
    · have hck := HC.out w5 HW.out p hlt
      have hx := HIN.out.x28 p hlt
      have hb := HIN.out.sum p (by omega)
      have KA := hid (fun W => abs_any (X p) W)
      rw [absF_nat (by omega)] at KA
      have HV := hid (show ((seSum (seA X) p : Nat) : Int) + (((X p).natAbs : Nat) : Int) = ((seSum (seA X) (p + 1) : Nat) : Int) by rw [seSum, seA]; omega)
      have hs2 : seSum (seA X) p ≤ 2147483648 := by omega
      clear hb
      generalize (X p).natAbs = y at *
      generalize X p = x at *
      generalize seSum (seA X) p = s0 at *
      subst hs
      go_wp2_with (go_at_call 22; (with_reducible refine Calls.mono (KA.out _) ?_); rintro e w6 ⟨rfl, b6⟩)
      exact ⟨⟨p + 1, by omega, by go_num, congrArg (Value.int .i64) HV.out, below_then HW.out b6⟩, by simp [intOf]; omega⟩
    · obtain rfl : p = len := by omega
      subst hs
      go_wp2
      go_ret
      exact ⟨rfl, HW.out⟩
end Go.Proofs.Ytabgbchogmbofaa
