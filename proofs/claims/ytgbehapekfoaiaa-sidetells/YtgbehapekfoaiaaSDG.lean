/-
  The program's within; walk: what is handed each pair of numbers.
-/
import Derived.Test.YtgbehapekfoaiaaSDC
import Derived.Test.YtgbehapekfoaiaaNAbs
import Derived.Test.YtgbehapekfoaiaaNShr
import Derived.Test.YtgbehapekfoaiaaTH
import Derived.Test.YtgbehapekfoaiaaL2
namespace Go.Proofs.Ytgbehapekfoaiaa
open Go.ChangeShapes Go.WideShapes Go.ChangeAt Go.RowKit
set_option linter.unusedVariables false

def outS (lo hi x : Int) : Bool := decide (x < lo) || decide (hi < x)
/-- Blocks g and g + 1 hold from where and to where. -/
structure Ends (g : Nat) (lo hi : Int) (w : World) : Prop where
  lo : w.cell? ⟨g, 0, none⟩ = some (.int .i64 lo)
  hi : w.cell? ⟨g + 1, 0, none⟩ = some (.int .i64 hi)
theorem Ends.below {g : Nat} {lo hi : Int} {w W : World} (h : Ends g lo hi w) (hb : Below w.heap.size w W) : Ends g lo hi W :=
  ⟨by rw [hb.cell (p := ⟨g, 0, none⟩) (block_lt_of_cell h.lo)]; exact h.lo, by rw [hb.cell (p := ⟨g + 1, 0, none⟩) (block_lt_of_cell h.hi)]; exact h.hi⟩
theorem ends_new (w : World) (lo hi : Int) : Ends w.heap.size lo hi ((w.alloc (.cells #[.int .i64 lo] 3)).alloc (.cells #[.int .i64 hi] 3)) := by
  have h1 : IsAt w.heap.size 3 #[.int .i64 lo] ((w.alloc (.cells #[.int .i64 lo] 3)).alloc (.cells #[.int .i64 hi] 3)) := (al_old _ (by rw [al_size]; omega)).trans (al_new w _)
  have h2 : IsAt (w.heap.size + 1) 3 #[.int .i64 hi] ((w.alloc (.cells #[.int .i64 lo] 3)).alloc (.cells #[.int .i64 hi] 3)) := by
    have := al_new (w.alloc (.cells #[.int .i64 lo] 3)) (.cells #[.int .i64 hi] 3)
    rw [al_size] at this
    exact this
  exact ⟨h1.cell 0, h2.cell 0⟩
theorem sout_any (lo hi x : Int) (g : Nat) (w : World) (he : Ends g lo hi w) :
    Calls Try.prog 31 #[.int .i64 x, .pointer (some ⟨g, 0, none⟩), .pointer (some ⟨g + 1, 0, none⟩)] w fun e w' => e = .returned (.bool (outS lo hi x)) ∧ Below w.heap.size w w' := by
  have c1 := he.lo
  have c2 := he.hi
  clear he
  have HB0 := hid (Below.refl w.heap.size w)
  by_cases h1 : x < lo
  · have e : outS lo hi x = true := by simp [outS, h1]
    rw [e]
    clear e
    go_enter Try.func31, Try.ntmps31
    go_wp2
    go_ret
    exact ⟨rfl, HB0.out⟩
  · have h2 : decide (x < lo) = false := decide_eq_false h1
    have e : outS lo hi x = decide (hi < x) := by simp [outS, h2]
    rw [e]
    clear e
    go_enter Try.func31, Try.ntmps31
    go_wp2
    go_ret
    exact ⟨rfl, HB0.out⟩
abbrev outV (g : Nat) : Value := .func (.func 31) #[] #[.pointer (some ⟨g, 0, none⟩), .pointer (some ⟨g + 1, 0, none⟩)]
/-- The place of the first that is out, or none. -/
theorem sindex_any (lo hi : Int) (a : Option Addr) (len cap : Nat) (X : Nat → Int) (hl : len ≤ 1000) (g : Nat) (w : World) (h : IsInts w a len cap X) (he : Ends g lo hi w) :
    Calls Try.prog 32 #[.slice a len cap, outV g] w fun e w' => (∃ k : Int, e = .returned (.int .i64 k) ∧ (decide (k ≥ 0)) = !(allIn lo hi X len)) ∧ Below w.heap.size w w' := by
  have HB0 := hid (Below.refl w.heap.size w)
  by_cases h0 : len = 0
  · subst h0
    clear h he
    go_enter Try.func32, Try.ntmps32
    go_wp2
    go_loop [8] (fun i => i = .int .i64 0) (fun i => 0)
    case atStart => rfl
    case round =>
      subst hrel
      go_wp2
      go_ret
      exact ⟨⟨-1, rfl, rfl⟩, HB0.out⟩
  obtain ⟨b, off, rfl, hc0⟩ := h.cells (by omega)
  have HC := hid hc0
  have HEN := hid (fun W (hW : Below w.heap.size w W) => he.below hW)
  clear h hc0 he
  go_enter Try.func32, Try.ntmps32
  go_wp2
  go_loopw [8] (fun i wr => ∃ k : Nat, k ≤ len ∧ i = .int .i64 k ∧ Hid (allIn lo hi X k = true) ∧ Hid (Below w.heap.size w wr)) (fun i _ => len - (intOf i).toNat)
  case atStart => exact ⟨0, Nat.zero_le _, rfl, rfl, HB0.out⟩
  case round =>
    clear HB0
    obtain ⟨k, hk, rfl, HA, HB⟩ := hrel
    obtain ⟨w5, e5⟩ : ∃ w5, w5 = wr := ⟨_, rfl⟩
    subst e5
    by_cases hlt : k < len
    · have hck := HC.out w5 HB.out k hlt
      have KB := hid (sout_any lo hi (X k) g w5 (HEN.out w5 HB.out))
      by_cases ho : outS lo hi (X k) = true
      · have HN : Hid (allIn lo hi X len = false) := allIn_no hlt (by simp [outS] at ho; omega)
        rw [ho] at KB
        go_wp2_with (go_at_call 31; (with_reducible refine KB.out.mono ?_); rintro e w1 ⟨rfl, b1⟩)
        go_ret
        exact ⟨⟨k, rfl, by rw [HN.out]; simp⟩, below_then HB.out b1⟩
      · have ho : outS lo hi (X k) = false := by simpa using ho
        have ho2 : lo ≤ X k ∧ X k ≤ hi := by simp [outS] at ho; omega
        have HN : Hid (allIn lo hi X (k + 1) = true) := by show (allIn lo hi X k && decide (lo ≤ X k) && decide (X k ≤ hi)) = true; rw [HA.out]; simp [ho2]
        rw [ho] at KB
        go_wp2_with (go_at_call 31; (with_reducible refine KB.out.mono ?_); rintro e w1 ⟨rfl, b1⟩)
        exact ⟨⟨k + 1, by omega, by go_num, HN, below_then HB.out b1⟩, by simp [intOf]; omega⟩
    · obtain rfl : k = len := by omega
      go_wp2
      go_ret
      exact ⟨⟨-1, rfl, by rw [HA.out]; rfl⟩, HB.out⟩
theorem scontains_any (lo hi : Int) (a : Option Addr) (len cap : Nat) (X : Nat → Int) (hl : len ≤ 1000) (g : Nat) (w : World) (h : IsInts w a len cap X) (he : Ends g lo hi w) :
    Calls Try.prog 30 #[.slice a len cap, outV g] w fun e w' => e = .returned (.bool (!(allIn lo hi X len))) ∧ Below w.heap.size w w' := by
  have K := hid (sindex_any lo hi a len cap X hl g w h he)
  clear h he
  go_enter Try.func30, Try.ntmps30
  go_wp2_with (fail)
  refine Calls.mono K.out ?_
  rintro e w1 ⟨⟨k, rfl, hk⟩, b1⟩
  have HK := hid hk
  have HB := hid b1
  clear hk K b1
  go_wp2
  go_ret
  exact ⟨ret_bool HK.out, HB.out⟩
/-- Does each lie from lo to hi? -/
theorem swithin_any (lo hi : Int) (a : Option Addr) (len cap : Nat) (X : Nat → Int) (hl : len ≤ 1000) (w : World) (h : IsInts w a len cap X) :
    Calls Try.prog 29 #[.int .i64 lo, .int .i64 hi, .slice a len cap] w fun e w' => e = .returned (.bool (allIn lo hi X len)) ∧ Below w.heap.size w w' := by
  have ba : ∀ (W : World) (o : Obj), Below W.heap.size W (W.alloc o) := fun W o => (Below.refl _ W).alloc (Nat.le_refl _) _
  have hb2 : Below w.heap.size w ((w.alloc (.cells #[.int .i64 lo] 3)).alloc (.cells #[.int .i64 hi] 3)) := below_then (ba _ _) (ba _ _)
  have K := hid (scontains_any lo hi a len cap X hl w.heap.size ((w.alloc (.cells #[.int .i64 lo] 3)).alloc (.cells #[.int .i64 hi] 3)) (h.below hb2) (ends_new w lo hi))
  have HB := hid hb2
  clear h ba hb2
  generalize allIn lo hi X len = z at *
  go_enter Try.func29, Try.ntmps29
  go_wp2_with (fail)
  refine Calls.mono K.out ?_
  rintro e w1 ⟨rfl, b1⟩
  have HB1 := hid (below_then HB.out b1)
  clear K b1 HB
  go_wp2
  go_ret
  exact ⟨by cases z <;> rfl, HB1.out⟩
/-- What walk hands out, a pair at a time, to whatever function (N with caps, in the state Inv). -/
structure WkOk (N : Nat) (caps : Array Value) (a b : Option Addr) (n cap cap' : Nat) (A B : Nat → Int) (Inv : Nat → World → Prop) : Prop where
  keep : ∀ k W W', Inv k W → Below W.heap.size W W' → Inv k W'
  ints : ∀ k W, Inv k W → IsInts W a n cap A ∧ IsInts W b n cap' B
  fn : ∀ args W, (callFunc N args).run Try.prog W = .ok (.enter N args) W
  call : ∀ k W, k < n → Inv k W → Calls Try.prog N (#[.int .i64 (A k), .int .i64 (B k)] ++ caps) W fun e w' => e = .returned (.tuple #[]) ∧ Inv (k + 1) w'
theorem walk_no (a b : Option Addr) (n m cap cap' : Nat) (A B : Nat → Int) (hn : n ≤ 1000) (hm : m ≤ 1000) (hno : sdB n m A B = false) (N : Nat) (caps : Array Value) (w : World) (h : IsInts w a n cap A) (h' : IsInts w b m cap' B) :
    Calls Try.prog 23 #[.slice a n cap, .slice b m cap', .func (.func N) #[] caps] w fun e w' => e = .returned (.tuple #[]) ∧ Below w.heap.size w w' := by
  have HB0 := hid (Below.refl w.heap.size w)
  by_cases h1 : n = m
  · subst h1
    by_cases h2 : n ≤ 64
    · have K1 := hid (swithin_any (-33554432) 33554432 a n cap A hn w h)
      by_cases h3 : allIn (-33554432) 33554432 A n = true
      · have h4 : allIn (-33554432) 33554432 B n = false := by
          simp only [sdB, h2, h3, decide_true, Bool.true_and] at hno; exact hno
        have K2 : Hid (∀ W, Below w.heap.size w W → Calls Try.prog 29 #[.int .i64 (-33554432), .int .i64 33554432, .slice b n cap'] W fun e w' => e = .returned (.bool (allIn (-33554432) 33554432 B n)) ∧ Below W.heap.size W w') := fun W hW => swithin_any (-33554432) 33554432 b n cap' B hm W (h'.below hW)
        rw [h3] at K1
        rw [h4] at K2
        clear h h' hno h3 h4
        go_enter Try.func23, Try.ntmps23
        go_wp2_with (fail)
        refine Calls.mono K1.out ?_
        rintro e w1 ⟨rfl, b1⟩
        go_wp2_with (fail)
        refine Calls.mono (K2.out _ b1) ?_
        rintro e w2 ⟨rfl, b2⟩
        have HB := hid (below_then b1 b2)
        clear b1 b2
        go_wp2
        (try simp only [Exit.inBlock, Exit.then])
        refine bodyPost_ret (results_none rfl _ _ _) rfl ?_
        exact ⟨rfl, HB.out⟩
      · have h3 : allIn (-33554432) 33554432 A n = false := by simpa using h3
        rw [h3] at K1
        clear h h' hno h3
        go_enter Try.func23, Try.ntmps23
        go_wp2_with (fail)
        refine Calls.mono K1.out ?_
        rintro e w1 ⟨rfl, b1⟩
        have HB := hid b1
        clear b1
        go_wp2
        (try simp only [Exit.inBlock, Exit.then])
        refine bodyPost_ret (results_none rfl _ _ _) rfl ?_
        exact ⟨rfl, HB.out⟩
    · clear h h' hno
      go_enter Try.func23, Try.ntmps23
      go_wp2
      (try simp only [Exit.inBlock, Exit.then])
      refine bodyPost_ret (results_none rfl _ _ _) rfl ?_
      exact ⟨rfl, HB0.out⟩
  · clear h h' hno
    go_enter Try.func23, Try.ntmps23
    go_wp2
    (try simp only [Exit.inBlock, Exit.then])
    refine bodyPost_ret (results_none rfl _ _ _) rfl ?_
    exact ⟨rfl, HB0.out⟩
theorem walk_yes (a b : Option Addr) (n cap cap' : Nat) (A B : Nat → Int) (hin : SdIn n A B) (N : Nat) (caps : Array Value) (Inv : Nat → World → Prop) (HK : WkOk N caps a b n cap cap' A B Inv) (w : World) (hI : Inv 0 w) :
    Calls Try.prog 23 #[.slice a n cap, .slice b n cap', .func (.func N) #[] caps] w fun e w' => e = .returned (.tuple #[]) ∧ Inv n w' := by
  have n64 := hin.n64
  obtain ⟨h, h'⟩ := HK.ints 0 w hI
  have K1 := hid (swithin_any (-33554432) 33554432 a n cap A (by omega) w h)
  have K2 : Hid (∀ W, Below w.heap.size w W → Calls Try.prog 29 #[.int .i64 (-33554432), .int .i64 33554432, .slice b n cap'] W fun e w' => e = .returned (.bool (allIn (-33554432) 33554432 B n)) ∧ Below W.heap.size W w') := fun W hW => swithin_any (-33554432) 33554432 b n cap' B (by omega) W (h'.below hW)
  rw [(allIn_iff _ _ _ _).2 hin.a] at K1
  rw [(allIn_iff _ _ _ _).2 hin.b] at K2
  have HI := hid hI
  have HW := hid HK
  clear hI HK
  by_cases h0 : n = 0
  · subst h0
    clear h h' hin
    go_enter Try.func23, Try.ntmps23
    go_wp2_with (fail)
    refine Calls.mono K1.out ?_
    rintro e w1 ⟨rfl, b1⟩
    go_wp2_with (fail)
    refine Calls.mono (K2.out _ b1) ?_
    rintro e w2 ⟨rfl, b2⟩
    have HE := hid (HW.out.keep _ _ _ HI.out (below_then b1 b2))
    clear b1 b2 K1 K2
    go_wp2
    go_loop [30] (fun i => i = .int .i64 0) (fun i => 0)
    case atStart => rfl
    case round =>
      subst hrel
      go_wp2
      go_end0
      exact ⟨rfl, HE.out⟩
  obtain ⟨ab, ao, rfl, hca⟩ := h.cells (by omega)
  obtain ⟨bb, bo, rfl, hcb⟩ := h'.cells (by omega)
  clear h h' hca hcb
  go_enter Try.func23, Try.ntmps23
  go_wp2_with (fail)
  refine Calls.mono K1.out ?_
  rintro e w1 ⟨rfl, b1⟩
  go_wp2_with (fail)
  refine Calls.mono (K2.out _ b1) ?_
  rintro e w2 ⟨rfl, b2⟩
  have HE := hid (HW.out.keep _ _ _ HI.out (below_then b1 b2))
  clear b1 b2 K1 K2
  go_wp2
  go_loopw [30] (fun i wr => ∃ k : Nat, k ≤ n ∧ i = .int .i64 k ∧ Hid (Inv k wr)) (fun i _ => n - (intOf i).toNat)
  case atStart => exact ⟨0, Nat.zero_le _, rfl, HE.out⟩
  case round =>
    clear HE
    obtain ⟨k, hk, rfl, HV⟩ := hrel
    obtain ⟨w5, e5⟩ : ∃ w5, w5 = wr := ⟨_, rfl⟩
    subst e5
    by_cases hlt : k < n
    · obtain ⟨i1, i2⟩ := HW.out.ints k w5 HV.out
      obtain ⟨b', o', e, hc1⟩ := i1.cells (by omega)
      cases e
      obtain ⟨b', o', e, hc2⟩ := i2.cells (by omega)
      cases e
      have c1 := hc1 w5 (Below.refl _ _) k hlt
      have c2 := hc2 w5 (Below.refl _ _) k hlt
      have KC := hid (HW.out.call k w5 hlt HV.out)
      clear i1 i2 hc1 hc2
      generalize A k = x at *
      generalize B k = y at *
      go_wp2_with (fail)
      rw [HW.out.fn, Oper.upon_enter]
      refine Calls.mono KC.out ?_
      rintro e w6 ⟨rfl, hI6⟩
      have HV6 := hid hI6
      clear hI6 HV KC c1 c2
      go_wp2
      exact ⟨⟨k + 1, by omega, by go_num, HV6⟩, by simp [intOf]; omega⟩
    · obtain rfl : k = n := by omega
      go_wp2
      go_end0
      exact ⟨rfl, HV.out⟩
/-- What comes of a walk over whatever lists. -/
theorem walk_any (a b : Option Addr) (n m cap cap' : Nat) (A B : Nat → Int) (hn : n ≤ 1000) (hm : m ≤ 1000) (N : Nat) (caps : Array Value) (Inv : Nat → World → Prop) (hkeep : ∀ k W W', Inv k W → Below W.heap.size W W' → Inv k W')
    (HK : n = m → SdIn n A B → WkOk N caps a b n cap cap' A B Inv) (w : World) (h : IsInts w a n cap A) (h' : IsInts w b m cap' B) (hI : Inv 0 w) :
    Calls Try.prog 23 #[.slice a n cap, .slice b m cap', .func (.func N) #[] caps] w fun e w' => e = .returned (.tuple #[]) ∧ Inv (sdN n m A B) w' := by
  cases hb : sdB n m A B with
  | false =>
    rw [sdN, if_neg (by rw [hb]; simp)]
    exact (walk_no a b n m cap cap' A B hn hm hb N caps w h h').mono fun e w' ⟨he, hw⟩ => ⟨he, hkeep _ _ _ hI hw⟩
  | true =>
    rw [sdN, if_pos hb]
    obtain ⟨rfl, hin⟩ := sdB_iff.1 hb
    exact walk_yes a b n cap cap' A B hin N caps Inv (HK rfl hin) w hI
end Go.Proofs.Ytgbehapekfoaiaa
