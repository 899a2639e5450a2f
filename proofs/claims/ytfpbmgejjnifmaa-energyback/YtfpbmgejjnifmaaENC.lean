/-
  What is expected, band by band: two functions that share what was told last.
-/
import Derived.Test.YtfpbmgejjnifmaaENB
import Derived.BigRegion
namespace Go.Proofs.Ytfpbmgejjnifmaa
open Go.ChangeShapes Go.WideShapes Go.ChangeAt Go.RowKit
set_option linter.unusedVariables false

/-- Blocks g, g + 1 and g + 2 are what both functions share: does the row stand alone, the row ahead, what was told last. -/
structure ExpAt (g : Nat) (i : Bool) (a : Option Addr) (len cap : Nat) (q : Int) (w : World) : Prop where
  one : IsAt g 4 #[.bool i] w
  two : IsAt (g + 1) 22 #[.slice a len cap] w
  last : IsAt (g + 2) 3 #[.int .i64 q] w
theorem ExpAt.frame {B g : Nat} {i : Bool} {a : Option Addr} {len cap : Nat} {q : Int} {w w' : World} (h : ExpAt g i a len cap q w) (hb : Below B w w') (hB : g + 3 ≤ B) : ExpAt g i a len cap q w' :=
  ⟨(hb.block g (by omega)).trans h.one, (hb.block (g + 1) (by omega)).trans h.two, (hb.block (g + 2) (by omega)).trans h.last⟩
theorem ExpAt.lt {g : Nat} {i : Bool} {a : Option Addr} {len cap : Nat} {q : Int} {w : World} (h : ExpAt g i a len cap q w) : g + 3 ≤ w.heap.size := by
  have h1 : w.heap[g + 2]? = some _ := h.last
  have := (Array.getElem?_eq_some_iff.1 h1).1
  omega
theorem ExpAt.below {g : Nat} {i : Bool} {a : Option Addr} {len cap : Nat} {q : Int} {w w' : World} (h : ExpAt g i a len cap q w) (hb : Below w.heap.size w w') : ExpAt g i a len cap q w' := h.frame hb h.lt
theorem ExpAt.other {g r o : Nat} {i : Bool} {a : Option Addr} {len cap : Nat} {q : Int} {w : World} (h : ExpAt g i a len cap q w) (hr : r < g) (v : Value) : ExpAt g i a len cap q (w.setCell ⟨r, o, none⟩ v) :=
  ⟨h.one.other (show g ≠ r by omega) v, h.two.other (show g + 1 ≠ r by omega) v, h.last.other (show g + 2 ≠ r by omega) v⟩
theorem ExpAt.tell {g : Nat} {i : Bool} {a : Option Addr} {len cap : Nat} {q : Int} {w : World} (h : ExpAt g i a len cap q w) (x : Int) : ExpAt g i a len cap x (w.setCell ⟨g + 2, 0, none⟩ (.int .i64 x)) :=
  ⟨h.one.other (show g ≠ g + 2 by omega) _, h.two.other (show g + 1 ≠ g + 2 by omega) _, h.last.set 0 _⟩
/-- The two functions. -/
abbrev expV (g : Nat) : Value := .func (.func 19) #[] #[.pointer (some ⟨g, 0, none⟩), .pointer (some ⟨g + 2, 0, none⟩), .pointer (some ⟨g + 1, 0, none⟩)]
abbrev keepV (g : Nat) : Value := .func (.func 20) #[] #[.pointer (some ⟨g + 2, 0, none⟩)]
theorem three_new (w : World) (i : Bool) (a : Option Addr) (len cap : Nat) (q : Int) :
    ExpAt w.heap.size i a len cap q (((w.alloc (.cells #[.bool i] 4)).alloc (.cells #[.slice a len cap] 22)).alloc (.cells #[.int .i64 q] 3)) := by
  refine ⟨?_, ?_, ?_⟩
  · exact (al_old _ (by rw [al_size, al_size]; omega)).trans ((al_old _ (by rw [al_size]; omega)).trans (al_new w _))
  · have := al_new (w.alloc (.cells #[.bool i] 4)) (.cells #[.slice a len cap] 22)
    rw [al_size] at this
    exact (al_old _ (by rw [al_size, al_size]; omega)).trans this
  · have := al_new ((w.alloc (.cells #[.bool i] 4)).alloc (.cells #[.slice a len cap] 22)) (.cells #[.int .i64 q] 3)
    rw [al_size, al_size] at this
    exact this
theorem expecting_any (i : Bool) (a : Option Addr) (len cap : Nat) (P : Nat → Int) (hp : i = false → len = 13) (w : World) (h : IsInts w a len cap P) :
    Calls Try.prog 15 #[.bool i, .slice a len cap] w fun e w' => e = .returned (.tuple #[expV w.heap.size, keepV w.heap.size]) ∧ ExpAt w.heap.size i a len cap (eBeg i P) w' ∧ Below w.heap.size w w' := by
  have hbel : ∀ q : Int, Below w.heap.size w (((w.alloc (.cells #[.bool i] 4)).alloc (.cells #[.slice a len cap] 22)).alloc (.cells #[.int .i64 q] 3)) := fun q =>
    (((Below.refl _ w).alloc (Nat.le_refl _) _).alloc (by rw [al_size]; omega) _).alloc (by rw [al_size, al_size]; omega) _
  cases i with
  | true =>
    have HE := hid (three_new w true a len cap 8)
    have HB := hid (hbel 8)
    clear h hbel hp
    go_enter Try.func15, Try.ntmps15
    go_wp2
    go_ret2
    exact ⟨rfl, HE.out, HB.out⟩
  | false =>
    obtain rfl := hp rfl
    obtain ⟨b, off, rfl, hc⟩ := h.cells (by omega)
    have hck := hc _ (hbel 8) 0 (by omega)
    have HE := hid (three_new w false (some ⟨b, off, none⟩) 13 cap (P 0))
    have HB := hid (hbel (P 0))
    have e : eBeg false P = P 0 := rfl
    rw [e]
    rw [Nat.add_zero] at hck
    clear h hbel hp hc e
    generalize P 0 = q at *
    go_enter Try.func15, Try.ntmps15
    go_wp2
    go_ret2
    exact ⟨rfl, HE.out, HB.out⟩
/-- What is expected of band b. -/
theorem expected_any (i : Bool) (a : Option Addr) (len cap : Nat) (P : Nat → Int) (hp : i = false → len = 13) (ha : Aside i P) (q : Int) (hq : 0 ≤ q ∧ q ≤ 23) (b : Nat) (hb : b < 13) (g : Nat) (w : World) (h : IsInts w a len cap P) (he : ExpAt g i a len cap q w) :
    Calls Try.prog 19 #[.int .i64 b, .pointer (some ⟨g, 0, none⟩), .pointer (some ⟨g + 2, 0, none⟩), .pointer (some ⟨g + 1, 0, none⟩)] w fun e w' => e = .returned (.int .i64 (expL i P q b)) ∧ Below w.heap.size w w' := by
  have c1 : ∀ W, Below w.heap.size w W → W.cell? ⟨g, 0, none⟩ = some (.bool i) := fun W hW => (he.below hW).one.cell 0
  have c2 : ∀ W, Below w.heap.size w W → W.cell? ⟨g + 1, 0, none⟩ = some (.slice a len cap) := fun W hW => (he.below hW).two.cell 0
  have c3 : ∀ W, Below w.heap.size w W → W.cell? ⟨g + 2, 0, none⟩ = some (.int .i64 q) := fun W hW => (he.below hW).last.cell 0
  have HB0 := hid (Below.refl w.heap.size w)
  cases i with
  | true =>
    have e : expL true P q b = q := rfl
    rw [e]
    have d1 := c1 w HB0.out
    have d3 := c3 w HB0.out
    clear c1 c2 c3 h he hp ha
    go_enter Try.func19, Try.ntmps19
    go_wp2
    go_ret
    exact ⟨rfl, HB0.out⟩
  | false =>
    obtain rfl := hp rfl
    obtain ⟨pb, off, rfl, hc⟩ := h.cells (by omega)
    have hpb := ha rfl b hb
    have e : expL false P q b = (3 * P b + q) / 4 := rfl
    have HE := hid e
    have d1 := c1 w HB0.out
    have c4 := fun W hW => hc W hW b hb
    have C2 := hid c2
    have C3 := hid c3
    have C4 := hid c4
    clear c1 c2 c3 c4 h he hp ha hc e
    generalize P b = p at *
    go_enter Try.func19, Try.ntmps19
    go_wp2
    refine region_below (by kernel_rfl) (by kernel_rfl) ?_
    repeat (go_big_quiet_step (first
      | (intro hq; rfl)
      | (intro hq; rw [C2.out _ hq]; exact ⟨rfl, rfl⟩)
      | (intro hq; rw [C3.out _ hq]; exact ⟨rfl, rfl⟩)
      | (intro hq; rw [C4.out _ hq]; exact ⟨rfl, rfl⟩)))
    refine wpQuiet_nil ?_
    intro w1 hw1
    have HB1 := hid hw1
    clear hw1 C2 C3 C4
    go_wp2
    go_ret
    exact ⟨ret_int HE.out.symm, HB1.out⟩
/-- What was told last is kept. -/
theorem keep_any (x : Int) (i : Bool) (a : Option Addr) (len cap : Nat) (q : Int) (g : Nat) (w : World) (he : ExpAt g i a len cap q w) :
    Calls Try.prog 20 #[.int .i64 x, .pointer (some ⟨g + 2, 0, none⟩)] w fun e w' => e = .returned (.tuple #[]) ∧ w' = w.setCell ⟨g + 2, 0, none⟩ (.int .i64 x) := by
  have d3 := he.last.cell 0
  have f3 := he.last.frozen 0
  clear he
  go_enter Try.func20, Try.ntmps20
  go_wp2
  go_end0
  exact ⟨rfl, rfl⟩
end Go.Proofs.Ytfpbmgejjnifmaa
