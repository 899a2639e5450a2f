/-
  lap.Frame and the document's Frame, long and short at once.
-/
import Derived.Test.YtfhcfdepjhdhfaaDoorYT
import Derived.Test.YtfhcfdepjhdhfaaDoorYG
namespace Go.Proofs.YtfhcfdepjhdhfaaDoor
open Go.ChangeShapes Go.WideShapes Go.ChangeAt Go.RowKit
set_option linter.unusedVariables false

theorem back_lo {n : Nat} (hN : IsN n) {X : Nat → Int} (hX : ∀ i, i < n → -33554432 ≤ X i ∧ X i ≤ 33554432) (k : Nat) : -67108864 ≤ backF n X k ∧ backF n X k ≤ 67108864 := by
  have h := xsum_bd hX k
  unfold backF shrB
  rcases hN with rfl | rfl
  · rw [if_neg (by decide)]; omega
  · rw [if_pos rfl]; omega
/-- The blocks of a spectrum: how many numbers each has, how many there are, their spectra. -/
def nS (short : Bool) : Nat := if short then 8 else 64
def kS (short : Bool) : Nat := if short then 8 else 1
def xS (short : Bool) (X : Nat → Int) : Nat → Nat → Int := if short then (fun b => pickF b X) else (fun _ => X)
def yS (short : Bool) (X : Nat → Int) (b : Nat) : Nat → Int := backF (nS short) (xS short X b)
theorem nkS (short : Bool) : (nS short = 8 ∧ kS short = 8) ∨ (nS short = 64 ∧ kS short = 1) := by cases short <;> simp [nS, kS]
theorem isNS (short : Bool) : IsN (nS short) := by cases short <;> simp [nS, IsN]
theorem xS_bd (short : Bool) {X : Nat → Int} (hX : ∀ i, i < 64 → -33554432 ≤ X i ∧ X i ≤ 33554432) : ∀ b, b < kS short → ∀ i, i < nS short → -33554432 ≤ xS short X b i ∧ xS short X b i ≤ 33554432 := by
  cases short
  · intro b _ i hi; exact hX i (by simpa [nS] using hi)
  · intro b hb i hi
    have h1 : b < 8 := by simpa [kS] using hb
    have h2 : i < 8 := by simpa [nS] using hi
    exact hX (8 * i + b) (by omega)
theorem yS_fit (short : Bool) {X : Nat → Int} (hX : ∀ i, i < 64 → -33554432 ≤ X i ∧ X i ≤ 33554432) : ∀ b, b < kS short → Fit30 (yS short X b) (nS short) := fun b hb i _ => by
  have h := back_lo (isNS short) (xS_bd short hX b hb) i
  show -1073741824 ≤ backF (nS short) (xS short X b) i ∧ backF (nS short) (xS short X b) i ≤ 1073741824
  omega
/-- The samples, and the tail behind them. -/
def smpF (short : Bool) (T X : Nat → Int) : Nat → Int := frF (nS short) T (yS short X)
def endF (short : Bool) (T X : Nat → Int) : Nat → Int := tlF (nS short) T (yS short X) (kS short)
def okF (X T : Nat → Int) : Bool := allIn (-33554432) 33554432 X 64 && allIn (-35184372088832) 35184372088832 T 8
def LFPost (G T : Nat → Int) (w : World) (e : Ending) (w' : World) : Prop := ∃ r, e = .returned (.tuple #[.slice (some ⟨r, 0, none⟩) 64 64, arr8 T]) ∧ w.heap.size ≤ r ∧ RowAt r 64 G w' ∧ Below w.heap.size w w'
theorem frame_ok (short : Bool) (t : Nat) (a : Option Addr) (cap : Nat) (X T : Nat → Int) (hX : allIn (-33554432) 33554432 X 64 = true) (hT : allIn (-35184372088832) 35184372088832 T 8 = true) (w : World) (ht : Tab t w) (hs : STab w) (h : IsInts w a 64 cap X) :
    Calls Tryd.prog 9 #[.pointer (some ⟨t, 0, none⟩), arr8 T, .slice a 64 cap, .bool short] w (LFPost (smpF short T X) (endF short T X) w) := by
  have hb := (allIn_iff (-33554432) 33554432 X 64).1 hX
  refine frame_yes (nS short) (kS short) (nkS short) short t a cap X T (yS short X) hX hT (yS_fit short hb) w ht hs h (fun W q hW _ hq c1 c2 c3 => ?_)
  have h1 : ∀ V, Below w.heap.size W V → Tab t V := fun V hV => ht.below ht.1 (hW.trans hV)
  have h2 : ∀ V, Below w.heap.size W V → IsInts V a 64 cap X := fun V hV => h.below (hW.trans hV)
  cases short
  · exact blocks_long 4 (by omega) w.heap.size q t a cap X hb W hW.size hq h1 h2 c1 c2 c3
  · exact blocks_short 4 (by omega) w.heap.size q t a cap X hb W hW.size hq h1 h2 c1 c2 c3
theorem rframe_ok (short : Bool) (a : Option Addr) (cap : Nat) (X T : Nat → Int) (hX : allIn (-33554432) 33554432 X 64 = true) (hT : allIn (-35184372088832) 35184372088832 T 8 = true) (w : World) (h : IsInts w a 64 cap X) :
    Calls Tryd.prog 10 #[arr8 T, .slice a 64 cap, .bool short] w (FrPost 64 (smpF short T X) (endF short T X) w) := by
  have hb := (allIn_iff (-33554432) 33554432 X 64).1 hX
  refine rframe_yes (nS short) (kS short) (nkS short) short a cap X T (yS short X) (rightF_of (.inr rfl) hb) ((allIn_iff (-35184372088832) 35184372088832 T 8).1 hT) (yS_fit short hb) w h (fun W hW => ?_)
  cases short
  · exact rblocks_long a cap X hb W (h.below hW)
  · exact rblocks_short a cap X hb W (h.below hW)
theorem rframe_none (short : Bool) (a : Option Addr) (len cap : Nat) (X T : Nat → Int) (hl : len ≤ maxLen) (hX : ¬ (len = 64 ∧ allIn (-33554432) 33554432 X 64 = true ∧ allIn (-35184372088832) 35184372088832 T 8 = true)) (w : World) (h : IsInts w a len cap X) :
    Calls Tryd.prog 10 #[arr8 T, .slice a len cap, .bool short] w fun e w' => e = .returned (.tuple #[.slice none 0 0, arr8 fun _ => 0]) ∧ Below w.heap.size w w' := by
  refine rframe_no short a len cap X T hl (fun ⟨h1, h2, h3⟩ => hX ⟨h1, ?_, (allIn_iff (-35184372088832) 35184372088832 T 8).2 h3⟩) w h
  subst h1
  rwa [rightF_is (.inr rfl)] at h2
theorem rspectra_ok (short : Bool) (a : Option Addr) (cap : Nat) (X : Nat → Int) (w : World) (h : IsInts w a 64 cap X) :
    Calls Tryd.prog 17 #[.slice a 64 cap, .bool short] w (LPost (kS short) (nS short) (xS short X) w) := by
  cases short
  · exact rspectra_long a 64 cap X w h
  · exact rspectra_short a cap X w h
end Go.Proofs.YtfhcfdepjhdhfaaDoor
