/-
  The program's All.
-/
import Derived.Test.YtjfngheefnmolaaDoorALB
import Derived.Test.YtjfngheefnmolaaDoorLYP
import Derived.Test.YtjfngheefnmolaaDoorENB
import Derived.Test.YtjfngheefnmolaaDoorOI
import Derived.Test.YtjfngheefnmolaaDoorTL
namespace Go.Proofs.YtjfngheefnmolaaDoor
open Go.ChangeShapes Go.WideShapes Go.ChangeAt Go.RowKit
set_option linter.unusedVariables false

theorem row_bd {C : Nat → Int} (h : eRightB 13 C = true) : ∀ b, b < 13 → 0 ≤ C b ∧ C b ≤ 23 := by
  simp [eRightB] at h
  exact (allIn_iff _ _ _ _).1 h
def qualB (q : Int) : Bool := decide (0 ≤ q) && decide (q ≤ 10)
set_option maxRecDepth 100000 in
theorem all_yes (q : Int) (hq : qualB q = true) (a : Option Addr) (cap : Nat) (C : Nat → Int) (hC : eRightB 13 C = true) (w : World) (hw : WTab w) (h : IsInts w a 13 cap C) :
    Calls Tryd.prog 9 #[.int .i64 q, .slice a 13 cap] w (OPost 13 (bandsF q C) w) := by
  have K1 := hid (quality_any q w)
  have K2 := hid (right_any a 13 cap C (by decide) w h)
  rw [show (decide (0 ≤ q) && decide (q ≤ 10)) = true from hq] at K1
  rw [hC] at K2
  have hmk : ∀ w, (Instr.makeSlice 22 (.int .i64 13) (.int .i64 13)).run Tryd.prog w = .ok (.slice (some ⟨w.heap.size, 0, none⟩) 13 13) (w.alloc (.cells (rowA 13 (fun _ => 0)) 3)) := make_ints (n := 13) (by omega)
  have hb1 : Below w.heap.size w (w.alloc (.cells (rowA 13 (fun _ => 0)) 3)) := (Below.refl _ w).alloc (Nat.le_refl _) _
  have hr00 : RowAt w.heap.size 13 (fun _ => 0) (w.alloc (.cells (rowA 13 (fun _ => 0)) 3)) := al_new w _
  have hr0 : RowAt w.heap.size 13 (tilF 0 (bandsF q C)) (w.alloc (.cells (rowA 13 (fun _ => 0)) 3)) := hr00.congr (fun j _ => by simp [tilF])
  obtain ⟨cb, co, rfl, hcc⟩ := h.cells (by omega)
  have HC := hid hcc
  have HB := hid (row_bd hC)
  have HW := hid hw
  have H0 := hid (And.intro hb1 hr0)
  obtain ⟨G, hG⟩ : ∃ G, G = bandsF q C := ⟨_, rfl⟩
  have HG := hid hG
  rw [← hG] at H0 ⊢
  clear h hC hq hcc hw hb1 hr0 hr00 hG
  go_enter Tryd.func9, Tryd.ntmps9
  go_wp2_with (fail)
  refine Calls.mono K1.out ?_
  rintro e w1 ⟨rfl, h1⟩
  rw [h1]
  clear K1 h1 w1
  go_wp2_with (fail)
  refine Calls.mono K2.out ?_
  rintro e w1 ⟨rfl, h1⟩
  rw [h1]
  clear K2 h1 w1
  go_wp2
  go_loopw [21] (fun k wr => ∃ n : Nat, n ≤ 13 ∧ k = .int .i64 n ∧ Hid (Below w.heap.size w wr) ∧ Hid (RowAt w.heap.size 13 (tilF n G) wr)) (fun k _ => 13 - (intOf k).toNat)
  case atStart => exact ⟨0, by omega, rfl, H0.out.1, H0.out.2⟩
  case round =>
    clear H0 hmk
    obtain ⟨k, hk, rfl, HE, HR⟩ := hrel
    by_cases hlt : k < 13
    · have hx := HC.out wr HE.out k hlt
      have KW := hid (width_any (k : Int) wr (HW.out.below HE.out))
      rw [widF_nat hlt] at KW
      have KB := hid (band_any q (C k) ((widN k : Nat) : Int) wr)
      have hgk : bandF q (C k) ((widN k : Nat) : Int) = G k := by rw [HG.out]; rfl
      rw [hgk] at KB
      have hcell := HR.out.get hlt
      have hfro := HR.out.frozen k
      have HR2 := hid (HR.out.set hlt (G k))
      rw [til_set] at HR2
      have HE2 := hid (HE.out.setCell (p := ⟨w.heap.size, k, none⟩) (Nat.le_refl _) (.int .i64 (G k)))
      generalize G k = y at *
      generalize C k = x at *
      generalize ((widN k : Nat) : Int) = z at *
      clear HR HE hgk
      go_wp2_with (fail)
      refine Calls.mono KW.out ?_
      rintro e w1 ⟨rfl, rfl⟩
      go_wp2_with (fail)
      refine Calls.mono KB.out ?_
      rintro e w1 ⟨rfl, rfl⟩
      go_wp2
      exact ⟨⟨k + 1, by omega, by go_num, HE2, HR2⟩, by simp [intOf]; omega⟩
    · obtain rfl : k = 13 := by omega
      go_wp2
      go_ret
      exact ⟨_, _, rfl, (HR.out.congr (til_all _ 13)).ints (by decide), HE.out, fun x hx => by cases hx; exact Nat.le_refl _⟩
/-- Of others there is none. -/
theorem all_no (q : Int) (a : Option Addr) (len cap : Nat) (C : Nat → Int) (ml : len ≤ maxLen) (hn : (qualB q && eRightB len C) = false) (w : World) (h : IsInts w a len cap C) :
    Calls Tryd.prog 9 #[.int .i64 q, .slice a len cap] w fun e w' => e = .returned (.slice none 0 0) ∧ w' = w := by
  have K1 : Hid (Calls Tryd.prog 11 #[.int .i64 q] w fun e w' => e = .returned (.bool (qualB q)) ∧ w' = w) := quality_any q w
  have K2 := hid (right_any a len cap C ml w h)
  clear h
  cases hq : qualB q with
  | false =>
    rw [hq] at K1
    clear K2 hn hq
    go_enter Tryd.func9, Tryd.ntmps9
    go_wp2_with (fail)
    refine Calls.mono K1.out ?_
    rintro e w1 ⟨rfl, rfl⟩
    go_wp2
    go_ret
    exact ⟨rfl, rfl⟩
  | true =>
    rw [hq] at K1
    have hR : eRightB len C = false := by simpa [hq] using hn
    rw [hR] at K2
    clear hn hq hR
    go_enter Tryd.func9, Tryd.ntmps9
    go_wp2_with (fail)
    refine Calls.mono K1.out ?_
    rintro e w1 ⟨rfl, rfl⟩
    go_wp2_with (fail)
    refine Calls.mono K2.out ?_
    rintro e w1 ⟨rfl, rfl⟩
    go_wp2
    go_ret
    exact ⟨rfl, rfl⟩
end Go.Proofs.YtjfngheefnmolaaDoor
