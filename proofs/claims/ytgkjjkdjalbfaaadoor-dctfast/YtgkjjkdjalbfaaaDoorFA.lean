/-
  The contracts of fft's small functions: countFits, places, turnBits, within; the table of math/bits, as it is laid.
-/
import Derived.Test.YtgkjjkdjalbfaaaDoorFO
import Derived.Test.YtgkjjkdjalbfaaaDoorA
import Derived.Lib.LaidU8
import Derived.MakeChecks
namespace Go.Proofs.YtgkjjkdjalbfaaaDoor
open Go.ChangeShapes Go.WideShapes Go.ChangeAt Go.RowKit
set_option linter.unusedVariables false

/-- A power of two from 1 to 64. -/
def fitsF (n : Int) : Bool := if 1 ≤ n ∧ n ≤ 64 then bits .and .i64 n (n - 1) == 0 else false
theorem fits_any (n : Int) (w : World) :
    Calls Tryd.prog 36 #[.int .i64 n] w fun e w' => e = .returned (.bool (fitsF n)) ∧ w' = w := by
  by_cases h1 : 1 ≤ n
  · by_cases h2 : n ≤ 64
    · rw [fitsF, if_pos ⟨h1, h2⟩]
      generalize hb : bits BinOp.and IntKind.i64 n (n - 1) = b
      go_enter Tryd.func36, Tryd.ntmps36
      go_wp2
      go_ret
      exact ⟨by simp, rfl⟩
    · rw [fitsF, if_neg (by omega)]
      go_enter Tryd.func36, Tryd.ntmps36
      go_wp2
      go_ret
      exact ⟨rfl, rfl⟩
  · rw [fitsF, if_neg (by omega)]
    go_enter Tryd.func36, Tryd.ntmps36
    go_wp2
    go_ret
    exact ⟨rfl, rfl⟩
theorem fits_all : ∀ n, n < 65 → fitsF ((n : Nat) : Int) = true → n = 1 ∨ n = 2 ∨ n = 4 ∨ n = 8 ∨ n = 16 ∨ n = 32 ∨ n = 64 := by decide +kernel
theorem fits_pow : ∀ m : Nat, m < 7 → fitsF ((2 ^ m : Nat) : Int) = true := by decide +kernel
theorem fits_ex {n : Nat} (h : fitsF (n : Int) = true) : ∃ m, m ≤ 6 ∧ n = 2 ^ m := by
  have hn : n ≤ 64 := by
    by_cases hh : 1 ≤ (n : Int) ∧ (n : Int) ≤ 64
    · omega
    · rw [fitsF, if_neg hh] at h; cases h
  rcases fits_all n (by omega) h with e | e | e | e | e | e | e
  · exact ⟨0, by omega, e⟩
  · exact ⟨1, by omega, e⟩
  · exact ⟨2, by omega, e⟩
  · exact ⟨3, by omega, e⟩
  · exact ⟨4, by omega, e⟩
  · exact ⟨5, by omega, e⟩
  · exact ⟨6, by omega, e⟩

def dbL : List Int := [0, 1, 56, 2, 57, 49, 28, 3, 61, 58, 42, 50, 38, 29, 17, 4, 62, 47, 59, 36, 45, 43, 51, 22, 53, 39, 33, 30, 24, 18, 12, 5, 63, 55, 48, 27, 60, 41, 37, 16, 46, 35, 44, 21, 52, 32, 23, 11, 54, 26, 40, 15, 34, 20, 31, 10, 25, 14, 19, 9, 13, 8, 7, 6]
/-- The table of math/bits stands where it was laid. -/
def DTab (w : World) : Prop := ∀ j : Nat, j < 64 → w.cell? ⟨1, j, none⟩ = some (.int .u8 (dbL.getD j 0))
theorem DTab.lt {w : World} (h : DTab w) : 1 < w.heap.size := block_lt_of_cell (h 0 (by decide))
theorem DTab.frame {B : Nat} {w w' : World} (h : DTab w) (hb : Below B w w') (hB : 1 < B) : DTab w' := fun j hj => by
  rw [hb.cell (p := ⟨1, j, none⟩) hB]
  exact h j hj
theorem DTab.below {w w' : World} (h : DTab w) (hb : Below w.heap.size w w') : DTab w' := h.frame hb h.lt
theorem dtab_of_reads {w : World} (h : Lib.VarReads Tryd.prog w "math/bits.deBruijn64tab" Rows.laid_math_bits_deBruijn64tab) : DTab w := by
  obtain ⟨g, t, cs, fuel, p, hg, hty, hvar, hd⟩ := h
  obtain rfl := Option.some.inj ((show Tryd.prog.globalNamed "math/bits.deBruijn64tab" = some 1 by kernel_rfl).symm.trans hg)
  obtain rfl := Option.some.inj ((show (Tryd.prog.globals[1]?).map (·.type) = some 67 by kernel_rfl).symm.trans hty)
  have hcs := Lib.cells_of_tab (zs := dbL) (k := .u8) Tryd.underlying67 Tryd.underlying5 (by kernel_rfl) (by kernel_rfl) hd
  intro j hj
  have := World.var?_cell hg hvar j
  rw [this, ← Array.getElem?_toList, hcs]
  have hl : j < dbL.length := hj
  simp [List.getD_eq_getElem?_getD, List.getElem?_eq_getElem hl]
theorem dtab_of_laid {w : World} {l : List (String × DataW Unit)} (hp : (l.all fun x => x.2.handleName?.isNone) = true) (h : laidMetH Tryd.prog l w) (hm : ("math/bits.deBruijn64tab", Rows.laid_math_bits_deBruijn64tab) ∈ l) : DTab w := by
  rw [MakeChecks.laidMetH_plain _ _ _ hp] at h
  exact dtab_of_reads (Lib.laidMet.reads h hm)
theorem tz64g (x a b v : Int) (j : Nat) (h0 : (x == 0) = false) (h1 : bits .and .u64 x (IntKind.u64.wrap (-x)) = a) (h2 : IntKind.u64.wrap (a * 285870213051353865) = b) (h3 : b / 288230376151711744 = (j : Int)) (hj : j < 64)
    (w : World) (hc : w.cell? ⟨1, j, none⟩ = some (.int .u8 v)) (hv : wrap64 v = v) :
    Calls Tryd.prog 54 #[.int .u64 x] w fun e w' => e = .returned (.int .i64 v) ∧ w' = w := by
  have hlo : 0 ≤ (j : Int) := by omega
  have hhi : (j : Int) < 64 := by omega
  go_enter Tryd.func54, Tryd.ntmps54
  go_wp2
  go_ret
  exact ⟨congrArg (fun z => Ending.returned (.int .i64 z)) hv, rfl⟩
theorem tz64_at : ∀ m : Nat, m < 7 → ((((2 ^ m : Nat) : Int) == 0) = false) ∧ bits .and .u64 ((2 ^ m : Nat) : Int) (IntKind.u64.wrap (-((2 ^ m : Nat) : Int))) = ((2 ^ m : Nat) : Int) ∧
    dbL.getD (IntKind.u64.wrap (((2 ^ m : Nat) : Int) * 285870213051353865) / 288230376151711744).toNat 0 = (m : Int) ∧ 0 ≤ IntKind.u64.wrap (((2 ^ m : Nat) : Int) * 285870213051353865) / 288230376151711744 ∧
    (IntKind.u64.wrap (((2 ^ m : Nat) : Int) * 285870213051353865) / 288230376151711744).toNat < 64 ∧ IntKind.u64.wrap ((2 ^ m : Nat) : Int) = ((2 ^ m : Nat) : Int) := by decide +kernel
theorem tz64 {m : Nat} (hm : m ≤ 6) (w : World) (ht : DTab w) :
    Calls Tryd.prog 54 #[.int .u64 ((2 ^ m : Nat) : Int)] w fun e w' => e = .returned (.int .i64 (m : Int)) ∧ w' = w := by
  obtain ⟨h0, h1, h2, h3, h4, _⟩ := tz64_at m (by omega)
  have hc := ht _ h4
  rw [h2] at hc
  exact tz64g _ _ _ _ _ h0 h1 rfl (by omega) h4 w hc (by unfold wrap64; omega)
theorem tz_any {m : Nat} (hm : m ≤ 6) (w : World) (ht : DTab w) :
    Calls Tryd.prog 50 #[.int .u64 ((2 ^ m : Nat) : Int)] w fun e w' => e = .returned (.int .i64 (m : Int)) ∧ w' = w := by
  have H : Hid (Calls Tryd.prog 54 #[.int .u64 ((2 ^ m : Nat) : Int)] w fun e w' => e = .returned (.int .i64 (m : Int)) ∧ w' = w) := tz64 hm w ht
  generalize ((2 ^ m : Nat) : Int) = x at *
  go_enter Tryd.func50, Tryd.ntmps50
  go_wp2_with (go_at_call 54; refine H.out.mono ?_; rintro e w1 ⟨rfl, rfl⟩)
  go_ret
  exact ⟨rfl, rfl⟩
theorem places_any {m : Nat} (hm : m ≤ 6) (w : World) (ht : DTab w) :
    Calls Tryd.prog 39 #[.int .i64 ((2 ^ m : Nat) : Int)] w fun e w' => e = .returned (.int .i64 (m : Int)) ∧ w' = w := by
  have H : Hid (Calls Tryd.prog 50 #[.int .u64 ((2 ^ m : Nat) : Int)] w fun e w' => e = .returned (.int .i64 (m : Int)) ∧ w' = w) := tz_any hm w ht
  obtain ⟨_, _, _, _, _, h6⟩ := tz64_at m (by omega)
  generalize ((2 ^ m : Nat) : Int) = x at *
  go_enter Tryd.func39, Tryd.ntmps39
  go_wp2_with (go_at_call 50; refine H.out.mono ?_; rintro e w1 ⟨rfl, rfl⟩)
  go_ret
  exact ⟨rfl, rfl⟩
theorem bit_and : ∀ c : Nat, c < 64 → bits .and .i64 (c : Int) 1 = ((c % 2 : Nat) : Int) := by decide +kernel
theorem bit_or : ∀ t : Nat, t < 64 → ∀ b : Nat, b < 2 → bits .or .i64 ((2 * t : Nat) : Int) (b : Int) = ((2 * t + b : Nat) : Int) := by decide +kernel
theorem turnBits_any {m i : Nat} (hm : m ≤ 6) (hi : i < 64) (w : World) :
    Calls Tryd.prog 49 #[.int .i64 i, .int .i64 m] w fun e w' => e = .returned (.int .i64 (rev m i : Nat)) ∧ w' = w := by
  go_enter Tryd.func49, Tryd.ntmps49
  go_wp2
  go_loop [0, 5, 7] (fun c t k => ∃ q : Nat, q ≤ m ∧ c = .int .i64 (i / 2 ^ q : Nat) ∧ t = .int .i64 (rev q i : Nat) ∧ k = .int .i64 q) (fun _ _ k => m - (intOf k).toNat)
  case atStart => exact ⟨0, Nat.zero_le _, by simp, by simp [rev], rfl⟩
  case round =>
    obtain ⟨q, hq, rfl, rfl, rfl⟩ := hrel
    by_cases hlt : q < m
    · have h1 : i / 2 ^ q < 64 := Nat.lt_of_le_of_lt (Nat.div_le_self _ _) hi
      have h2 : rev q i < 64 := Nat.lt_of_lt_of_le (rev_lt q i) (show 2 ^ q ≤ 2 ^ 6 from Nat.pow_le_pow_right (by omega) (by omega))
      have b1 := bit_and _ h1
      have b2 := bit_or _ h2 (i / 2 ^ q % 2) (by omega)
      have HB : Hid (bits .or .i64 ((rev q i : Int) * 2) (((i / 2 ^ q : Nat) : Int) % 2) = ((rev (q + 1) i : Nat) : Int)) := by
        show _ = _
        rw [rev_snoc, ← b2]
        congr 1 <;> omega
      have HD : Hid (i / 2 ^ (q + 1) = i / 2 ^ q / 2) := by show _ = _; rw [Nat.pow_succ, Nat.div_div_eq_div_mul]
      clear b2
      generalize rev q i = t at *
      generalize i / 2 ^ q = c at *
      go_wp2
      refine ⟨⟨q + 1, by omega, ?_, ?_, by go_num⟩, by simp [intOf]; omega⟩
      · rw [HD.out]; rfl
      · rw [HB.out]
    · obtain rfl : q = m := by omega
      go_wp2
      go_ret
      exact ⟨rfl, rfl⟩
end Go.Proofs.YtgkjjkdjalbfaaaDoor
