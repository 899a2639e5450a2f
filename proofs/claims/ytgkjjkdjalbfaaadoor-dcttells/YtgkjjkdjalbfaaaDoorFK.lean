/-
  The contract of the document's Waves of what is right; what is right, in numbers of two parts; ints that are handed in.
-/
import Derived.Test.YtgkjjkdjalbfaaaDoorFH
import Derived.Test.YtgkjjkdjalbfaaaDoorFJ
import Derived.ChangeSlices
namespace Go.Proofs.YtgkjjkdjalbfaaaDoor
open Go.ChangeShapes Go.WideShapes Go.ChangeAt Go.RowKit
set_option linter.unusedVariables false

theorem right_ex {X Y : Nat → Int} {la lb : Nat} (h : rightB X Y la lb = true) :
    lb = la ∧ ∃ (m : Nat) (F : Nat → P2), m ≤ 6 ∧ la = 2 ^ m ∧ (∀ x, Bd 1048576 (F x)) ∧ (∀ i, i < la → X i = fst F i) ∧ (∀ i, i < la → Y i = snd F i) := by
  simp only [rightB, Bool.and_eq_true, decide_eq_true_eq] at h
  obtain ⟨⟨⟨rfl, hf⟩, hx⟩, hy⟩ := h
  obtain ⟨m, hm, e⟩ := fits_ex hf
  rw [allIn_iff] at hx hy
  refine ⟨rfl, m, fun x => if x < la then (X x, Y x) else (0, 0), hm, e, fun x => ?_, fun i hi => ?_, fun i hi => ?_⟩
  · by_cases hl : x < la
    · simp only [hl, if_true]; exact ⟨hx x hl, hy x hl⟩
    · simp only [hl, if_false]; exact ⟨⟨by decide, by decide⟩, ⟨by decide, by decide⟩⟩
  · exact (congrArg Prod.fst (if_pos hi : (if i < la then (X i, Y i) else (0, 0)) = _)).symm
  · exact (congrArg Prod.snd (if_pos hi : (if i < la then (X i, Y i) else (0, 0)) = _)).symm
theorem right_of {m n : Nat} (hm : m ≤ 6) (hn : n = 2 ^ m) {F : Nat → P2} (bd : ∀ x, Bd 1048576 (F x)) : rightB (fst F) (snd F) n n = true := by
  have h1 := okL_yes (fun i => (bd i).1) n
  have h2 := okL_yes (fun i => (bd i).2) n
  have h3 : fitsF (n : Int) = true := by rw [hn]; exact fits_pow m (by omega)
  rw [rightB, h3, h1, h2]; simp
theorem rwaves_yes {m : Nat} (hm : m ≤ 6) (n : Nat) (hn : n = 2 ^ m) (a c : Option Addr) (ca cb : Nat) (F : Nat → P2) (bd : ∀ x, Bd 1048576 (F x)) (w : World) (h : IsInts w a n ca (fst F)) (h' : IsInts w c n cb (snd F)) :
    Calls Tryd.prog 27 #[.slice a n ca, .slice c n cb] w (RPost m n F w) := by
  have H64 : n ≤ 64 := by rw [hn]; exact Nat.pow_le_pow_right (by omega) (show m ≤ 6 from hm)
  have HM : n ≤ maxLen := Nat.le_trans H64 (by decide)
  have HR : Hid (Calls Tryd.prog 43 #[.slice a n ca, .slice c n cb] w fun e w' => e = .returned (.bool true) ∧ w' = w) := by
    have := rright_any a c n ca n cb (fst F) (snd F) w (fun _ => h) (fun _ => h') HM HM
    rw [right_of hm hn bd] at this
    exact this
  have HW : Hid (Calls Tryd.prog 44 #[.slice a n ca, .slice c n cb] w (RPost m n F w)) := rwaves_any m hm n hn a c ca cb F bd w h h'
  clear h h' bd hn H64 HM
  go_enter Tryd.func27, Tryd.ntmps27
  go_wp2_with (first
    | (go_at_call 43; refine HR.out.mono ?_; rintro e w1 ⟨rfl, rfl⟩)
    | (go_at_call 44; refine HW.out.mono ?_; rintro e w1 ⟨a1, c1, a2, c2, rfl, hq⟩; replace hq : Hid _ := hq))
  go_ret2
  exact ⟨a1, c1, a2, c2, rfl, hq.out⟩

section
variable {H : Type} {enc : TypeId × Value → H} {P : Program} {w : World} {base : Nat} {held : Bool}
end
end Go.Proofs.YtgkjjkdjalbfaaaDoor
