/-
  The contract of the document's Waves; fft.Waves that refuses.
-/
import Derived.Test.YtfhcfdepjhdhfaaDoorZF
import Derived.Test.YtfhcfdepjhdhfaaDoorZP
import Derived.ChangeSlices
namespace Go.Proofs.YtfhcfdepjhdhfaaDoor
open Go.ChangeShapes Go.WideShapes Go.ChangeAt Go.RowKit
set_option linter.unusedVariables false

theorem waves_nil (a c : Option Addr) (la ca lb cb : Nat) (w : World) :
    Calls Tryd.prog 57 #[.pointer none, .slice a la ca, .slice c lb cb] w fun e w' => e = .returned (.tuple #[.slice none 0 0, .slice none 0 0]) ∧ w' = w := by
  go_enter Tryd.func57, Tryd.ntmps57
  go_wp2
  go_ret2
  exact ⟨rfl, rfl⟩
theorem rwaves_no (a c : Option Addr) (la ca lb cb : Nat) (X Y : Nat → Int) (w : World) (h : la ≤ 64 → IsInts w a la ca X) (h' : lb ≤ 64 → IsInts w c lb cb Y) (ml : la ≤ maxLen) (ml' : lb ≤ maxLen) (hr : rightB X Y la lb = false) :
    Calls Tryd.prog 61 #[.slice a la ca, .slice c lb cb] w fun e w' => e = .returned (.tuple #[.slice none 0 0, .slice none 0 0]) ∧ w' = w := by
  have HR : Hid (Calls Tryd.prog 75 #[.slice a la ca, .slice c lb cb] w fun e w' => e = .returned (.bool false) ∧ w' = w) := by
    have := rright_any a c la ca lb cb X Y w h h' ml ml'
    rw [hr] at this
    exact this
  clear h h' ml ml' hr
  go_enter Tryd.func61, Tryd.ntmps61
  go_wp2_with (go_at_call 75; refine HR.out.mono ?_; rintro e w1 ⟨rfl, rfl⟩)
  go_ret2
  exact ⟨rfl, rfl⟩
theorem waves_no (t : Nat) (a c : Option Addr) (la ca lb cb : Nat) (X Y : Nat → Int) (w : World) (h : la ≤ 64 → IsInts w a la ca X) (h' : lb ≤ 64 → IsInts w c lb cb Y) (ml : la ≤ maxLen) (ml' : lb ≤ maxLen) (hr : rightB X Y la lb = false) :
    Calls Tryd.prog 57 #[.pointer (some ⟨t, 0, none⟩), .slice a la ca, .slice c lb cb] w fun e w' => e = .returned (.tuple #[.slice none 0 0, .slice none 0 0]) ∧ w' = w := by
  have hM : la ≤ 9223372036854775807 := Nat.le_trans ml (by decide)
  have hM' : lb ≤ 9223372036854775807 := Nat.le_trans ml' (by decide)
  by_cases h1 : ¬ la = lb
  · have hne : ((la : Int) == (lb : Int)) = false := by simp; omega
    clear h h' ml ml' hr
    go_enter Tryd.func57, Tryd.ntmps57
    go_wp2
    go_ret2
    exact ⟨rfl, rfl⟩
  have h1 := Decidable.not_not.1 h1
  subst h1
  have HF : Hid (Calls Tryd.prog 68 #[.int .i64 la] w fun e w' => e = .returned (.bool (fitsF la)) ∧ w' = w) := fits_any _ w
  have HR : Hid ((fitsF la && okL X la && okL Y la) = false) := by show _ = _; simpa [rightB] using hr
  by_cases h2 : fitsF (la : Int) = false
  · rw [h2] at HF
    clear h h' ml ml' hr HR h2
    go_enter Tryd.func57, Tryd.ntmps57
    go_wp2_with (go_at_call 68; refine HF.out.mono ?_; rintro e w1 ⟨rfl, rfl⟩)
    go_ret2
    exact ⟨rfl, rfl⟩
  have h2 : fitsF (la : Int) = true := by simpa using h2
  have h64 : la ≤ 64 := by
    obtain ⟨m, hm, e⟩ := fits_ex h2
    rw [e]; exact Nat.pow_le_pow_right (by omega) (show m ≤ 6 from hm)
  have HA : Hid (Calls Tryd.prog 69 #[.slice a la ca] w fun e w' => e = .returned (.bool (okL X la)) ∧ w' = w) := fwithin_any a la ca X h64 w (h h64)
  have HB : Hid (Calls Tryd.prog 69 #[.slice c la cb] w fun e w' => e = .returned (.bool (okL Y la)) ∧ w' = w) := fwithin_any c la cb Y h64 w (h' h64)
  rw [h2] at HF
  rw [h2, Bool.true_and] at HR
  clear h h' ml ml' hr h2
  generalize okL X la = b1 at *
  generalize okL Y la = b2 at *
  cases b1
  · clear HB HR
    go_enter Tryd.func57, Tryd.ntmps57
    go_wp2_with (first
      | (go_at_call 68; refine HF.out.mono ?_; rintro e w1 ⟨rfl, rfl⟩)
      | (go_at_call 69; (with_reducible refine HA.out.mono ?_); rintro e w1 ⟨rfl, rfl⟩))
    go_ret2
    exact ⟨rfl, rfl⟩
  · have : b2 = false := by simpa using HR.out
    subst this
    clear HR
    go_enter Tryd.func57, Tryd.ntmps57
    go_wp2_with (first
      | (go_at_call 68; refine HF.out.mono ?_; rintro e w1 ⟨rfl, rfl⟩)
      | (go_at_call 69; (with_reducible refine HA.out.mono ?_); rintro e w1 ⟨rfl, rfl⟩)
      | (go_at_call 69; (with_reducible refine HB.out.mono ?_); rintro e w1 ⟨rfl, rfl⟩))
    go_ret2
    exact ⟨rfl, rfl⟩
end Go.Proofs.YtfhcfdepjhdhfaaDoor
/-
  The contract of the document's Waves of what is right; what is right, in numbers of two parts; ints that are handed in.
-/
namespace Go.Proofs.YtfhcfdepjhdhfaaDoor
open Go.ChangeShapes Go.WideShapes Go.ChangeAt Go.RowKit
set_option linter.unusedVariables false

theorem right_ex {X Y : Nat → Int} {la lb : Nat} (h : rightB X Y la lb = true) :
    lb = la ∧ ∃ (m : Nat) (F : Nat → P2), m ≤ 6 ∧ la = 2 ^ m ∧ (∀ x, Bd 1048576 (F x)) ∧ (∀ i, i < la → X i = fst F i) ∧ (∀ i, i < la → Y i = snd F i) := by
  simp only [rightB, Bool.and_eq_true, decide_eq_true_eq] at h
  obtain ⟨⟨⟨rfl, hf⟩, hx⟩, hy⟩ := h
  obtain ⟨m, hm, e⟩ := fits_ex hf
  rw [allIn_iff] at hx hy
  refine ⟨rfl, m, fun x => if x < la then (X x, Y x) else (0, 0), hm, e, fun x => ?_, fun i hi => ?_, fun i hi => ?_⟩
  · by_cases hl : x < la
    · simp only [hl, if_true]; exact ⟨hx x hl, hy x hl⟩
    · simp only [hl, if_false]; exact ⟨⟨by decide, by decide⟩, ⟨by decide, by decide⟩⟩
  · exact (congrArg Prod.fst (if_pos hi : (if i < la then (X i, Y i) else (0, 0)) = _)).symm
  · exact (congrArg Prod.snd (if_pos hi : (if i < la then (X i, Y i) else (0, 0)) = _)).symm
theorem right_of {m n : Nat} (hm : m ≤ 6) (hn : n = 2 ^ m) {F : Nat → P2} (bd : ∀ x, Bd 1048576 (F x)) : rightB (fst F) (snd F) n n = true := by
  have h1 := okL_yes (fun i => (bd i).1) n
  have h2 := okL_yes (fun i => (bd i).2) n
  have h3 : fitsF (n : Int) = true := by rw [hn]; exact fits_pow m (by omega)
  rw [rightB, h3, h1, h2]; simp
theorem rwaves_yes {m : Nat} (hm : m ≤ 6) (n : Nat) (hn : n = 2 ^ m) (a c : Option Addr) (ca cb : Nat) (F : Nat → P2) (bd : ∀ x, Bd 1048576 (F x)) (w : World) (h : IsInts w a n ca (fst F)) (h' : IsInts w c n cb (snd F)) :
    Calls Tryd.prog 61 #[.slice a n ca, .slice c n cb] w (RPost m n F w) := by
  have H64 : n ≤ 64 := by rw [hn]; exact Nat.pow_le_pow_right (by omega) (show m ≤ 6 from hm)
  have HM : n ≤ maxLen := Nat.le_trans H64 (by decide)
  have HR : Hid (Calls Tryd.prog 75 #[.slice a n ca, .slice c n cb] w fun e w' => e = .returned (.bool true) ∧ w' = w) := by
    have := rright_any a c n ca n cb (fst F) (snd F) w (fun _ => h) (fun _ => h') HM HM
    rw [right_of hm hn bd] at this
    exact this
  have HW : Hid (Calls Tryd.prog 76 #[.slice a n ca, .slice c n cb] w (RPost m n F w)) := rwaves_any m hm n hn a c ca cb F bd w h h'
  clear h h' bd hn H64 HM
  go_enter Tryd.func61, Tryd.ntmps61
  go_wp2_with (first
    | (go_at_call 75; refine HR.out.mono ?_; rintro e w1 ⟨rfl, rfl⟩)
    | (go_at_call 76; refine HW.out.mono ?_; rintro e w1 ⟨a1, c1, a2, c2, rfl, hq⟩; replace hq : Hid _ := hq))
  go_ret2
  exact ⟨a1, c1, a2, c2, rfl, hq.out⟩

section
variable {H : Type} {enc : TypeId × Value → H} {P : Program} {w : World} {base : Nat} {held : Bool}
end
end Go.Proofs.YtfhcfdepjhdhfaaDoor
