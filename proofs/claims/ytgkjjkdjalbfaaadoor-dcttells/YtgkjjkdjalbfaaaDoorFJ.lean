/-
  The contract of the document's Waves; fft.Waves that refuses.
-/
import Derived.Test.YtgkjjkdjalbfaaaDoorFE
import Derived.Test.YtgkjjkdjalbfaaaDoorFF
namespace Go.Proofs.YtgkjjkdjalbfaaaDoor
open Go.ChangeShapes Go.WideShapes Go.ChangeAt Go.RowKit
set_option linter.unusedVariables false

theorem waves_nil (a c : Option Addr) (la ca lb cb : Nat) (w : World) :
    Calls Tryd.prog 23 #[.pointer none, .slice a la ca, .slice c lb cb] w fun e w' => e = .returned (.tuple #[.slice none 0 0, .slice none 0 0]) ∧ w' = w := by
  go_enter Tryd.func23, Tryd.ntmps23
  go_wp2
  go_ret2
  exact ⟨rfl, rfl⟩
theorem rwaves_no (a c : Option Addr) (la ca lb cb : Nat) (X Y : Nat → Int) (w : World) (h : la ≤ 64 → IsInts w a la ca X) (h' : lb ≤ 64 → IsInts w c lb cb Y) (ml : la ≤ maxLen) (ml' : lb ≤ maxLen) (hr : rightB X Y la lb = false) :
    Calls Tryd.prog 27 #[.slice a la ca, .slice c lb cb] w fun e w' => e = .returned (.tuple #[.slice none 0 0, .slice none 0 0]) ∧ w' = w := by
  have HR : Hid (Calls Tryd.prog 43 #[.slice a la ca, .slice c lb cb] w fun e w' => e = .returned (.bool false) ∧ w' = w) := by
    have := rright_any a c la ca lb cb X Y w h h' ml ml'
    rw [hr] at this
    exact this
  clear h h' ml ml' hr
  go_enter Tryd.func27, Tryd.ntmps27
  go_wp2_with (go_at_call 43; refine HR.out.mono ?_; rintro e w1 ⟨rfl, rfl⟩)
  go_ret2
  exact ⟨rfl, rfl⟩
theorem waves_no (t : Nat) (a c : Option Addr) (la ca lb cb : Nat) (X Y : Nat → Int) (w : World) (h : la ≤ 64 → IsInts w a la ca X) (h' : lb ≤ 64 → IsInts w c lb cb Y) (ml : la ≤ maxLen) (ml' : lb ≤ maxLen) (hr : rightB X Y la lb = false) :
    Calls Tryd.prog 23 #[.pointer (some ⟨t, 0, none⟩), .slice a la ca, .slice c lb cb] w fun e w' => e = .returned (.tuple #[.slice none 0 0, .slice none 0 0]) ∧ w' = w := by
  have hM : la ≤ 9223372036854775807 := Nat.le_trans ml (by decide)
  have hM' : lb ≤ 9223372036854775807 := Nat.le_trans ml' (by decide)
  by_cases h1 : ¬ la = lb
  · have hne : ((la : Int) == (lb : Int)) = false := by simp; omega
    clear h h' ml ml' hr
    go_enter Tryd.func23, Tryd.ntmps23
    go_wp2
    go_ret2
    exact ⟨rfl, rfl⟩
  have h1 := Decidable.not_not.1 h1
  subst h1
  have HF : Hid (Calls Tryd.prog 36 #[.int .i64 la] w fun e w' => e = .returned (.bool (fitsF la)) ∧ w' = w) := fits_any _ w
  have HR : Hid ((fitsF la && okL X la && okL Y la) = false) := by show _ = _; simpa [rightB] using hr
  by_cases h2 : fitsF (la : Int) = false
  · rw [h2] at HF
    clear h h' ml ml' hr HR h2
    go_enter Tryd.func23, Tryd.ntmps23
    go_wp2_with (go_at_call 36; refine HF.out.mono ?_; rintro e w1 ⟨rfl, rfl⟩)
    go_ret2
    exact ⟨rfl, rfl⟩
  have h2 : fitsF (la : Int) = true := by simpa using h2
  have h64 : la ≤ 64 := by
    obtain ⟨m, hm, e⟩ := fits_ex h2
    rw [e]; exact Nat.pow_le_pow_right (by omega) (show m ≤ 6 from hm)
  have HA : Hid (Calls Tryd.prog 37 #[.slice a la ca] w fun e w' => e = .returned (.bool (okL X la)) ∧ w' = w) := fwithin_any a la ca X h64 w (h h64)
  have HB : Hid (Calls Tryd.prog 37 #[.slice c la cb] w fun e w' => e = .returned (.bool (okL Y la)) ∧ w' = w) := fwithin_any c la cb Y h64 w (h' h64)
  rw [h2] at HF
  rw [h2, Bool.true_and] at HR
  clear h h' ml ml' hr h2
  generalize okL X la = b1 at *
  generalize okL Y la = b2 at *
  cases b1
  · clear HB HR
    go_enter Tryd.func23, Tryd.ntmps23
    go_wp2_with (first
      | (go_at_call 36; refine HF.out.mono ?_; rintro e w1 ⟨rfl, rfl⟩)
      | (go_at_call 37; (with_reducible refine HA.out.mono ?_); rintro e w1 ⟨rfl, rfl⟩))
    go_ret2
    exact ⟨rfl, rfl⟩
  · have : b2 = false := by simpa using HR.out
    subst this
    clear HR
    go_enter Tryd.func23, Tryd.ntmps23
    go_wp2_with (first
      | (go_at_call 36; refine HF.out.mono ?_; rintro e w1 ⟨rfl, rfl⟩)
      | (go_at_call 37; (with_reducible refine HA.out.mono ?_); rintro e w1 ⟨rfl, rfl⟩)
      | (go_at_call 37; (with_reducible refine HB.out.mono ?_); rintro e w1 ⟨rfl, rfl⟩))
    go_ret2
    exact ⟨rfl, rfl⟩
end Go.Proofs.YtgkjjkdjalbfaaaDoor
