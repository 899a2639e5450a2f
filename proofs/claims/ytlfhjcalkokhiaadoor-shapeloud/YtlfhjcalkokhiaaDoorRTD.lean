/-
  The document's Sqrt.
-/
import Derived.Test.YtlfhjcalkokhiaaDoorN
import Derived.Test.YtlfhjcalkokhiaaDoorRTM
namespace Go.Proofs.YtlfhjcalkokhiaaDoor
open Go.ChangeShapes Go.WideShapes Go.ChangeAt Go.RowKit
set_option linter.unusedVariables false

/-- The document's Sqrt, of any int. -/
theorem sqrtR_any (n : Int) (w : World) :
    Calls Tryd.prog 24 #[.int .i64 n] w fun e w' => e = .returned (.int .i64 (rootF n)) ∧ w' = w := by
  by_cases ha : n < 0
  · have HE : Hid (rootF n = 0) := rootF_out (.inl ha)
    go_enter Tryd.func24, Tryd.ntmps24
    go_wp2
    go_ret
    exact ⟨ret_int HE.out.symm, rfl⟩
  by_cases hb : 1152921504606846976 < n
  · have HE : Hid (rootF n = 0) := rootF_out (.inr hb)
    go_enter Tryd.func24, Tryd.ntmps24
    go_wp2
    go_ret
    exact ⟨ret_int HE.out.symm, rfl⟩
  go_enter Tryd.func24, Tryd.ntmps24
  go_wp2
  go_loop [3, 4] (fun x y => ∃ l h : Int, x = .int .i64 l ∧ y = .int .i64 h ∧ 0 ≤ l ∧ l < h ∧ h ≤ 1073741825 ∧ l * l ≤ n ∧ n < h * h) (fun x y => (intOf y - intOf x).toNat)
  case atStart => exact ⟨0, 1073741825, rfl, rfl, by omega, by omega, by omega, by omega, by show n < 1152921506754330625; omega⟩
  case round =>
    obtain ⟨l, h, rfl, rfl, h0, h1, h2, g1, g2⟩ := hrel
    by_cases hlt : 1 < h - l
    · have HW : Hid (wrap64 (((l + h) / 2) * ((l + h) / 2)) = ((l + h) / 2) * ((l + h) / 2)) := sq_wrap (by omega) (by omega)
      go_wp2
      · rename_i hy
        rw [HW.out] at hy
        go_round
        case rel => exact ⟨(l + h) / 2, h, rfl, rfl, by omega, by omega, by omega, hy, g2⟩
        case measure => simp [intOf]; omega
      · rename_i hy
        rw [HW.out] at hy
        go_round
        case rel => exact ⟨l, (l + h) / 2, rfl, rfl, by omega, by omega, by omega, g1, hy⟩
        case measure => simp [intOf]; omega
    · obtain rfl : h = l + 1 := by omega
      have HE : Hid (rootF n = l) := rootF_eq h0 g1 g2 (by omega)
      clear g1 g2
      go_wp2
      go_ret
      exact ⟨ret_int HE.out.symm, rfl⟩

end Go.Proofs.YtlfhjcalkokhiaaDoor
