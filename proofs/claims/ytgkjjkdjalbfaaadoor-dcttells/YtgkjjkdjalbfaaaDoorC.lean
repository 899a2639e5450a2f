/-
  The contracts of trig.at and Turn over the landed text, of a table and of none.
-/
import Derived.Test.YtgkjjkdjalbfaaaDoorB
import Derived.Test.YtgkjjkdjalbfaaaDoorNMod
import Derived.Test.YtgkjjkdjalbfaaaDoorNShr
namespace Go.Proofs.YtgkjjkdjalbfaaaDoor
open Go.ChangeShapes Go.WideShapes Go.ChangeAt Go.RowKit
set_option linter.unusedVariables false

theorem modR512 (k : Int) : modR k 512 = k % 512 := modR_of (by omega)
theorem cos_at (k : Int) : cosT (k % 512).toNat = cosI k := rfl
theorem at_any (r : Nat) (k : Int) (hk : -1152921504606847104 ≤ k) (hk' : k ≤ 1152921504606846976) (w : World) (ht : Tab r w) :
    Calls Tryd.prog 47 #[.pointer (some ⟨r, 0, none⟩), .int .i64 k] w fun e w' => e = .returned (.int .i64 (cosI k)) ∧ Below w.heap.size w w' := by
  have HT : Hid (Tab r w) := ht
  clear ht
  have hm := modR512 k
  have h1 : 0 ≤ k % 512 := by omega
  have h2 : k % 512 < 512 := by omega
  have HN : Hid ((k % 512).toNat < 512) := by show _ < _; omega
  have HC : Hid (cosT (k % 512).toNat = cosI k) := rfl
  generalize k % 512 = m at *
  generalize cosI k = c at *
  go_enter Tryd.func47, Tryd.ntmps47
  go_wp2_with (go_at_call 52; refine (mod_any k 512 (by omega) (by omega) _).mono ?_; rintro e w1 ⟨rfl, hb⟩; have hc := (HT.out.below HT.out.1 hb).2 _ HN.out; rw [HC.out] at hc)
  go_ret
  exact ⟨rfl, hb⟩

theorem shrF24 {x : Int} (h1 : -2305843009213693952 ≤ x) (h2 : x ≤ 2305843009213693952) : shrF x 24 = shr24 x := by
  rw [shrF, if_pos ⟨h1, h2, by omega, by omega⟩]
  rfl
end Go.Proofs.YtgkjjkdjalbfaaaDoor
