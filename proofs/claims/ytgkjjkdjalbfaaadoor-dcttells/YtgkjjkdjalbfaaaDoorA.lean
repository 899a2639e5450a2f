/-
  The contracts of package trig's small functions and of the document's, over the landed text: the quarter, what lies within bounds.
-/
import Derived.Test.YtgkjjkdjalbfaaaDoorNW
import Derived.Test.YtgkjjkdjalbfaaaDoorM
import Derived.Great.BuildSlice
import Derived.Laws.Rows
import Derived.WalkKit
import Derived.ProofKit
import Derived.OpenShut
import Derived.Deep.QuietTactic
import Derived.BigQuiet
import Derived.Below
namespace Go.Proofs.YtgkjjkdjalbfaaaDoor
open Go.ChangeShapes Go.WideShapes Go.ChangeAt Go.RowKit
set_option linter.unusedVariables false

/-- The quarter's cells. -/
def qA : Array Value := (qL.map (Value.int .i64)).toArray
theorem qA_size : qA.size = 129 := by simp [qA, qL_len]
theorem qA_get {i : Nat} (h : i < 129) : qA[i]? = some (.int .i64 (qd i)) := by simp [qA, qL_get h]
theorem qA_one : qA.all (·.oneCell') = true := by
  rw [Array.all_eq_true_iff_forall_mem]
  intro v hv
  simp [qA] at hv
  obtain ⟨n, _, rfl⟩ := hv
  rfl

set_option maxRecDepth 1000000 in
theorem quarter_any (w : World) :
    Calls Tryd.prog 32 #[] w fun e w' => e = .returned (.slice (some ⟨w.heap.size, 0, none⟩) 129 129) ∧ w' = w.alloc (.cells qA 3) := by
  go_enter Tryd.func32, Tryd.ntmps32
  apply wp_seq_k; intro K0 hK0
  have HK := (show Hid _ from hK0)
  clear hK0
  apply wp_region_lit
  go_wp2
  refine HK.out _ _ ?_
  clear HK K0
  apply wp_seq_k; intro K0 hK0
  apply wp_region_lit
  refine wpList_buildFlat rfl 22 3 129 _ rfl .i64 qL (by kernel_rfl) (by kernel_rfl) (by kernel_rfl) (by kernel_rfl) (by decide) (by decide) (by kernel_rfl) ?_
  go_wp2
  go_ret
  exact ⟨rfl, rfl⟩
theorem zero129 (w : World) : (zeroValue 33).run Tryd.prog w = .ok (.agg (Array.replicate 129 (.int .i64 0))) w := by
  have h : (Tryd.prog.info? 33).bind (·.zero) = some (.agg (Array.replicate 129 (.int .i64 0))) := by kernel_rfl
  cases hi : Tryd.prog.info? 33 with
  | none => simp [hi] at h
  | some i =>
    simp [hi] at h
    simp [zeroValue, typeInfo, hi, h]
theorem below_setRow {B g : Nat} {a w : World} (h : Below B a w) (hg : B ≤ g) (cs : Array Value) : Below B a (w.setRow g cs) :=
  ⟨h.os, h.tape, h.output, by rw [setRow_size]; exact h.size, fun k hk => (setRow_other w g k cs (by omega)).trans (h.block k hk)⟩
set_option maxRecDepth 1000000 in
theorem cosines_any (w : World) :
    Calls Tryd.prog 15 #[] w fun e w' => e = .returned (.agg qA) ∧ Below w.heap.size w w' := by
  obtain ⟨zs, hzs, hz⟩ : ∃ zs : Array Value, Hid (zs.size = 129) ∧ ∀ w, (zeroValue 33).run Tryd.prog w = .ok (.agg zs) w := ⟨_, Array.size_replicate, zero129⟩
  go_enter Tryd.func15, Tryd.ntmps15
  apply wp_seq_k; intro K0 hK0
  have HK := (show Hid _ from hK0)
  clear hK0
  apply wp_region_lit
  go_wp2
  refine HK.out _ _ ?_
  clear HK K0
  apply wp_seq_k; intro K0 hK0
  apply wp_region_lit
  refine wpList_buildFlatArr rfl 33 3 129 _ rfl .i64 qL (by kernel_rfl) (by kernel_rfl) (by kernel_rfl) (by kernel_rfl) ?_
  refine wpList_store_rowTo rfl 33 _ _ rfl rfl w.heap.size qA rfl rfl 33 zs (heap_alloc_new w _) (by rw [qA_size]; kernel_rfl) (by rw [qA_size]; exact hzs.out) qA_one ?_
  apply wpList_nil
  refine hK0 _ _ ?_
  clear hK0 K0
  go_wp2
  refine bodyPost_ret (v := .agg qA) (results_cell_row (p := 0) (by kernel_rfl) _ _ w.heap.size 33 qA (0, 0) _ rfl (setRow_heap _ _ _ _ _ _ (heap_alloc_new w _)) Tryd.underlying33 rfl (by rw [qA_size]; kernel_rfl)) rfl ⟨rfl, ?_⟩
  exact below_setRow ((Below.refl _ w).alloc (Nat.le_refl _) _) (Nat.le_refl _) _
/-- trig.within: every number of a slice lies from -bound to bound. -/
theorem tin_any (B : Int) (hB : 0 ≤ B ∧ B ≤ 1152921504606846976) (b n : Nat) (f : Nat → Int) (hn : n ≤ 1000) (w : World) (hc : ∀ i, i < n → w.cell? ⟨b, i, none⟩ = some (.int .i64 (f i))) :
    Calls Tryd.prog 46 #[.int .i64 B, .slice (some ⟨b, 0, none⟩) n n] w fun e w' => e = .returned (.bool (allIn (-B) B f n)) ∧ w' = w := by
  obtain ⟨b1, b2⟩ := hB
  go_enter Tryd.func46, Tryd.ntmps46
  go_wp2
  go_loop [9] (fun i => ∃ k : Nat, k ≤ n ∧ i = .int .i64 k ∧ allIn (-B) B f k = true) (fun i => n - (intOf i).toNat)
  case atStart => exact ⟨0, Nat.zero_le _, rfl, rfl⟩
  case round =>
    obtain ⟨k, hk, rfl, hall⟩ := hrel
    have HA : Hid (allIn (-B) B f k = true) := hall
    clear hall
    by_cases hlt : k < n
    · have hck := hc k hlt
      clear hc
      by_cases h1 : f k < -B
      · go_wp2
        go_ret
        exact ⟨ret_bool (allIn_no hlt (by omega)).symm, rfl⟩
      · by_cases h2 : B < f k
        · go_wp2
          go_ret
          exact ⟨ret_bool (allIn_no hlt (by omega)).symm, rfl⟩
        · go_wp2
          go_round
          case rel => exact ⟨k + 1, by omega, by go_num, by simp [allIn, HA.out]; omega⟩
          case measure => simp [intOf]; omega
    · clear hc
      go_wp2
      go_ret
      obtain rfl : k = n := by omega
      exact ⟨ret_bool HA.out.symm, rfl⟩
theorem tin1 (B : Int) (hB : 0 ≤ B ∧ B ≤ 1152921504606846976) (x : Int) (w : World) (b : Nat) (hc : w.cell? ⟨b, 0, none⟩ = some (.int .i64 x)) :
    Calls Tryd.prog 46 #[.int .i64 B, .slice (some ⟨b, 0, none⟩) 1 1] w fun e w' => e = .returned (.bool (in1 (-B) B x)) ∧ w' = w := by
  have h := tin_any B hB b 1 (fun _ => x) (by omega) w (by intro i hi; obtain rfl : i = 0 := by omega
                                                           exact hc)
  simpa [allIn, in1] using h
theorem tin2 (B : Int) (hB : 0 ≤ B ∧ B ≤ 1152921504606846976) (x y : Int) (w : World) (b : Nat) (hc : w.cell? ⟨b, 0, none⟩ = some (.int .i64 x)) (hd : w.cell? ⟨b, 1, none⟩ = some (.int .i64 y)) :
    Calls Tryd.prog 46 #[.int .i64 B, .slice (some ⟨b, 0, none⟩) 2 2] w fun e w' => e = .returned (.bool (in1 (-B) B x && in1 (-B) B y)) ∧ w' = w := by
  have h := tin_any B hB b 2 (fun i => if i = 0 then x else y) (by omega) w (by
    intro i hi
    by_cases e : i = 0
    · subst e; simpa using hc
    · obtain rfl : i = 1 := by omega
      simpa using hd)
  simpa [allIn, in1, Bool.and_assoc] using h
end Go.Proofs.YtgkjjkdjalbfaaaDoor
