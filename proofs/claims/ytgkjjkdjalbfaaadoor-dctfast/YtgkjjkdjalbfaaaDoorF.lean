/-
  The contract of the document's own Make: a slice of its own that holds the 512 cosines.
-/
import Derived.Test.YtgkjjkdjalbfaaaDoorDQ
import Derived.Deep.AppendLies
namespace Go.Proofs.YtgkjjkdjalbfaaaDoor
open Go.ChangeShapes Go.WideShapes Go.ChangeAt Go.RowKit
set_option linter.unusedVariables false

def cosL (k : Nat) : List Value := (List.range k).map fun i => .int .i64 (cosT i)
theorem cosL_snoc (k : Nat) : cosL (k + 1) = cosL k ++ [.int .i64 (cosT k)] := by simp [cosL, List.range_succ]
theorem cosL_get {k i : Nat} (h : i < k) : (cosL k)[i]? = some (.int .i64 (cosT i)) := by simp [cosL, h]
theorem info3 : ∃ i, Tryd.prog.info? 3 = some i ∧ i.zero = some (.int .i64 0) ∧ i.size = 1 ∧ i.bytes = 8 := by
  have h : (Tryd.prog.info? 3).map (fun i => (i.zero, i.size, i.bytes)) = some (some (.int .i64 0), 1, 8) := by kernel_rfl
  obtain ⟨i, hi, e⟩ := Option.map_eq_some_iff.1 h
  simp at e
  exact ⟨i, hi, e⟩
/-- What the document's Make leaves. -/
def MakePost (w : World) (e : Ending) (w' : World) : Prop :=
  ∃ g cap, e = .returned (.slice (some ⟨g, 0, none⟩) 512 cap) ∧ g < w'.heap.size ∧ (∀ i, i < 512 → w'.cell? ⟨g, i, none⟩ = some (.int .i64 (cosT i))) ∧ Below w.heap.size w w'
/-- One number is appended to a row of the call's own. -/
theorem own_step {w1 wr w3 : World} {v : Value} {k g cap : Nat} {c : Int} (h : wr.ownsRow w1.heap.size 3 1 v k (cosL k)) (hb : Below w1.heap.size w1 wr) (hc : c = cosT k)
    (hown : w3.ownsRow w1.heap.size 3 1 (.slice (some ⟨g, 0, none⟩) (k + 1) cap) (k + 1) (cosL k ++ [.int .i64 c])) (hg : (wr.alloc (.cells #[.int .i64 c] 3)).grownBy w3 v.ownBlock) :
    w3.ownsRow w1.heap.size 3 1 (.slice (some ⟨g, 0, none⟩) (k + 1) cap) (k + 1) (cosL (k + 1)) ∧ Below w1.heap.size w1 w3 := by
  subst hc
  refine ⟨by rw [cosL_snoc]; exact hown, ?_⟩
  exact Below.grown (hb.alloc hb.size _) hg (Nat.le_trans hb.size (by simp)) (fun j hj => (h.lt j hj).1)

set_option maxRecDepth 100000 in
theorem rmake_any (w : World) :
    Calls Tryd.prog 18 #[] w fun e w' => MakePost w e w' := by
  obtain ⟨i0, hi, hz0, hz1, hz2⟩ := info3
  have HI : Hid (Tryd.prog.info? 3 = some i0) := hi
  clear hi
  go_enter Tryd.func18, Tryd.ntmps18
  go_wp2_with (go_at_call 32; refine (quarter_at _).mono ?_; rintro e w1 ⟨rfl, hq, hb⟩)
  have HQ : Hid (∀ i, i < 129 → w1.cell? ⟨w.heap.size, i, none⟩ = some (.int .i64 (qd i))) := hq
  have HB : Hid (Below w.heap.size w w1) := hb
  have hf : w.heap.size < w1.heap.size := block_lt_of_cell (hq 0 (by omega))
  clear hq hb
  go_loopw [2, 3] (fun o i wr => ∃ k : Nat, k ≤ 512 ∧ i = .int .i64 k ∧ Hid (wr.ownsRow w1.heap.size 3 1 o k (cosL k)) ∧ Hid (Below w1.heap.size w1 wr)) (fun _ i _ => 512 - (intOf i).toNat)
  case atStart => exact ⟨0, by omega, rfl, World.ownsRow_nil _ _ _ _, Below.refl _ _⟩
  case round =>
    obtain ⟨k, hk, rfl, HO, HW⟩ := hrel
    by_cases hlt : k < 512
    · have HA : Hid (∀ c : Int, (wr.alloc (.cells #[.int .i64 c] 3)).ownsRow w1.heap.size 3 1 u2 k (cosL k)) := fun c => HO.out.alloc _
      have HZ : Hid (∀ c : Int, w1.heap.size ≤ (wr.alloc (.cells #[.int .i64 c] 3)).heap.size) := fun c => Nat.le_trans HW.out.size (by simp)
      by_cases a1 : k ≤ 128
      · have hx : Hid (qd (k) = cosT k) := by show _ = _; rw [cosT, if_pos a1]
        have hc : wr.cell? ⟨w.heap.size, k, none⟩ = some (.int .i64 (qd (k))) := (HW.out.cell (p := ⟨w.heap.size, k, none⟩) hf).trans (HQ.out _ (by omega))
        obtain ⟨b1, b2⟩ := qd_bd (show k ≤ 128 by omega)
        go_wp2_with (at_builtin; refine wpList_append_lies _ rfl _ _ _ rfl w1.heap.size 3 i0 (.int .i64 0) 1 8 Tryd.underlying22 HI.out hz0 hz1 hz2 rfl (by omega) _ _ _ rfl (HA.out _) ⟨wr.heap.size, 0, none⟩ 1 1 [.int .i64 (qd (k))] rfl rfl (World.news_of_block (cs := #[.int .i64 (qd (k))]) (heap_alloc_new wr _)) (by intro u hu; simp at hu; subst hu; rfl) (by omega) (by unfold maxLen; omega) (by omega) (HZ.out _) _ rfl ?_)
        intro g cap w3 hown hgr _ _
        obtain ⟨o1, o2⟩ := own_step HO.out HW.out hx.out hown hgr
        have O1 : Hid (w3.ownsRow w1.heap.size 3 1 (.slice (some ⟨g, 0, none⟩) (k + 1) cap) (k + 1) (cosL (k + 1))) := o1
        have O2 : Hid (Below w1.heap.size w1 w3) := o2
        clear hown hgr o1 o2 HO HW HA HZ hx hc
        go_wp2
        refine ⟨⟨k + 1, by omega, by go_num, O1, O2⟩, by simp [intOf]; omega⟩
      by_cases a2 : k ≤ 256
      · have hx : Hid (- qd (256 - k) = cosT k) := by show _ = _; rw [cosT, if_neg a1, if_pos a2]
        have hc : wr.cell? ⟨w.heap.size, 256 - k, none⟩ = some (.int .i64 (qd (256 - k))) := (HW.out.cell (p := ⟨w.heap.size, 256 - k, none⟩) hf).trans (HQ.out _ (by omega))
        obtain ⟨b1, b2⟩ := qd_bd (show 256 - k ≤ 128 by omega)
        have hi : (256 - (k : Int)).toNat = 256 - k := by omega
        go_wp2_with (at_builtin; refine wpList_append_lies _ rfl _ _ _ rfl w1.heap.size 3 i0 (.int .i64 0) 1 8 Tryd.underlying22 HI.out hz0 hz1 hz2 rfl (by omega) _ _ _ rfl (HA.out _) ⟨wr.heap.size, 0, none⟩ 1 1 [.int .i64 (- qd (256 - k))] rfl rfl (World.news_of_block (cs := #[.int .i64 (- qd (256 - k))]) (heap_alloc_new wr _)) (by intro u hu; simp at hu; subst hu; rfl) (by omega) (by unfold maxLen; omega) (by omega) (HZ.out _) _ rfl ?_)
        intro g cap w3 hown hgr _ _
        obtain ⟨o1, o2⟩ := own_step HO.out HW.out hx.out hown hgr
        have O1 : Hid (w3.ownsRow w1.heap.size 3 1 (.slice (some ⟨g, 0, none⟩) (k + 1) cap) (k + 1) (cosL (k + 1))) := o1
        have O2 : Hid (Below w1.heap.size w1 w3) := o2
        clear hown hgr o1 o2 HO HW HA HZ hx hc
        go_wp2
        refine ⟨⟨k + 1, by omega, by go_num, O1, O2⟩, by simp [intOf]; omega⟩
      by_cases a3 : k < 384
      · have hx : Hid (- qd (k - 256) = cosT k) := by show _ = _; rw [cosT, if_neg a1, if_neg a2, if_pos a3]
        have hc : wr.cell? ⟨w.heap.size, k - 256, none⟩ = some (.int .i64 (qd (k - 256))) := (HW.out.cell (p := ⟨w.heap.size, k - 256, none⟩) hf).trans (HQ.out _ (by omega))
        obtain ⟨b1, b2⟩ := qd_bd (show k - 256 ≤ 128 by omega)
        have hi : (256 - (512 - (k : Int))).toNat = k - 256 := by omega
        go_wp2_with (at_builtin; refine wpList_append_lies _ rfl _ _ _ rfl w1.heap.size 3 i0 (.int .i64 0) 1 8 Tryd.underlying22 HI.out hz0 hz1 hz2 rfl (by omega) _ _ _ rfl (HA.out _) ⟨wr.heap.size, 0, none⟩ 1 1 [.int .i64 (- qd (k - 256))] rfl rfl (World.news_of_block (cs := #[.int .i64 (- qd (k - 256))]) (heap_alloc_new wr _)) (by intro u hu; simp at hu; subst hu; rfl) (by omega) (by unfold maxLen; omega) (by omega) (HZ.out _) _ rfl ?_)
        intro g cap w3 hown hgr _ _
        obtain ⟨o1, o2⟩ := own_step HO.out HW.out hx.out hown hgr
        have O1 : Hid (w3.ownsRow w1.heap.size 3 1 (.slice (some ⟨g, 0, none⟩) (k + 1) cap) (k + 1) (cosL (k + 1))) := o1
        have O2 : Hid (Below w1.heap.size w1 w3) := o2
        clear hown hgr o1 o2 HO HW HA HZ hx hc
        go_wp2
        refine ⟨⟨k + 1, by omega, by go_num, O1, O2⟩, by simp [intOf]; omega⟩
      · have hx : Hid (qd (512 - k) = cosT k) := by show _ = _; rw [cosT, if_neg a1, if_neg a2, if_neg a3]
        have hc : wr.cell? ⟨w.heap.size, 512 - k, none⟩ = some (.int .i64 (qd (512 - k))) := (HW.out.cell (p := ⟨w.heap.size, 512 - k, none⟩) hf).trans (HQ.out _ (by omega))
        obtain ⟨b1, b2⟩ := qd_bd (show 512 - k ≤ 128 by omega)
        have hi : (512 - (k : Int)).toNat = 512 - k := by omega
        go_wp2_with (at_builtin; refine wpList_append_lies _ rfl _ _ _ rfl w1.heap.size 3 i0 (.int .i64 0) 1 8 Tryd.underlying22 HI.out hz0 hz1 hz2 rfl (by omega) _ _ _ rfl (HA.out _) ⟨wr.heap.size, 0, none⟩ 1 1 [.int .i64 (qd (512 - k))] rfl rfl (World.news_of_block (cs := #[.int .i64 (qd (512 - k))]) (heap_alloc_new wr _)) (by intro u hu; simp at hu; subst hu; rfl) (by omega) (by unfold maxLen; omega) (by omega) (HZ.out _) _ rfl ?_)
        intro g cap w3 hown hgr _ _
        obtain ⟨o1, o2⟩ := own_step HO.out HW.out hx.out hown hgr
        have O1 : Hid (w3.ownsRow w1.heap.size 3 1 (.slice (some ⟨g, 0, none⟩) (k + 1) cap) (k + 1) (cosL (k + 1))) := o1
        have O2 : Hid (Below w1.heap.size w1 w3) := o2
        clear hown hgr o1 o2 HO HW HA HZ hx hc
        go_wp2
        refine ⟨⟨k + 1, by omega, by go_num, O1, O2⟩, by simp [intOf]; omega⟩
    · obtain rfl : k = 512 := by omega
      obtain ⟨g, cap, rfl, hg1, hg2⟩ := HO.out.form (by omega)
      go_wp2
      go_ret
      refine ⟨g, cap, rfl, hg2, fun i hi => ?_, below_then HB.out HW.out⟩
      rw [HO.out.cellAt i (by omega)]
      exact cosL_get hi
end Go.Proofs.YtgkjjkdjalbfaaaDoor
