/-
  Cosines in parts of 2^24 over plain integers: the quarter, the full turn, what is turned.
-/
import Derived.Test.YtfhcfdepjhdhfaaDoorZA
import Derived.BigRegion
import Derived.Laws.Rows
import Derived.Below
import Derived.Great.BuildSlice
import Derived.WalkKit
import Derived.ProofKit
import Derived.OpenShut
import Derived.Deep.QuietTactic
import Derived.BigQuiet
import Derived.Deep.AppendLies
namespace Go.Proofs.YtfhcfdepjhdhfaaDoor
set_option linter.unusedVariables false

/-- The cosines of 0 to 128 parts. -/
def qL : List Int := [
  16777216, 16775953, 16772163, 16765847, 16757007, 16745643, 16731757, 16715352,
  16696429, 16674992, 16651044, 16624588, 16595628, 16564169, 16530216, 16493773,
  16454846, 16413442, 16369565, 16323224, 16274424, 16223173, 16169479, 16113350,
  16054795, 15993821, 15930439, 15864658, 15796488, 15725939, 15653022, 15577747,
  15500126, 15420172, 15337895, 15253308, 15166424, 15077256, 14985817, 14892122,
  14796184, 14698017, 14597637, 14495059, 14390298, 14283370, 14174291, 14063077,
  13949745, 13834313, 13716797, 13597215, 13475586, 13351928, 13226258, 13098597,
  12968963, 12837376, 12703856, 12568423, 12431097, 12291899, 12150850, 12007971,
  11863283, 11716809, 11568571, 11418590, 11266890, 11113493, 10958422, 10801701,
  10643353, 10483403, 10321873, 10158790, 9994176, 9828057, 9660458, 9491405,
  9320922, 9149035, 8975771, 8801154, 8625213, 8447972, 8269459, 8089701,
  7908725, 7726557, 7543226, 7358759, 7173184, 6986529, 6798821, 6610090,
  6420363, 6229669, 6038037, 5845495, 5652074, 5457801, 5262706, 5066819,
  4870169, 4672785, 4474698, 4275936, 4076531, 3876512, 3675909, 3474752,
  3273072, 3070900, 2868265, 2665197, 2461729, 2257890, 2053710, 1849222,
  1644455, 1439440, 1234209, 1028791, 823219, 617523, 411733, 205882,
  0]
theorem qL_len : qL.length = 129 := by decide +kernel
def qd (i : Nat) : Int := qL.getD i 0
theorem qL_get {i : Nat} (h : i < 129) : qL[i]? = some (qd i) := by
  have h' : i < qL.length := by rw [qL_len]; exact h
  rw [qd, List.getD_eq_getElem?_getD, List.getElem?_eq_getElem h']
  rfl
/-- The cosine of 0 to 511 parts. -/
def cosT (m : Nat) : Int := if m ≤ 128 then qd m else if m ≤ 256 then - qd (256 - m) else if m < 384 then - qd (m - 256) else qd (512 - m)
/-- The cosine of any parts. -/
def cosI (k : Int) : Int := cosT (k % 512).toNat
def sinI (k : Int) : Int := cosI (k - 128)

def all512 (p : Nat → Bool) : Bool := (List.range 512).all p
theorem all512_at {p : Nat → Bool} (h : all512 p = true) {m : Nat} (hm : m < 512) : p m = true :=
  List.all_eq_true.1 h m (List.mem_range.2 hm)

theorem bd_all : all512 (fun m => decide (-16777216 ≤ cosT m) && decide (cosT m ≤ 16777216)) = true := by decide +kernel
theorem sq_all : all512 (fun m => decide (-33554432 ≤ cosT m * cosT m + cosT ((m + 384) % 512) * cosT ((m + 384) % 512) - 281474976710656) &&
    decide (cosT m * cosT m + cosT ((m + 384) % 512) * cosT ((m + 384) % 512) - 281474976710656 ≤ 33554432)) = true := by decide +kernel
theorem neg_all : all512 (fun m => decide (cosT ((512 - m) % 512) = cosT m)) = true := by decide +kernel
theorem half_all : all512 (fun m => decide (cosT ((m + 256) % 512) = - cosT m)) = true := by decide +kernel

theorem mod_lt (k : Int) : (k % 512).toNat < 512 := by omega
theorem cosI_bd (k : Int) : -16777216 ≤ cosI k ∧ cosI k ≤ 16777216 := by
  have h := all512_at bd_all (mod_lt k)
  simp only [Bool.and_eq_true, decide_eq_true_eq] at h
  exact h
theorem sinI_bd (k : Int) : -16777216 ≤ sinI k ∧ sinI k ≤ 16777216 := cosI_bd _
theorem cosI_of {a b : Int} (h : a % 512 = b % 512) : cosI a = cosI b := by rw [cosI, cosI, h]
theorem cosI_mod (k : Int) : cosI (k % 512) = cosI k := cosI_of (by omega)
theorem sinI_mod (k : Int) : cosI (k % 512 - 128) = sinI k := cosI_of (by omega)
theorem cosI_neg (k : Int) : cosI (-k) = cosI k := by
  have h := all512_at neg_all (mod_lt k)
  simp only [decide_eq_true_eq] at h
  rw [cosI, cosI, ← h]
  congr 1
  omega
theorem cosI_half (k : Int) : cosI (k + 256) = - cosI k := by
  have h := all512_at half_all (mod_lt k)
  simp only [decide_eq_true_eq] at h
  rw [cosI, cosI, ← h]
  congr 1
  omega
theorem cosI_full (k : Int) : cosI (k + 512) = cosI k := cosI_of (by omega)
theorem sinI_neg (k : Int) : sinI (-k) = - sinI k := by
  have h1 : sinI (-k) = cosI (k + 128) := by rw [sinI, ← cosI_neg]; congr 1; omega
  have h2 := cosI_half (k - 128)
  rw [h1, sinI, ← h2]; congr 1; omega
theorem sinI_half (k : Int) : sinI (k + 256) = - sinI k := by
  rw [sinI, sinI, ← cosI_half]; congr 1; omega
theorem squares (k : Int) : -33554432 ≤ cosI k * cosI k + sinI k * sinI k - 281474976710656 ∧ cosI k * cosI k + sinI k * sinI k - 281474976710656 ≤ 33554432 := by
  have h := all512_at sq_all (mod_lt k)
  have e : sinI k = cosT (((k % 512).toNat + 384) % 512) := by rw [sinI, cosI]; congr 1; omega
  simp only [Bool.and_eq_true, decide_eq_true_eq] at h
  rw [e, cosI]
  exact h

/-- Parts within the bounds. -/
def cosF (k : Int) : Int := if -1152921504606846976 ≤ k ∧ k ≤ 1152921504606846976 then cosI k else 0
def sinF (k : Int) : Int := if -1152921504606846976 ≤ k ∧ k ≤ 1152921504606846976 then sinI k else 0
theorem cosF_in {k : Int} (h : -1152921504606846976 ≤ k) (h' : k ≤ 1152921504606846976) : cosF k = cosI k := if_pos ⟨h, h'⟩
theorem sinF_in {k : Int} (h : -1152921504606846976 ≤ k) (h' : k ≤ 1152921504606846976) : sinF k = sinI k := if_pos ⟨h, h'⟩
theorem cosF_out {k : Int} (h : k < -1152921504606846976 ∨ 1152921504606846976 < k) : cosF k = 0 := if_neg (by omega)
theorem sinF_out {k : Int} (h : k < -1152921504606846976 ∨ 1152921504606846976 < k) : sinF k = 0 := if_neg (by omega)

theorem mul_bd {x y a b : Int} (h1 : -a ≤ x) (h2 : x ≤ a) (h3 : -b ≤ y) (h4 : y ≤ b) : -(a * b) ≤ x * y ∧ x * y ≤ a * b := by
  have ha : 0 ≤ a := by omega
  have hb : 0 ≤ b := by omega
  have p1 : 0 ≤ (a - x) * (b + y) := Int.mul_nonneg (by omega) (by omega)
  have p2 : 0 ≤ (a + x) * (b - y) := Int.mul_nonneg (by omega) (by omega)
  have p3 : 0 ≤ (a - x) * (b - y) := Int.mul_nonneg (by omega) (by omega)
  have p4 : 0 ≤ (a + x) * (b + y) := Int.mul_nonneg (by omega) (by omega)
  simp only [Int.sub_mul, Int.add_mul, Int.mul_add, Int.mul_sub] at p1 p2 p3 p4
  constructor <;> omega
theorem turn_bd {x y c s B : Int} (hx : -B ≤ x) (hx' : x ≤ B) (hy : -B ≤ y) (hy' : y ≤ B) (hc : -16777216 ≤ c ∧ c ≤ 16777216) (hs : -16777216 ≤ s ∧ s ≤ 16777216) :
    (-(B * 16777216) ≤ x * c ∧ x * c ≤ B * 16777216) ∧ (-(B * 16777216) ≤ y * s ∧ y * s ≤ B * 16777216) := ⟨mul_bd hx hx' hc.1 hc.2, mul_bd hy hy' hs.1 hs.2⟩
/-- A sum, told in parts of 2^24 to the nearest. -/
def shr24 (x : Int) : Int := (x + 8388608) / 16777216
theorem shr24_near (x : Int) : -8388608 ≤ 16777216 * shr24 x - x ∧ 16777216 * shr24 x - x ≤ 8388608 := by unfold shr24; omega
theorem shr24_mul (x : Int) : shr24 (x * 16777216) = x := by unfold shr24; omega
theorem shr24_bd {x B : Int} (h1 : -(B * 16777216) ≤ x) (h2 : x ≤ B * 16777216) : -B ≤ shr24 x ∧ shr24 x ≤ B := by unfold shr24; omega

/-- What is turned, of numbers that may be. -/
def turnRe (re im k : Int) : Int := shr24 (re * cosI k + im * sinI k)
def turnIm (re im k : Int) : Int := shr24 (im * cosI k - re * sinI k)
theorem turnRe_bd {re im k B : Int} (hx : -B ≤ re) (hx' : re ≤ B) (hy : -B ≤ im) (hy' : im ≤ B) : -(2 * B) ≤ turnRe re im k ∧ turnRe re im k ≤ 2 * B := by
  have h := turn_bd hx hx' hy hy' (cosI_bd k) (sinI_bd k)
  exact shr24_bd (by omega) (by omega)
theorem turnIm_bd {re im k B : Int} (hx : -B ≤ re) (hx' : re ≤ B) (hy : -B ≤ im) (hy' : im ≤ B) : -(2 * B) ≤ turnIm re im k ∧ turnIm re im k ≤ 2 * B := by
  have h := turn_bd hy hy' hx hx' (cosI_bd k) (sinI_bd k)
  exact shr24_bd (by omega) (by omega)
theorem cos0 : cosI 0 = 16777216 := by decide
theorem sin0 : sinI 0 = 0 := by decide
theorem cos128 : cosI 128 = 0 := by decide
theorem sin128 : sinI 128 = 16777216 := by decide
theorem cos256 : cosI 256 = -16777216 := by decide
theorem turn0_re (re im : Int) : turnRe re im 0 = re := by rw [turnRe, cos0, sin0, show re * 16777216 + im * 0 = re * 16777216 by omega, shr24_mul]
theorem turn0_im (re im : Int) : turnIm re im 0 = im := by rw [turnIm, cos0, sin0, show im * 16777216 - re * 0 = im * 16777216 by omega, shr24_mul]
theorem turn128_re (re im : Int) : turnRe re im 128 = im := by rw [turnRe, cos128, sin128, show re * 0 + im * 16777216 = im * 16777216 by omega, shr24_mul]
theorem turn128_im (re im : Int) : turnIm re im 128 = -re := by rw [turnIm, cos128, sin128, show im * 0 - re * 16777216 = (-re) * 16777216 by omega, shr24_mul]

/-- There and back again: one of the two parts. -/
theorem back_one {x c s P Q e f r off : Int} (hc : -16777216 ≤ c ∧ c ≤ 16777216) (hs : -16777216 ≤ s ∧ s ≤ 16777216)
    (h1 : -8388608 ≤ 16777216 * e - P ∧ 16777216 * e - P ≤ 8388608) (h2 : -8388608 ≤ 16777216 * f - Q ∧ 16777216 * f - Q ≤ 8388608)
    (hr : -8388608 ≤ 16777216 * r - (e * c + f * s) ∧ 16777216 * r - (e * c + f * s) ≤ 8388608)
    (hoff : -33554432 ≤ off ∧ off ≤ 33554432) (hsum : P * c + Q * s = x * off + x * 281474976710656) {X : Int} (hx : -X ≤ x) (hx' : x ≤ X) :
    -(X * 33554432 + 422212465065984) ≤ 281474976710656 * (r - x) ∧ 281474976710656 * (r - x) ≤ X * 33554432 + 422212465065984 := by
  have a := mul_bd (a := 8388608) (b := 16777216) h1.1 h1.2 hc.1 hc.2
  have b := mul_bd (a := 8388608) (b := 16777216) h2.1 h2.2 hs.1 hs.2
  have c' := mul_bd hx hx' hoff.1 hoff.2
  simp only [Int.sub_mul, Int.mul_assoc] at a b
  omega
theorem near_le {x y r X d : Int} (hX : x ≤ X) (hX' : -x ≤ X) (hY : 0 ≤ y) (h : -(X * 33554432 + 422212465065984) ≤ 281474976710656 * d ∧ 281474976710656 * d ≤ X * 33554432 + 422212465065984) :
    d ≤ (X + y) / 1048576 + 2 ∧ -d ≤ (X + y) / 1048576 + 2 := by omega
theorem back_re (re im k : Int) {X y : Int} (hx : -X ≤ re) (hx' : re ≤ X) (hy : 0 ≤ y) :
    turnRe (turnRe re im k) (turnIm re im k) (-k) - re ≤ (X + y) / 1048576 + 2 ∧ re - turnRe (turnRe re im k) (turnIm re im k) (-k) ≤ (X + y) / 1048576 + 2 := by
  have h3 := shr24_near (turnRe re im k * cosI (-k) + turnIm re im k * sinI (-k))
  have h := back_one (x := re) (c := cosI k) (s := - sinI k) (P := re * cosI k + im * sinI k) (Q := im * cosI k - re * sinI k) (e := turnRe re im k) (f := turnIm re im k)
    (r := turnRe (turnRe re im k) (turnIm re im k) (-k)) (off := cosI k * cosI k + sinI k * sinI k - 281474976710656)
    (cosI_bd k) (by have := sinI_bd k; omega) (shr24_near _) (shr24_near _) (by rw [cosI_neg, sinI_neg] at h3; rw [turnRe, cosI_neg, sinI_neg]; exact h3) (squares k)
    (by
      simp only [Int.add_mul, Int.sub_mul, Int.mul_add, Int.mul_sub, Int.mul_neg, Int.mul_assoc]
      have e1 : im * (sinI k * cosI k) = im * (cosI k * sinI k) := by rw [Int.mul_comm (sinI k)]
      omega) hx hx'
  have := near_le (x := re) (y := y) (r := 0) hx' (by omega) hy h
  omega
theorem back_im (re im k : Int) {Y x : Int} (hy : -Y ≤ im) (hy' : im ≤ Y) (hx : 0 ≤ x) :
    turnIm (turnRe re im k) (turnIm re im k) (-k) - im ≤ (x + Y) / 1048576 + 2 ∧ im - turnIm (turnRe re im k) (turnIm re im k) (-k) ≤ (x + Y) / 1048576 + 2 := by
  have h3 := shr24_near (turnIm re im k * cosI (-k) - turnRe re im k * sinI (-k))
  have h := back_one (x := im) (c := cosI k) (s := sinI k) (P := im * cosI k - re * sinI k) (Q := re * cosI k + im * sinI k) (e := turnIm re im k) (f := turnRe re im k)
    (r := turnIm (turnRe re im k) (turnIm re im k) (-k)) (off := cosI k * cosI k + sinI k * sinI k - 281474976710656)
    (cosI_bd k) (sinI_bd k) (shr24_near _) (shr24_near _) (by
      rw [cosI_neg, sinI_neg, Int.mul_neg] at h3; rw [turnIm, cosI_neg, sinI_neg, Int.mul_neg]
      omega) (squares k)
    (by
      simp only [Int.add_mul, Int.sub_mul, Int.mul_add, Int.mul_sub, Int.mul_assoc]
      have e1 : re * (sinI k * cosI k) = re * (cosI k * sinI k) := by rw [Int.mul_comm (sinI k)]
      omega) hy hy'
  have := near_le (x := im) (y := x) (r := 0) hy' (by omega) hx h
  rw [show x + Y = Y + x by omega]
  omega
end Go.Proofs.YtfhcfdepjhdhfaaDoor
/-
  A row of cells in a block: what is kept, read and set.
-/
namespace Go.Proofs.YtfhcfdepjhdhfaaDoor
open Go.ChangeShapes Go.WideShapes Go.ChangeAt Go.RowKit
set_option linter.unusedVariables false

/-- A row of cells, in block r. -/
abbrev IsAt (r : Nat) (t : TypeId) (cs : Array Value) (w : World) : Prop := w.heap[r]? = some (.cells cs t (0, 0))
theorem IsAt.cell {r t : Nat} {cs : Array Value} {w : World} (h : IsAt r t cs w) (j : Nat) : w.cell? ⟨r, j, none⟩ = cs[j]? := by
  have h' : w.heap[r]? = some (.cells cs t (0, 0)) := h
  simp [World.cell?, h']
theorem IsAt.frozen {r t : Nat} {cs : Array Value} {w : World} (h : IsAt r t cs w) (j : Nat) : w.frozen? ⟨r, j, none⟩ = false := by
  have h' : w.heap[r]? = some (.cells cs t (0, 0)) := h
  simp [World.frozen?, h']
theorem IsAt.set {r t : Nat} {cs : Array Value} {w : World} (h : IsAt r t cs w) (j : Nat) (v : Value) : IsAt r t (cs.setIfInBounds j v) (w.setCell ⟨r, j, none⟩ v) :=
  heap_setCell_same w r j cs t v h
theorem IsAt.other {r t : Nat} {cs : Array Value} {w : World} (h : IsAt r t cs w) {a : Addr} (hr : r ≠ a.block) (v : Value) : IsAt r t cs (w.setCell a v) :=
  (heap_setCell_other w a r v hr).trans h
theorem below_setRow {B g : Nat} {a w : World} (h : Below B a w) (hg : B ≤ g) (cs : Array Value) : Below B a (w.setRow g cs) :=
  ⟨h.os, h.tape, h.output, by rw [setRow_size]; exact h.size, fun k hk => (setRow_other w g k cs (by omega)).trans (h.block k hk)⟩
end Go.Proofs.YtfhcfdepjhdhfaaDoor
/-
  The contracts of package trig's small functions and of the document's, over the landed text: the quarter, what lies within bounds.
-/
namespace Go.Proofs.YtfhcfdepjhdhfaaDoor
open Go.ChangeShapes Go.WideShapes Go.ChangeAt Go.RowKit
set_option linter.unusedVariables false

/-- The quarter's cells. -/
def qA : Array Value := (qL.map (Value.int .i64)).toArray
theorem qA_size : qA.size = 129 := by simp [qA, qL_len]
theorem qA_get {i : Nat} (h : i < 129) : qA[i]? = some (.int .i64 (qd i)) := by simp [qA, qL_get h]
theorem qA_one : qA.all (·.oneCell') = true := by
  rw [Array.all_eq_true_iff_forall_mem]
  intro v hv
  simp [qA] at hv
  obtain ⟨n, _, rfl⟩ := hv
  rfl

set_option maxRecDepth 1000000 in
theorem quarter_any (w : World) :
    Calls Tryd.prog 80 #[] w fun e w' => e = .returned (.slice (some ⟨w.heap.size, 0, none⟩) 129 129) ∧ w' = w.alloc (.cells qA 3) := by
  go_enter Tryd.func80, Tryd.ntmps80
  apply wp_seq_k; intro K0 hK0
  have HK := (show Hid _ from hK0)
  clear hK0
  apply wp_region_lit
  go_wp2
  refine HK.out _ _ ?_
  clear HK K0
  apply wp_seq_k; intro K0 hK0
  apply wp_region_lit
  refine wpList_buildFlat rfl 23 3 129 _ rfl .i64 qL (by kernel_rfl) (by kernel_rfl) (by kernel_rfl) (by kernel_rfl) (by decide) (by decide) (by kernel_rfl) ?_
  go_wp2
  go_ret
  exact ⟨rfl, rfl⟩
theorem zero129 (w : World) : (zeroValue 48).run Tryd.prog w = .ok (.agg (Array.replicate 129 (.int .i64 0))) w := by
  have h : (Tryd.prog.info? 48).bind (·.zero) = some (.agg (Array.replicate 129 (.int .i64 0))) := by kernel_rfl
  cases hi : Tryd.prog.info? 48 with
  | none => simp [hi] at h
  | some i =>
    simp [hi] at h
    simp [zeroValue, typeInfo, hi, h]
set_option maxRecDepth 1000000 in
theorem cosines_any (w : World) :
    Calls Tryd.prog 22 #[] w fun e w' => e = .returned (.agg qA) ∧ Below w.heap.size w w' := by
  obtain ⟨zs, hzs, hz⟩ : ∃ zs : Array Value, Hid (zs.size = 129) ∧ ∀ w, (zeroValue 48).run Tryd.prog w = .ok (.agg zs) w := ⟨_, Array.size_replicate, zero129⟩
  go_enter Tryd.func22, Tryd.ntmps22
  apply wp_seq_k; intro K0 hK0
  have HK := (show Hid _ from hK0)
  clear hK0
  apply wp_region_lit
  go_wp2
  refine HK.out _ _ ?_
  clear HK K0
  apply wp_seq_k; intro K0 hK0
  apply wp_region_lit
  refine wpList_buildFlatArr rfl 48 3 129 _ rfl .i64 qL (by kernel_rfl) (by kernel_rfl) (by kernel_rfl) (by kernel_rfl) ?_
  refine wpList_store_rowTo rfl 48 _ _ rfl rfl w.heap.size qA rfl rfl 48 zs (heap_alloc_new w _) (by rw [qA_size]; kernel_rfl) (by rw [qA_size]; exact hzs.out) qA_one ?_
  apply wpList_nil
  refine hK0 _ _ ?_
  clear hK0 K0
  go_wp2
  refine bodyPost_ret (v := .agg qA) (results_cell_row (p := 0) (by kernel_rfl) _ _ w.heap.size 48 qA (0, 0) _ rfl (setRow_heap _ _ _ _ _ _ (heap_alloc_new w _)) Tryd.underlying48 rfl (by rw [qA_size]; kernel_rfl)) rfl ⟨rfl, ?_⟩
  exact below_setRow ((Below.refl _ w).alloc (Nat.le_refl _) _) (Nat.le_refl _) _
/-- trig.within: every number of a slice lies from -bound to bound. -/
theorem tin_any (B : Int) (hB : 0 ≤ B ∧ B ≤ 1152921504606846976) (b n : Nat) (f : Nat → Int) (hn : n ≤ 1000) (w : World) (hc : ∀ i, i < n → w.cell? ⟨b, i, none⟩ = some (.int .i64 (f i))) :
    Calls Tryd.prog 81 #[.int .i64 B, .slice (some ⟨b, 0, none⟩) n n] w fun e w' => e = .returned (.bool (allIn (-B) B f n)) ∧ w' = w := by
  obtain ⟨b1, b2⟩ := hB
  go_enter Tryd.func81, Tryd.ntmps81
  go_wp2
  go_loop [9] (fun i => ∃ k : Nat, k ≤ n ∧ i = .int .i64 k ∧ allIn (-B) B f k = true) (fun i => n - (intOf i).toNat)
  case atStart => exact ⟨0, Nat.zero_le _, rfl, rfl⟩
  case round =>
    obtain ⟨k, hk, rfl, hall⟩ := hrel
    have HA : Hid (allIn (-B) B f k = true) := hall
    clear hall
    by_cases hlt : k < n
    · have hck := hc k hlt
      clear hc
      by_cases h1 : f k < -B
      · go_wp2
        go_ret
        exact ⟨ret_bool (allIn_no hlt (by omega)).symm, rfl⟩
      · by_cases h2 : B < f k
        · go_wp2
          go_ret
          exact ⟨ret_bool (allIn_no hlt (by omega)).symm, rfl⟩
        · go_wp2
          go_round
          case rel => exact ⟨k + 1, by omega, by go_num, by simp [allIn, HA.out]; omega⟩
          case measure => simp [intOf]; omega
    · clear hc
      go_wp2
      go_ret
      obtain rfl : k = n := by omega
      exact ⟨ret_bool HA.out.symm, rfl⟩
theorem tin1 (B : Int) (hB : 0 ≤ B ∧ B ≤ 1152921504606846976) (x : Int) (w : World) (b : Nat) (hc : w.cell? ⟨b, 0, none⟩ = some (.int .i64 x)) :
    Calls Tryd.prog 81 #[.int .i64 B, .slice (some ⟨b, 0, none⟩) 1 1] w fun e w' => e = .returned (.bool (in1 (-B) B x)) ∧ w' = w := by
  have h := tin_any B hB b 1 (fun _ => x) (by omega) w (by intro i hi; obtain rfl : i = 0 := by omega
                                                           exact hc)
  simpa [allIn, in1] using h
theorem tin2 (B : Int) (hB : 0 ≤ B ∧ B ≤ 1152921504606846976) (x y : Int) (w : World) (b : Nat) (hc : w.cell? ⟨b, 0, none⟩ = some (.int .i64 x)) (hd : w.cell? ⟨b, 1, none⟩ = some (.int .i64 y)) :
    Calls Tryd.prog 81 #[.int .i64 B, .slice (some ⟨b, 0, none⟩) 2 2] w fun e w' => e = .returned (.bool (in1 (-B) B x && in1 (-B) B y)) ∧ w' = w := by
  have h := tin_any B hB b 2 (fun i => if i = 0 then x else y) (by omega) w (by
    intro i hi
    by_cases e : i = 0
    · subst e; simpa using hc
    · obtain rfl : i = 1 := by omega
      simpa using hd)
  simpa [allIn, in1, Bool.and_assoc] using h
end Go.Proofs.YtfhcfdepjhdhfaaDoor
/-
  The contract of trig.Make over the landed text: the table lies in a new block, all its 512 cosines in their places.
-/
namespace Go.Proofs.YtfhcfdepjhdhfaaDoor
open Go.ChangeShapes Go.WideShapes Go.ChangeAt Go.RowKit
set_option linter.unusedVariables false

theorem zero512 (w : World) : (zeroValue 47).run Tryd.prog w = .ok (.agg (Array.replicate 512 (.int .i64 0))) w := by
  have h : (Tryd.prog.info? 47).bind (·.zero) = some (.agg (Array.replicate 512 (.int .i64 0))) := by kernel_rfl
  cases hi : Tryd.prog.info? 47 with
  | none => simp [hi] at h
  | some i =>
    simp [hi] at h
    simp [zeroValue, typeInfo, hi, h]

/-- Block r is the table. -/
def Tab (r : Nat) (w : World) : Prop := r < w.heap.size ∧ ∀ i, i < 512 → w.cell? ⟨r, i, none⟩ = some (.int .i64 (cosT i))
theorem Tab.drewN {r : Nat} {w : World} (h : Tab r w) (n : Nat) : Tab r (w.drewN n) := by
  refine ⟨?_, fun i hi => ?_⟩
  · have : ∀ n, (w.drewN n).heap.size = w.heap.size := fun n => by simp
    rw [this]; exact h.1
  · rw [World.cell?_drewN]; exact h.2 i hi
theorem Tab.below {r B : Nat} {w w' : World} (h : Tab r w) (hr : r < B) (hb : Below B w w') : Tab r w' :=
  ⟨Nat.lt_of_lt_of_le h.1 hb.size, fun i hi => (hb.cell (p := ⟨r, i, none⟩) hr).trans (h.2 i hi)⟩

/-- The table (block r) on the way: the places of P are right; block f is the first quarter; below B all is as it was. -/
def Made (B r f : Nat) (w : World) (P : Nat → Prop) (wr : World) : Prop :=
  ∃ cs : Array Value, cs.size = 512 ∧ (∀ i, i < 512 → P i → cs[i]? = some (.int .i64 (cosT i))) ∧ IsAt r 47 cs wr ∧ IsAt f 48 qA wr ∧ Below B w wr
theorem Made.cell {B r f : Nat} {w wr : World} {P : Nat → Prop} (h : Made B r f w P wr) {j : Nat} (hj : j < 512) : ∃ v, wr.cell? ⟨r, j, none⟩ = some v ∧ wr.frozen? ⟨r, j, none⟩ = false := by
  obtain ⟨cs, h1, h2, h3, h4, h5⟩ := h
  exact ⟨cs[j]'(by omega), by rw [h3.cell j]; simp [h1, hj], h3.frozen j⟩
theorem Made.known {B r f : Nat} {w wr : World} {P : Nat → Prop} (h : Made B r f w P wr) {j : Nat} (hj : j < 512) (hp : P j) : wr.cell? ⟨r, j, none⟩ = some (.int .i64 (cosT j)) := by
  obtain ⟨cs, h1, h2, h3, h4, h5⟩ := h
  rw [h3.cell j]; exact h2 j hj hp
theorem Made.first {B r f : Nat} {w wr : World} {P : Nat → Prop} (h : Made B r f w P wr) {j : Nat} (hj : j < 129) : wr.cell? ⟨f, j, none⟩ = some (.int .i64 (qd j)) := by
  obtain ⟨cs, h1, h2, h3, h4, h5⟩ := h
  rw [h4.cell j]; exact qA_get hj
theorem Made.step {B r f : Nat} {w wr : World} {P P' : Nat → Prop} (h : Made B r f w P wr) {k : Nat} (hk : k < 512) (hr : B ≤ r) (hne : f ≠ r) {v : Int} (hv : v = cosT k) (hP : ∀ i, P' i → P i ∨ i = k) :
    Made B r f w P' (wr.setCell ⟨r, k, none⟩ (.int .i64 v)) := by
  obtain ⟨cs, h1, h2, h3, h4, h5⟩ := h
  subst hv
  refine ⟨_, by simpa using h1, fun i hi hp => ?_, h3.set k _, h4.other hne _, h5.setCell hr _⟩
  rw [Array.getElem?_setIfInBounds]
  by_cases e : k = i
  · subst e; simp [h1, hk]
  · rw [if_neg e]; exact h2 i hi ((hP i hp).resolve_right (fun x => e x.symm))
theorem Made.drew {B r f : Nat} {w wr : World} {P : Nat → Prop} (h : Made B r f w P wr) : Made B r f w P wr.drew := by
  obtain ⟨cs, h1, h2, h3, h4, h5⟩ := h
  exact ⟨cs, h1, h2, h3, h4, h5.drew⟩
theorem Made.mono {B r f : Nat} {w wr : World} {P P' : Nat → Prop} (h : Made B r f w P wr) (hP : ∀ i, P' i → P i) : Made B r f w P' wr := by
  obtain ⟨cs, h1, h2, h3, h4, h5⟩ := h
  exact ⟨cs, h1, fun i hi hp => h2 i hi (hP i hp), h3, h4, h5⟩
theorem Made.tab {B r f : Nat} {w wr : World} {P : Nat → Prop} (h : Made B r f w P wr) (hP : ∀ i, i < 512 → P i) : Tab r wr ∧ Below B w wr := by
  obtain ⟨cs, h1, h2, h3, h4, h5⟩ := h
  exact ⟨⟨(Array.getElem?_eq_some_iff.1 h3).1, fun i hi => by rw [h3.cell i]; exact h2 i hi (hP i hi)⟩, h5⟩
theorem cosT_lo {k : Nat} (h : k ≤ 128) : qd k = cosT k := by rw [cosT, if_pos h]
theorem qd_bd {k : Nat} (h : k ≤ 128) : -16777216 ≤ qd k ∧ qd k ≤ 16777216 := by
  have h1 := all512_at bd_all (show k < 512 by omega)
  simp only [Bool.and_eq_true, decide_eq_true_eq] at h1
  rw [cosT_lo h]; exact h1
theorem cosT_mid {k : Nat} (h : k < 128) : - qd k = cosT (256 - k) := by
  rw [cosT, if_neg (by omega), if_pos (by omega)]; congr 2; omega
theorem cosT_hi {k : Nat} (h : k < 256) : cosT (256 - k) = cosT (256 + k) := by
  have h1 := all512_at neg_all (show 256 + k < 512 by omega)
  simp only [decide_eq_true_eq] at h1
  rw [← h1]; congr 1; omega

theorem store129 (W : World) (ys : Array Value) (h : ys.size = 129) :
    (storeCells ⟨W.heap.size, 0, none⟩ qA.toList).run Tryd.prog (W.alloc (.cells ys 48)) = .ok () ((W.alloc (.cells ys 48)).setRow W.heap.size qA) := by
  have := run_storeCells_from (P := Tryd.prog) W.heap.size 48 qA.toList 0 ys (W.alloc (.cells ys 48)) (heap_alloc_new W _) (by simp [qA_size, h]) (fun v hv => (Array.all_eq_true_iff_forall_mem.1 qA_one) v (by simpa using hv))
  simpa using this
set_option maxRecDepth 1000000 in
theorem make_any (w : World) :
    Calls Tryd.prog 8 #[] w fun e w' => e = .returned (.pointer (some ⟨w.heap.size, 0, none⟩)) ∧ Tab w.heap.size w' ∧ Below w.heap.size w w' := by
  obtain ⟨zs, hzs, hz⟩ : ∃ zs : Array Value, Hid (zs.size = 512) ∧ ∀ w, (zeroValue 47).run Tryd.prog w = .ok (.agg zs) w := ⟨_, Array.size_replicate, zero512⟩
  obtain ⟨ys, hys, hy⟩ : ∃ ys : Array Value, Hid (ys.size = 129) ∧ ∀ w, (zeroValue 48).run Tryd.prog w = .ok (.agg ys) w := ⟨_, Array.size_replicate, zero129⟩
  have hst : ∀ W : World, (storeCells ⟨W.heap.size, 0, none⟩ qA.toList).run Tryd.prog (W.alloc (.cells ys 48)) = .ok () ((W.alloc (.cells ys 48)).setRow W.heap.size qA) := fun W => store129 W ys hys.out
  have hq := qA_size
  go_enter Tryd.func8, Tryd.ntmps8
  go_wp2_with (go_at_call 22; refine (cosines_any _).mono ?_; rintro e w1 ⟨rfl, hb1⟩)
  have hsz : w.heap.size < w1.heap.size := by have := hb1.size; simp at this; omega
  have HM : Hid (Made w.heap.size w.heap.size w1.heap.size w (fun i => i < 0) ((w1.alloc (Obj.cells ys 48)).setRow w1.heap.size qA)) := by
    have hr : w1.heap[w.heap.size]? = some (.cells zs 47 (0, 0)) := (hb1.block w.heap.size (by simp)).trans (heap_alloc_new w _)
    refine ⟨zs, hzs.out, fun i hi h => absurd h (Nat.not_lt_zero i), ?_, setRow_heap _ _ _ _ _ _ (heap_alloc_new w1 _), ?_⟩
    · exact ((setRow_other _ _ _ _ (by omega)).trans (Below.heap_alloc w1 _ _ hsz)).trans hr
    · exact below_setRow (((((Below.refl _ w).alloc (Nat.le_refl _) _).trans (hb1.mono (by simp)))).alloc (by omega) _) (by omega) _
  generalize (w1.alloc (Obj.cells ys 48)).setRow w1.heap.size qA = W0 at HM ⊢
  clear hst hy hb1 hys ys hq
  generalize w1.heap.size = f at *
  go_loopw [9] (fun i wr => ∃ k : Nat, k ≤ 129 ∧ i = .int .i64 k ∧ Hid (Made w.heap.size w.heap.size f w (fun i => i < k) wr)) (fun i _ => 129 - (intOf i).toNat)
  case atStart => exact ⟨0, by omega, rfl, HM⟩
  case round =>
    clear HM
    obtain ⟨k, hk, rfl, HM⟩ := hrel
    by_cases hlt : k < 129
    · obtain ⟨v, hc, hf⟩ := HM.out.cell (show k < 512 by omega)
      have hq := HM.out.first hlt
      go_wp2
      go_region
      go_wp2
      refine ⟨⟨k + 1, by omega, by go_num, (HM.out.step (by omega) (Nat.le_refl _) (by omega) (cosT_lo (by omega)) (fun i hi => by omega)).drew⟩, by simp [intOf]; omega⟩
    · obtain rfl : k = 129 := by omega
      have HM2 : Hid (Made w.heap.size w.heap.size f w (fun i => i ≤ 128 ∨ 256 - 0 < i ∧ i ≤ 256) wr) := HM.out.mono (fun i hi => by omega)
      clear HM
      go_wp2
      go_loopw [20] (fun i wr => ∃ k : Nat, k ≤ 128 ∧ i = .int .i64 k ∧ Hid (Made w.heap.size w.heap.size f w (fun i => i ≤ 128 ∨ 256 - k < i ∧ i ≤ 256) wr)) (fun i _ => 128 - (intOf i).toNat)
      case atStart => exact ⟨0, by omega, rfl, HM2⟩
      case round =>
        clear HM2
        obtain ⟨k, hk, rfl, HM⟩ := hrel
        by_cases hlt : k < 128
        · obtain ⟨v, hc, hf⟩ := HM.out.cell (show 256 - k < 512 by omega)
          have hq := HM.out.first (show k < 129 by omega)
          have he : (256 - (k : Int)).toNat = 256 - k := by omega
          obtain ⟨q1, q2⟩ := qd_bd (show k ≤ 128 by omega)
          go_wp2
          go_region
          go_wp2
          refine ⟨⟨k + 1, by omega, by go_num, (HM.out.step (by omega) (Nat.le_refl _) (by omega) (cosT_mid (by omega)) (fun i hi => by omega)).drew⟩, by simp [intOf]; omega⟩
        · obtain rfl : k = 128 := by omega
          have HM2 : Hid (Made w.heap.size w.heap.size f w (fun i => i ≤ 256 ∨ i < 256 + 0) wr) := HM.out.mono (fun i hi => by omega)
          clear HM
          go_wp2
          go_loopw [33] (fun i wr => ∃ k : Nat, k ≤ 256 ∧ i = .int .i64 k ∧ Hid (Made w.heap.size w.heap.size f w (fun i => i ≤ 256 ∨ i < 256 + k) wr)) (fun i _ => 256 - (intOf i).toNat)
          case atStart => exact ⟨0, by omega, rfl, HM2⟩
          case round =>
            clear HM2
            obtain ⟨k, hk, rfl, HM⟩ := hrel
            by_cases hlt : k < 256
            · obtain ⟨v, hc, hf⟩ := HM.out.cell (show 256 + k < 512 by omega)
              have hq := HM.out.known (show 256 - k < 512 by omega) (by omega)
              have he : (256 - (k : Int)).toNat = 256 - k := by omega
              have he2 : (256 + (k : Int)).toNat = 256 + k := by omega
              go_wp2
              go_region
              go_wp2
              refine ⟨⟨k + 1, by omega, by go_num, (HM.out.step (by omega) (Nat.le_refl _) (by omega) (cosT_hi (by omega)) (fun i hi => by omega)).drew⟩, by simp [intOf]; omega⟩
            · obtain rfl : k = 256 := by omega
              go_wp2
              go_ret
              exact ⟨rfl, HM.out.tab (fun i hi => by omega)⟩
end Go.Proofs.YtfhcfdepjhdhfaaDoor
/-
  The contracts of trig.at and Turn over the landed text, of a table and of none.
-/
namespace Go.Proofs.YtfhcfdepjhdhfaaDoor
open Go.ChangeShapes Go.WideShapes Go.ChangeAt Go.RowKit
set_option linter.unusedVariables false

theorem modR512 (k : Int) : modR k 512 = k % 512 := modR_of (by omega)
theorem cos_at (k : Int) : cosT (k % 512).toNat = cosI k := rfl
theorem at_any (r : Nat) (k : Int) (hk : -1152921504606847104 ≤ k) (hk' : k ≤ 1152921504606846976) (w : World) (ht : Tab r w) :
    Calls Tryd.prog 82 #[.pointer (some ⟨r, 0, none⟩), .int .i64 k] w fun e w' => e = .returned (.int .i64 (cosI k)) ∧ Below w.heap.size w w' := by
  have HT : Hid (Tab r w) := ht
  clear ht
  have hm := modR512 k
  have h1 : 0 ≤ k % 512 := by omega
  have h2 : k % 512 < 512 := by omega
  have HN : Hid ((k % 512).toNat < 512) := by show _ < _; omega
  have HC : Hid (cosT (k % 512).toNat = cosI k) := rfl
  generalize k % 512 = m at *
  generalize cosI k = c at *
  go_enter Tryd.func82, Tryd.ntmps82
  go_wp2_with (go_at_call 87; refine (mod_any k 512 (by omega) (by omega) _).mono ?_; rintro e w1 ⟨rfl, hb⟩; have hc := (HT.out.below HT.out.1 hb).2 _ HN.out; rw [HC.out] at hc)
  go_ret
  exact ⟨rfl, hb⟩

theorem shrF24 {x : Int} (h1 : -2305843009213693952 ≤ x) (h2 : x ≤ 2305843009213693952) : shrF x 24 = shr24 x := by
  rw [shrF, if_pos ⟨h1, h2, by omega, by omega⟩]
  rfl
end Go.Proofs.YtfhcfdepjhdhfaaDoor
/-
  The contract of trig.Cos over the landed text, of a table and of none.
-/
namespace Go.Proofs.YtfhcfdepjhdhfaaDoor
open Go.ChangeShapes Go.WideShapes Go.ChangeAt Go.RowKit
set_option linter.unusedVariables false

theorem cos_any (r : Nat) (k : Int) (w : World) (ht : Tab r w) :
    Calls Tryd.prog 78 #[.pointer (some ⟨r, 0, none⟩), .int .i64 k] w fun e w' => e = .returned (.int .i64 (cosF k)) ∧ Below w.heap.size w w' := by
  have HT : Hid (Tab r w) := ht
  clear ht
  by_cases h : -1152921504606846976 ≤ k ∧ k ≤ 1152921504606846976
  · have hb := in1_yes h.1 h.2
    obtain ⟨h1, h2⟩ := h
    have HA : Hid (∀ W : World, Below w.heap.size w W → Calls Tryd.prog 82 #[.pointer (some ⟨r, 0, none⟩), .int .i64 k] W fun e w' => e = .returned (.int .i64 (cosI k)) ∧ Below W.heap.size W w') :=
      fun W hW => at_any r k (by omega) h2 W (HT.out.below HT.out.1 hW)
    rw [cosF_in h1 h2]
    generalize cosI k = c at *
    go_enter Tryd.func78, Tryd.ntmps78
    go_wp2_with (first
      | (go_at_call 81; refine (tin1 1152921504606846976 (by omega) k _ _ (by go_simp)).mono ?_; rintro e w1 ⟨rfl, rfl⟩)
      | (go_at_call 82; refine (HA.out _ ((Below.refl _ w).alloc (Nat.le_refl _) _)).mono ?_; rintro e w2 ⟨rfl, hb2⟩))
    go_ret
    exact ⟨rfl, below_then ((Below.refl _ w).alloc (Nat.le_refl _) _) hb2⟩
  · have hb := in1_no (lo := -1152921504606846976) (hi := 1152921504606846976) (x := k) (by omega)
    rw [cosF_out (by omega)]
    go_enter Tryd.func78, Tryd.ntmps78
    go_wp2_with (go_at_call 81; refine (tin1 1152921504606846976 (by omega) k _ _ (by go_simp)).mono ?_; rintro e w1 ⟨rfl, rfl⟩)
    go_ret
    exact ⟨rfl, (Below.refl _ w).alloc (Nat.le_refl _) _⟩
theorem cos_none (k : Int) (w : World) :
    Calls Tryd.prog 78 #[.pointer none, .int .i64 k] w fun e w' => e = .returned (.int .i64 0) ∧ w' = w := by
  go_enter Tryd.func78, Tryd.ntmps78
  go_wp2
  go_ret
  exact ⟨rfl, rfl⟩
end Go.Proofs.YtfhcfdepjhdhfaaDoor
/-
  The contract of trig.Turn over the landed text, of a table and of none.
-/
namespace Go.Proofs.YtfhcfdepjhdhfaaDoor
open Go.ChangeShapes Go.WideShapes Go.ChangeAt Go.RowKit
set_option linter.unusedVariables false

theorem turn_none (re im k : Int) (w : World) :
    Calls Tryd.prog 66 #[.pointer none, .int .i64 re, .int .i64 im, .int .i64 k] w fun e w' => e = .returned (.tuple #[.int .i64 0, .int .i64 0]) ∧ w' = w := by
  go_enter Tryd.func66, Tryd.ntmps66
  go_wp2
  go_ret2
  exact ⟨rfl, rfl⟩
abbrev okTurn (re im k : Int) : Prop := (-1152921504606846976 ≤ k ∧ k ≤ 1152921504606846976) ∧ (-34359738368 ≤ re ∧ re ≤ 34359738368) ∧ (-34359738368 ≤ im ∧ im ≤ 34359738368)
def turnReF (re im k : Int) : Int := if okTurn re im k then turnRe re im k else 0
def turnImF (re im k : Int) : Int := if okTurn re im k then turnIm re im k else 0
theorem turn_yes (r : Nat) (re im k : Int) (hk : -1152921504606846976 ≤ k ∧ k ≤ 1152921504606846976) (hre : -34359738368 ≤ re ∧ re ≤ 34359738368) (him : -34359738368 ≤ im ∧ im ≤ 34359738368) (w : World) (ht : Tab r w) :
    Calls Tryd.prog 66 #[.pointer (some ⟨r, 0, none⟩), .int .i64 re, .int .i64 im, .int .i64 k] w fun e w' => e = .returned (.tuple #[.int .i64 (turnRe re im k), .int .i64 (turnIm re im k)]) ∧ Below w.heap.size w w' := by
  have HT : Hid (Tab r w) := ht
  clear ht
  have hb1 := in1_yes hk.1 hk.2
  have hb2 := in1_yes hre.1 hre.2
  have hb3 := in1_yes him.1 him.2
  have HA : Hid (∀ W : World, Below w.heap.size w W → Calls Tryd.prog 82 #[.pointer (some ⟨r, 0, none⟩), .int .i64 k] W fun e w' => e = .returned (.int .i64 (cosI k)) ∧ Below W.heap.size W w') :=
    fun W hW => at_any r k (by omega) hk.2 W (HT.out.below HT.out.1 hW)
  have HS : Hid (∀ W : World, Below w.heap.size w W → Calls Tryd.prog 82 #[.pointer (some ⟨r, 0, none⟩), .int .i64 (k - 128)] W fun e w' => e = .returned (.int .i64 (sinI k)) ∧ Below W.heap.size W w') :=
    fun W hW => at_any r (k - 128) (by omega) (by omega) W (HT.out.below HT.out.1 hW)
  have t1 := turn_bd hre.1 hre.2 him.1 him.2 (cosI_bd k) (sinI_bd k)
  have t2 := turn_bd him.1 him.2 hre.1 hre.2 (cosI_bd k) (sinI_bd k)
  obtain ⟨⟨p1, p2⟩, ⟨p3, p4⟩⟩ := t1
  obtain ⟨⟨p5, p6⟩, ⟨p7, p8⟩⟩ := t2
  have H1 : Hid (turnRe re im k = shr24 (re * cosI k + im * sinI k)) := rfl
  have H2 : Hid (turnIm re im k = shr24 (im * cosI k - re * sinI k)) := rfl
  have K1 : Hid (∀ W : World, Calls Tryd.prog 47 #[.int .i64 (re * cosI k + im * sinI k), .int .i64 24] W fun e w' => e = .returned (.int .i64 (turnRe re im k)) ∧ Below W.heap.size W w') := by
    intro W
    have h := shr_any (re * cosI k + im * sinI k) 24 W
    rwa [shrF24 (by omega) (by omega)] at h
  have K2 : Hid (∀ W : World, Calls Tryd.prog 47 #[.int .i64 (im * cosI k - re * sinI k), .int .i64 24] W fun e w' => e = .returned (.int .i64 (turnIm re im k)) ∧ Below W.heap.size W w') := by
    intro W
    have h := shr_any (im * cosI k - re * sinI k) 24 W
    rwa [shrF24 (by omega) (by omega)] at h
  clear H1 H2
  generalize turnRe re im k = x at *
  generalize turnIm re im k = y at *
  generalize cosI k = c at *
  generalize sinI k = s at *
  have q1 : wrap64 (re * c) = re * c := by unfold wrap64; omega
  have q2 : wrap64 (im * s) = im * s := by unfold wrap64; omega
  have q3 : wrap64 (im * c) = im * c := by unfold wrap64; omega
  have q4 : wrap64 (re * s) = re * s := by unfold wrap64; omega
  have q5 : wrap64 (re * c + im * s) = re * c + im * s := by unfold wrap64; omega
  have q6 : wrap64 (im * c - re * s) = im * c - re * s := by unfold wrap64; omega
  clear p1 p2 p3 p4 p5 p6 p7 p8
  have W1 : Hid (∀ (W : World) (b : Nat), W.cell? ⟨b, 0, none⟩ = some (.int .i64 k) → Calls Tryd.prog 81 #[.int .i64 1152921504606846976, .slice (some ⟨b, 0, none⟩) 1 1] W fun e w' => e = .returned (.bool true) ∧ w' = W) := by
    intro W b hc
    have h := tin1 1152921504606846976 (by omega) k W b hc
    rwa [hb1] at h
  have W2 : Hid (∀ (W : World) (b : Nat), W.cell? ⟨b, 0, none⟩ = some (.int .i64 re) → W.cell? ⟨b, 1, none⟩ = some (.int .i64 im) → Calls Tryd.prog 81 #[.int .i64 34359738368, .slice (some ⟨b, 0, none⟩) 2 2] W fun e w' => e = .returned (.bool true) ∧ w' = W) := by
    intro W b hc hd
    have h := tin2 34359738368 (by omega) re im W b hc hd
    rwa [hb2, hb3] at h
  obtain ⟨k1, k2⟩ := hk
  clear hre him hb1 hb2 hb3
  have B0 : Hid (Below w.heap.size w ((w.alloc (Obj.cells #[.int .i64 k] 3)).alloc (Obj.cells #[.int .i64 re, .int .i64 im] 3))) := ((Below.refl _ w).alloc (Nat.le_refl _) _).alloc (by simp) _
  go_enter Tryd.func66, Tryd.ntmps66
  go_wp2_with (first
    | (go_at_call 81; (with_reducible refine (W1.out _ _ ?_).mono ?_)
       · go_simp
       rintro e w1 ⟨rfl, rfl⟩)
    | (go_at_call 81; (with_reducible refine (W2.out _ _ ?_ ?_).mono ?_)
       · go_simp
       · go_simp
       rintro e w1 ⟨rfl, rfl⟩)
    | (go_at_call 82; (with_reducible refine (HA.out _ B0.out).mono ?_); rintro e w2 ⟨rfl, hb2⟩; have B2 : Hid (Below w.heap.size w w2) := below_then B0.out hb2; clear hb2)
    | (go_at_call 82; (with_reducible refine (HS.out _ B2.out).mono ?_); rintro e w3 ⟨rfl, hb3⟩; have B3 : Hid (Below w.heap.size w w3) := below_then B2.out hb3; clear hb3)
    | (go_at_call 47; (with_reducible refine (K1.out _).mono ?_); rintro e w4 ⟨rfl, hb4⟩; have B4 : Hid (Below w.heap.size w w4) := below_then B3.out hb4; clear hb4)
    | (go_at_call 47; (with_reducible refine (K2.out _).mono ?_); rintro e w5 ⟨rfl, hb5⟩; have B5 : Hid (Below w.heap.size w w5) := below_then B4.out hb5; clear hb5))
  go_ret2
  exact ⟨rfl, B5.out⟩
theorem turn_no (r : Nat) (re im k : Int) (h : ¬ okTurn re im k) (w : World) :
    Calls Tryd.prog 66 #[.pointer (some ⟨r, 0, none⟩), .int .i64 re, .int .i64 im, .int .i64 k] w fun e w' => e = .returned (.tuple #[.int .i64 0, .int .i64 0]) ∧ Below w.heap.size w w' := by
  by_cases hk : -1152921504606846976 ≤ k ∧ k ≤ 1152921504606846976
  · have hb1 := in1_yes hk.1 hk.2
    have hb2 : (in1 (-34359738368) 34359738368 re && in1 (-34359738368) 34359738368 im) = false := by
      unfold okTurn at h; simp [in1]; omega
    have W1 : Hid (∀ (W : World) (b : Nat), W.cell? ⟨b, 0, none⟩ = some (.int .i64 k) → Calls Tryd.prog 81 #[.int .i64 1152921504606846976, .slice (some ⟨b, 0, none⟩) 1 1] W fun e w' => e = .returned (.bool true) ∧ w' = W) := by
      intro W b hc
      have h := tin1 1152921504606846976 (by omega) k W b hc
      rwa [hb1] at h
    have W2 : Hid (∀ (W : World) (b : Nat), W.cell? ⟨b, 0, none⟩ = some (.int .i64 re) → W.cell? ⟨b, 1, none⟩ = some (.int .i64 im) → Calls Tryd.prog 81 #[.int .i64 34359738368, .slice (some ⟨b, 0, none⟩) 2 2] W fun e w' => e = .returned (.bool false) ∧ w' = W) := by
      intro W b hc hd
      have h := tin2 34359738368 (by omega) re im W b hc hd
      rwa [hb2] at h
    clear hb1 hb2 hk h
    go_enter Tryd.func66, Tryd.ntmps66
    go_wp2_with (first
      | (go_at_call 81; (with_reducible refine (W1.out _ _ ?_).mono ?_)
         · go_simp
         rintro e w1 ⟨rfl, rfl⟩)
      | (go_at_call 81; (with_reducible refine (W2.out _ _ ?_ ?_).mono ?_)
         · go_simp
         · go_simp
         rintro e w1 ⟨rfl, rfl⟩))
    go_ret2
    exact ⟨rfl, ((Below.refl _ w).alloc (Nat.le_refl _) _).alloc (by simp) _⟩
  · have hb1 := in1_no (lo := -1152921504606846976) (hi := 1152921504606846976) (x := k) (by omega)
    have W1 : Hid (∀ (W : World) (b : Nat), W.cell? ⟨b, 0, none⟩ = some (.int .i64 k) → Calls Tryd.prog 81 #[.int .i64 1152921504606846976, .slice (some ⟨b, 0, none⟩) 1 1] W fun e w' => e = .returned (.bool false) ∧ w' = W) := by
      intro W b hc
      have h := tin1 1152921504606846976 (by omega) k W b hc
      rwa [hb1] at h
    clear hb1 hk h
    go_enter Tryd.func66, Tryd.ntmps66
    go_wp2_with (first
      | (go_at_call 81; (with_reducible refine (W1.out _ _ ?_).mono ?_)
         · go_simp
         rintro e w1 ⟨rfl, rfl⟩))
    go_ret2
    exact ⟨rfl, (Below.refl _ w).alloc (Nat.le_refl _) _⟩
theorem turn_any (r : Nat) (re im k : Int) (w : World) (ht : Tab r w) :
    Calls Tryd.prog 66 #[.pointer (some ⟨r, 0, none⟩), .int .i64 re, .int .i64 im, .int .i64 k] w fun e w' => e = .returned (.tuple #[.int .i64 (turnReF re im k), .int .i64 (turnImF re im k)]) ∧ Below w.heap.size w w' := by
  by_cases h : okTurn re im k
  · rw [turnReF, turnImF, if_pos h, if_pos h]
    exact turn_yes r re im k h.1 h.2.1 h.2.2 w ht
  · rw [turnReF, turnImF, if_neg h, if_neg h]
    exact turn_no r re im k h w
end Go.Proofs.YtfhcfdepjhdhfaaDoor
/-
  The document's quarter, as a slice of its own.
-/
namespace Go.Proofs.YtfhcfdepjhdhfaaDoor
open Go.ChangeShapes Go.WideShapes Go.ChangeAt Go.RowKit
set_option linter.unusedVariables false

theorem quarter_at (w : World) :
    Calls Tryd.prog 80 #[] w fun e w' => e = .returned (.slice (some ⟨w.heap.size, 0, none⟩) 129 129) ∧ (∀ i, i < 129 → w'.cell? ⟨w.heap.size, i, none⟩ = some (.int .i64 (qd i))) ∧ Below w.heap.size w w' := by
  refine (quarter_any w).mono ?_
  rintro e w' ⟨rfl, rfl⟩
  refine ⟨rfl, fun i hi => ?_, (Below.refl _ w).alloc (Nat.le_refl _) _⟩
  rw [cell_of_row _ _ i qA 3 (0, 0) (heap_alloc_new w _)]
  exact qA_get hi
end Go.Proofs.YtfhcfdepjhdhfaaDoor
/-
  The contract of the document's own Make: a slice of its own that holds the 512 cosines.
-/
namespace Go.Proofs.YtfhcfdepjhdhfaaDoor
open Go.ChangeShapes Go.WideShapes Go.ChangeAt Go.RowKit
set_option linter.unusedVariables false

def cosL (k : Nat) : List Value := (List.range k).map fun i => .int .i64 (cosT i)
theorem cosL_snoc (k : Nat) : cosL (k + 1) = cosL k ++ [.int .i64 (cosT k)] := by simp [cosL, List.range_succ]
theorem cosL_get {k i : Nat} (h : i < k) : (cosL k)[i]? = some (.int .i64 (cosT i)) := by simp [cosL, h]
theorem info3 : ∃ i, Tryd.prog.info? 3 = some i ∧ i.zero = some (.int .i64 0) ∧ i.size = 1 ∧ i.bytes = 8 := by
  have h : (Tryd.prog.info? 3).map (fun i => (i.zero, i.size, i.bytes)) = some (some (.int .i64 0), 1, 8) := by kernel_rfl
  obtain ⟨i, hi, e⟩ := Option.map_eq_some_iff.1 h
  simp at e
  exact ⟨i, hi, e⟩
/-- What the document's Make leaves. -/
def MakePost (w : World) (e : Ending) (w' : World) : Prop :=
  ∃ g cap, e = .returned (.slice (some ⟨g, 0, none⟩) 512 cap) ∧ g < w'.heap.size ∧ (∀ i, i < 512 → w'.cell? ⟨g, i, none⟩ = some (.int .i64 (cosT i))) ∧ Below w.heap.size w w'
/-- One number is appended to a row of the call's own. -/
theorem own_step {w1 wr w3 : World} {v : Value} {k g cap : Nat} {c : Int} (h : wr.ownsRow w1.heap.size 3 1 v k (cosL k)) (hb : Below w1.heap.size w1 wr) (hc : c = cosT k)
    (hown : w3.ownsRow w1.heap.size 3 1 (.slice (some ⟨g, 0, none⟩) (k + 1) cap) (k + 1) (cosL k ++ [.int .i64 c])) (hg : (wr.alloc (.cells #[.int .i64 c] 3)).grownBy w3 v.ownBlock) :
    w3.ownsRow w1.heap.size 3 1 (.slice (some ⟨g, 0, none⟩) (k + 1) cap) (k + 1) (cosL (k + 1)) ∧ Below w1.heap.size w1 w3 := by
  subst hc
  refine ⟨by rw [cosL_snoc]; exact hown, ?_⟩
  exact Below.grown (hb.alloc hb.size _) hg (Nat.le_trans hb.size (by simp)) (fun j hj => (h.lt j hj).1)

set_option maxRecDepth 100000 in
theorem rmake_any (w : World) :
    Calls Tryd.prog 64 #[] w fun e w' => MakePost w e w' := by
  obtain ⟨i0, hi, hz0, hz1, hz2⟩ := info3
  have HI : Hid (Tryd.prog.info? 3 = some i0) := hi
  clear hi
  go_enter Tryd.func64, Tryd.ntmps64
  go_wp2_with (go_at_call 80; refine (quarter_at _).mono ?_; rintro e w1 ⟨rfl, hq, hb⟩)
  have HQ : Hid (∀ i, i < 129 → w1.cell? ⟨w.heap.size, i, none⟩ = some (.int .i64 (qd i))) := hq
  have HB : Hid (Below w.heap.size w w1) := hb
  have hf : w.heap.size < w1.heap.size := block_lt_of_cell (hq 0 (by omega))
  clear hq hb
  go_loopw [2, 3] (fun o i wr => ∃ k : Nat, k ≤ 512 ∧ i = .int .i64 k ∧ Hid (wr.ownsRow w1.heap.size 3 1 o k (cosL k)) ∧ Hid (Below w1.heap.size w1 wr)) (fun _ i _ => 512 - (intOf i).toNat)
  case atStart => exact ⟨0, by omega, rfl, World.ownsRow_nil _ _ _ _, Below.refl _ _⟩
  case round =>
    obtain ⟨k, hk, rfl, HO, HW⟩ := hrel
    by_cases hlt : k < 512
    · have HA : Hid (∀ c : Int, (wr.alloc (.cells #[.int .i64 c] 3)).ownsRow w1.heap.size 3 1 u2 k (cosL k)) := fun c => HO.out.alloc _
      have HZ : Hid (∀ c : Int, w1.heap.size ≤ (wr.alloc (.cells #[.int .i64 c] 3)).heap.size) := fun c => Nat.le_trans HW.out.size (by simp)
      by_cases a1 : k ≤ 128
      · have hx : Hid (qd (k) = cosT k) := by show _ = _; rw [cosT, if_pos a1]
        have hc : wr.cell? ⟨w.heap.size, k, none⟩ = some (.int .i64 (qd (k))) := (HW.out.cell (p := ⟨w.heap.size, k, none⟩) hf).trans (HQ.out _ (by omega))
        obtain ⟨b1, b2⟩ := qd_bd (show k ≤ 128 by omega)
        go_wp2_with (at_builtin; refine wpList_append_lies _ rfl _ _ _ rfl w1.heap.size 3 i0 (.int .i64 0) 1 8 Tryd.underlying23 HI.out hz0 hz1 hz2 rfl (by omega) _ _ _ rfl (HA.out _) ⟨wr.heap.size, 0, none⟩ 1 1 [.int .i64 (qd (k))] rfl rfl (World.news_of_block (cs := #[.int .i64 (qd (k))]) (heap_alloc_new wr _)) (by intro u hu; simp at hu; subst hu; rfl) (by omega) (by unfold maxLen; omega) (by omega) (HZ.out _) _ rfl ?_)
        intro g cap w3 hown hgr _ _
        obtain ⟨o1, o2⟩ := own_step HO.out HW.out hx.out hown hgr
        have O1 : Hid (w3.ownsRow w1.heap.size 3 1 (.slice (some ⟨g, 0, none⟩) (k + 1) cap) (k + 1) (cosL (k + 1))) := o1
        have O2 : Hid (Below w1.heap.size w1 w3) := o2
        clear hown hgr o1 o2 HO HW HA HZ hx hc
        go_wp2
        refine ⟨⟨k + 1, by omega, by go_num, O1, O2⟩, by simp [intOf]; omega⟩
      by_cases a2 : k ≤ 256
      · have hx : Hid (- qd (256 - k) = cosT k) := by show _ = _; rw [cosT, if_neg a1, if_pos a2]
        have hc : wr.cell? ⟨w.heap.size, 256 - k, none⟩ = some (.int .i64 (qd (256 - k))) := (HW.out.cell (p := ⟨w.heap.size, 256 - k, none⟩) hf).trans (HQ.out _ (by omega))
        obtain ⟨b1, b2⟩ := qd_bd (show 256 - k ≤ 128 by omega)
        have hi : (256 - (k : Int)).toNat = 256 - k := by omega
        go_wp2_with (at_builtin; refine wpList_append_lies _ rfl _ _ _ rfl w1.heap.size 3 i0 (.int .i64 0) 1 8 Tryd.underlying23 HI.out hz0 hz1 hz2 rfl (by omega) _ _ _ rfl (HA.out _) ⟨wr.heap.size, 0, none⟩ 1 1 [.int .i64 (- qd (256 - k))] rfl rfl (World.news_of_block (cs := #[.int .i64 (- qd (256 - k))]) (heap_alloc_new wr _)) (by intro u hu; simp at hu; subst hu; rfl) (by omega) (by unfold maxLen; omega) (by omega) (HZ.out _) _ rfl ?_)
        intro g cap w3 hown hgr _ _
        obtain ⟨o1, o2⟩ := own_step HO.out HW.out hx.out hown hgr
        have O1 : Hid (w3.ownsRow w1.heap.size 3 1 (.slice (some ⟨g, 0, none⟩) (k + 1) cap) (k + 1) (cosL (k + 1))) := o1
        have O2 : Hid (Below w1.heap.size w1 w3) := o2
        clear hown hgr o1 o2 HO HW HA HZ hx hc
        go_wp2
        refine ⟨⟨k + 1, by omega, by go_num, O1, O2⟩, by simp [intOf]; omega⟩
      by_cases a3 : k < 384
      · have hx : Hid (- qd (k - 256) = cosT k) := by show _ = _; rw [cosT, if_neg a1, if_neg a2, if_pos a3]
        have hc : wr.cell? ⟨w.heap.size, k - 256, none⟩ = some (.int .i64 (qd (k - 256))) := (HW.out.cell (p := ⟨w.heap.size, k - 256, none⟩) hf).trans (HQ.out _ (by omega))
        obtain ⟨b1, b2⟩ := qd_bd (show k - 256 ≤ 128 by omega)
        have hi : (256 - (512 - (k : Int))).toNat = k - 256 := by omega
        go_wp2_with (at_builtin; refine wpList_append_lies _ rfl _ _ _ rfl w1.heap.size 3 i0 (.int .i64 0) 1 8 Tryd.underlying23 HI.out hz0 hz1 hz2 rfl (by omega) _ _ _ rfl (HA.out _) ⟨wr.heap.size, 0, none⟩ 1 1 [.int .i64 (- qd (k - 256))] rfl rfl (World.news_of_block (cs := #[.int .i64 (- qd (k - 256))]) (heap_alloc_new wr _)) (by intro u hu; simp at hu; subst hu; rfl) (by omega) (by unfold maxLen; omega) (by omega) (HZ.out _) _ rfl ?_)
        intro g cap w3 hown hgr _ _
        obtain ⟨o1, o2⟩ := own_step HO.out HW.out hx.out hown hgr
        have O1 : Hid (w3.ownsRow w1.heap.size 3 1 (.slice (some ⟨g, 0, none⟩) (k + 1) cap) (k + 1) (cosL (k + 1))) := o1
        have O2 : Hid (Below w1.heap.size w1 w3) := o2
        clear hown hgr o1 o2 HO HW HA HZ hx hc
        go_wp2
        refine ⟨⟨k + 1, by omega, by go_num, O1, O2⟩, by simp [intOf]; omega⟩
      · have hx : Hid (qd (512 - k) = cosT k) := by show _ = _; rw [cosT, if_neg a1, if_neg a2, if_neg a3]
        have hc : wr.cell? ⟨w.heap.size, 512 - k, none⟩ = some (.int .i64 (qd (512 - k))) := (HW.out.cell (p := ⟨w.heap.size, 512 - k, none⟩) hf).trans (HQ.out _ (by omega))
        obtain ⟨b1, b2⟩ := qd_bd (show 512 - k ≤ 128 by omega)
        have hi : (512 - (k : Int)).toNat = 512 - k := by omega
        go_wp2_with (at_builtin; refine wpList_append_lies _ rfl _ _ _ rfl w1.heap.size 3 i0 (.int .i64 0) 1 8 Tryd.underlying23 HI.out hz0 hz1 hz2 rfl (by omega) _ _ _ rfl (HA.out _) ⟨wr.heap.size, 0, none⟩ 1 1 [.int .i64 (qd (512 - k))] rfl rfl (World.news_of_block (cs := #[.int .i64 (qd (512 - k))]) (heap_alloc_new wr _)) (by intro u hu; simp at hu; subst hu; rfl) (by omega) (by unfold maxLen; omega) (by omega) (HZ.out _) _ rfl ?_)
        intro g cap w3 hown hgr _ _
        obtain ⟨o1, o2⟩ := own_step HO.out HW.out hx.out hown hgr
        have O1 : Hid (w3.ownsRow w1.heap.size 3 1 (.slice (some ⟨g, 0, none⟩) (k + 1) cap) (k + 1) (cosL (k + 1))) := o1
        have O2 : Hid (Below w1.heap.size w1 w3) := o2
        clear hown hgr o1 o2 HO HW HA HZ hx hc
        go_wp2
        refine ⟨⟨k + 1, by omega, by go_num, O1, O2⟩, by simp [intOf]; omega⟩
    · obtain rfl : k = 512 := by omega
      obtain ⟨g, cap, rfl, hg1, hg2⟩ := HO.out.form (by omega)
      go_wp2
      go_ret
      refine ⟨g, cap, rfl, hg2, fun i hi => ?_, below_then HB.out HW.out⟩
      rw [HO.out.cellAt i (by omega)]
      exact cosL_get hi
end Go.Proofs.YtfhcfdepjhdhfaaDoor
/-
  The contracts of the document's own Cos, Sin and Turn.
-/
namespace Go.Proofs.YtfhcfdepjhdhfaaDoor
open Go.ChangeShapes Go.WideShapes Go.ChangeAt Go.RowKit
set_option linter.unusedVariables false

theorem rcos_out (k : Int) (h : k < -1152921504606846976 ∨ 1152921504606846976 < k) (w : World) :
    Calls Tryd.prog 73 #[.int .i64 k] w fun e w' => e = .returned (.int .i64 0) ∧ w' = w := by
  by_cases h1 : k < -1152921504606846976
  · go_enter Tryd.func73, Tryd.ntmps73
    go_wp2
    go_ret
    exact ⟨rfl, rfl⟩
  · have h2 : 1152921504606846976 < k := by omega
    clear h
    go_enter Tryd.func73, Tryd.ntmps73
    go_wp2
    go_ret
    exact ⟨rfl, rfl⟩
set_option maxRecDepth 100000 in
theorem rcos_in (k : Int) (h1 : -1152921504606846976 ≤ k) (h2 : k ≤ 1152921504606846976) (w : World) :
    Calls Tryd.prog 73 #[.int .i64 k] w fun e w' => e = .returned (.int .i64 (cosI k)) ∧ Below w.heap.size w w' := by
  obtain ⟨m, hm⟩ : ∃ m : Nat, k % 512 = (m : Int) := ⟨(k % 512).toNat, by omega⟩
  have hlt : m < 512 := by omega
  have HC : Hid (cosI k = cosT m) := by show cosT (k % 512).toNat = _; rw [hm]; rfl
  have HM : Hid (∀ W : World, Calls Tryd.prog 39 #[.int .i64 k, .int .i64 512] W fun e w' => e = .returned (.tuple #[.int .i64 (modQ k 512), .int .i64 (m : Int)]) ∧ Below W.heap.size W w') := by
    intro W
    have h := modr_any k 512 (by omega) (by omega) W
    rwa [modR512, hm] at h
  clear hm
  generalize modQ k 512 = q at *
  generalize cosI k = c at *
  by_cases a1 : m ≤ 128
  · have hx : cosT m = qd m := by rw [cosT, if_pos a1]
    have HX : Hid (c = qd m) := HC.out.trans hx
    clear HC hx
    go_enter Tryd.func73, Tryd.ntmps73
    go_wp2_with (first
      | (go_at_call 39; refine (HM.out _).mono ?_; rintro e w1 ⟨rfl, hb1⟩)
      | (go_at_call 80; refine (quarter_at _).mono ?_; rintro e w2 ⟨rfl, hq, hb2⟩; replace hq := hq m (by omega)))
    go_ret
    exact ⟨ret_int HX.out.symm, below_then hb1 hb2⟩
  by_cases a2 : m ≤ 256
  · have hx : cosT m = - qd (256 - m) := by rw [cosT, if_neg a1, if_pos a2]
    have HX : Hid (c = - qd (256 - m)) := HC.out.trans hx
    clear HC hx
    have hi : (256 - (m : Int)).toNat = 256 - m := by omega
    obtain ⟨b1, b2⟩ := qd_bd (show 256 - m ≤ 128 by omega)
    go_enter Tryd.func73, Tryd.ntmps73
    go_wp2_with (first
      | (go_at_call 39; refine (HM.out _).mono ?_; rintro e w1 ⟨rfl, hb1⟩)
      | (go_at_call 80; refine (quarter_at _).mono ?_; rintro e w2 ⟨rfl, hq, hb2⟩; replace hq := hq (256 - m) (by omega)))
    go_ret
    exact ⟨ret_int HX.out.symm, below_then hb1 hb2⟩
  by_cases a3 : m < 384
  · have hx : cosT m = - qd (m - 256) := by rw [cosT, if_neg a1, if_neg a2, if_pos a3]
    have HX : Hid (c = - qd (m - 256)) := HC.out.trans hx
    clear HC hx
    have hi : (256 - (512 - (m : Int))).toNat = m - 256 := by omega
    obtain ⟨b1, b2⟩ := qd_bd (show m - 256 ≤ 128 by omega)
    go_enter Tryd.func73, Tryd.ntmps73
    go_wp2_with (first
      | (go_at_call 39; refine (HM.out _).mono ?_; rintro e w1 ⟨rfl, hb1⟩)
      | (go_at_call 80; refine (quarter_at _).mono ?_; rintro e w2 ⟨rfl, hq, hb2⟩; replace hq := hq (m - 256) (by omega)))
    go_ret
    exact ⟨ret_int HX.out.symm, below_then hb1 hb2⟩
  · have hx : cosT m = qd (512 - m) := by rw [cosT, if_neg a1, if_neg a2, if_neg a3]
    have HX : Hid (c = qd (512 - m)) := HC.out.trans hx
    clear HC hx
    have hi : (512 - (m : Int)).toNat = 512 - m := by omega
    go_enter Tryd.func73, Tryd.ntmps73
    go_wp2_with (first
      | (go_at_call 39; refine (HM.out _).mono ?_; rintro e w1 ⟨rfl, hb1⟩)
      | (go_at_call 80; refine (quarter_at _).mono ?_; rintro e w2 ⟨rfl, hq, hb2⟩; replace hq := hq (512 - m) (by omega)))
    go_ret
    exact ⟨ret_int HX.out.symm, below_then hb1 hb2⟩
theorem rcos_any (k : Int) (w : World) :
    Calls Tryd.prog 73 #[.int .i64 k] w fun e w' => e = .returned (.int .i64 (cosF k)) ∧ Below w.heap.size w w' := by
  by_cases h : -1152921504606846976 ≤ k ∧ k ≤ 1152921504606846976
  · rw [cosF_in h.1 h.2]; exact rcos_in k h.1 h.2 w
  · rw [cosF_out (by omega)]
    refine (rcos_out k (by omega) w).mono ?_
    rintro e w' ⟨rfl, rfl⟩
    exact ⟨rfl, Below.refl _ _⟩
theorem rsin_any (k : Int) (w : World) :
    Calls Tryd.prog 74 #[.int .i64 k] w fun e w' => e = .returned (.int .i64 (sinF k)) ∧ Below w.heap.size w w' := by
  by_cases h1 : k < -1152921504606846976
  · rw [sinF_out (by omega)]
    go_enter Tryd.func74, Tryd.ntmps74
    go_wp2
    go_ret
    exact ⟨rfl, Below.refl _ _⟩
  by_cases h2 : 1152921504606846976 < k
  · rw [sinF_out (by omega)]
    go_enter Tryd.func74, Tryd.ntmps74
    go_wp2
    go_ret
    exact ⟨rfl, Below.refl _ _⟩
  rw [sinF_in (by omega) (by omega)]
  have m1 : 0 ≤ k % 512 := by omega
  have m2 : k % 512 < 512 := by omega
  have HM : Hid (∀ W : World, Calls Tryd.prog 39 #[.int .i64 k, .int .i64 512] W fun e w' => e = .returned (.tuple #[.int .i64 (modQ k 512), .int .i64 (k % 512)]) ∧ Below W.heap.size W w') := by
    intro W
    have h := modr_any k 512 (by omega) (by omega) W
    rwa [modR512] at h
  have HC : Hid (∀ W : World, Calls Tryd.prog 73 #[.int .i64 (k % 512 - 128)] W fun e w' => e = .returned (.int .i64 (sinI k)) ∧ Below W.heap.size W w') := by
    intro W
    have h := rcos_in (k % 512 - 128) (by omega) (by omega) W
    rwa [sinI_mod] at h
  generalize k % 512 = m at *
  generalize sinI k = s at *
  generalize modQ k 512 = q at *
  go_enter Tryd.func74, Tryd.ntmps74
  go_wp2_with (first
    | (go_at_call 39; refine (HM.out _).mono ?_; rintro e w1 ⟨rfl, hb1⟩)
    | (go_at_call 73; refine (HC.out _).mono ?_; rintro e w2 ⟨rfl, hb2⟩))
  go_ret
  exact ⟨rfl, below_then hb1 hb2⟩
theorem rturn_no (re im k : Int) (h : ¬ okTurn re im k) (w : World) :
    Calls Tryd.prog 60 #[.int .i64 re, .int .i64 im, .int .i64 k] w fun e w' => e = .returned (.tuple #[.int .i64 0, .int .i64 0]) ∧ w' = w := by
  unfold okTurn at h
  by_cases a1 : re < -34359738368
  · clear h
    go_enter Tryd.func60, Tryd.ntmps60
    go_wp2
    go_ret2
    exact ⟨rfl, rfl⟩
  by_cases a2 : 34359738368 < re
  · clear h
    go_enter Tryd.func60, Tryd.ntmps60
    go_wp2
    go_ret2
    exact ⟨rfl, rfl⟩
  by_cases a3 : im < -34359738368
  · clear h
    go_enter Tryd.func60, Tryd.ntmps60
    go_wp2
    go_ret2
    exact ⟨rfl, rfl⟩
  by_cases a4 : 34359738368 < im
  · clear h
    go_enter Tryd.func60, Tryd.ntmps60
    go_wp2
    go_ret2
    exact ⟨rfl, rfl⟩
  by_cases a5 : k < -1152921504606846976
  · clear h
    go_enter Tryd.func60, Tryd.ntmps60
    go_wp2
    go_ret2
    exact ⟨rfl, rfl⟩
  have a6 : 1152921504606846976 < k := by omega
  clear h
  go_enter Tryd.func60, Tryd.ntmps60
  go_wp2
  go_ret2
  exact ⟨rfl, rfl⟩
theorem rturn_yes (re im k : Int) (hk : -1152921504606846976 ≤ k ∧ k ≤ 1152921504606846976) (hre : -34359738368 ≤ re ∧ re ≤ 34359738368) (him : -34359738368 ≤ im ∧ im ≤ 34359738368) (w : World) :
    Calls Tryd.prog 60 #[.int .i64 re, .int .i64 im, .int .i64 k] w fun e w' => e = .returned (.tuple #[.int .i64 (turnRe re im k), .int .i64 (turnIm re im k)]) ∧ Below w.heap.size w w' := by
  have HA : Hid (∀ W : World, Calls Tryd.prog 73 #[.int .i64 k] W fun e w' => e = .returned (.int .i64 (cosI k)) ∧ Below W.heap.size W w') := by
    intro W
    have h := rcos_any k W
    rwa [cosF_in hk.1 hk.2] at h
  have HS : Hid (∀ W : World, Calls Tryd.prog 74 #[.int .i64 k] W fun e w' => e = .returned (.int .i64 (sinI k)) ∧ Below W.heap.size W w') := by
    intro W
    have h := rsin_any k W
    rwa [sinF_in hk.1 hk.2] at h
  have t1 := turn_bd hre.1 hre.2 him.1 him.2 (cosI_bd k) (sinI_bd k)
  have t2 := turn_bd him.1 him.2 hre.1 hre.2 (cosI_bd k) (sinI_bd k)
  obtain ⟨⟨p1, p2⟩, ⟨p3, p4⟩⟩ := t1
  obtain ⟨⟨p5, p6⟩, ⟨p7, p8⟩⟩ := t2
  have K1 : Hid (∀ W : World, Calls Tryd.prog 52 #[.int .i64 (re * cosI k + im * sinI k), .int .i64 24] W fun e w' => e = .returned (.int .i64 (turnRe re im k)) ∧ Below W.heap.size W w') := by
    intro W
    have h := shrR_any (re * cosI k + im * sinI k) 24 W
    rwa [shrF24 (by omega) (by omega)] at h
  have K2 : Hid (∀ W : World, Calls Tryd.prog 52 #[.int .i64 (im * cosI k - re * sinI k), .int .i64 24] W fun e w' => e = .returned (.int .i64 (turnIm re im k)) ∧ Below W.heap.size W w') := by
    intro W
    have h := shrR_any (im * cosI k - re * sinI k) 24 W
    rwa [shrF24 (by omega) (by omega)] at h
  generalize turnRe re im k = x at *
  generalize turnIm re im k = y at *
  generalize cosI k = c at *
  generalize sinI k = s at *
  have q1 : wrap64 (re * c) = re * c := by unfold wrap64; omega
  have q2 : wrap64 (im * s) = im * s := by unfold wrap64; omega
  have q3 : wrap64 (im * c) = im * c := by unfold wrap64; omega
  have q4 : wrap64 (re * s) = re * s := by unfold wrap64; omega
  have q5 : wrap64 (re * c + im * s) = re * c + im * s := by unfold wrap64; omega
  have q6 : wrap64 (im * c - re * s) = im * c - re * s := by unfold wrap64; omega
  clear p1 p2 p3 p4 p5 p6 p7 p8
  obtain ⟨k1, k2⟩ := hk
  obtain ⟨r1, r2⟩ := hre
  obtain ⟨i1, i2⟩ := him
  go_enter Tryd.func60, Tryd.ntmps60
  go_wp2_with (first
    | (go_at_call 73; (with_reducible refine (HA.out _).mono ?_); rintro e w2 ⟨rfl, hb2⟩; have B2 : Hid (Below w.heap.size w w2) := hb2; clear hb2)
    | (go_at_call 74; (with_reducible refine (HS.out _).mono ?_); rintro e w3 ⟨rfl, hb3⟩; have B3 : Hid (Below w.heap.size w w3) := below_then B2.out hb3; clear hb3)
    | (go_at_call 52; (with_reducible refine (K1.out _).mono ?_); rintro e w4 ⟨rfl, hb4⟩; have B4 : Hid (Below w.heap.size w w4) := below_then B3.out hb4; clear hb4)
    | (go_at_call 52; (with_reducible refine (K2.out _).mono ?_); rintro e w5 ⟨rfl, hb5⟩; have B5 : Hid (Below w.heap.size w w5) := below_then B4.out hb5; clear hb5))
  go_ret2
  exact ⟨rfl, B5.out⟩
theorem rturn_any (re im k : Int) (w : World) :
    Calls Tryd.prog 60 #[.int .i64 re, .int .i64 im, .int .i64 k] w fun e w' => e = .returned (.tuple #[.int .i64 (turnReF re im k), .int .i64 (turnImF re im k)]) ∧ Below w.heap.size w w' := by
  by_cases h : okTurn re im k
  · rw [turnReF, turnImF, if_pos h, if_pos h]
    exact rturn_yes re im k h.1 h.2.1 h.2.2 w
  · rw [turnReF, turnImF, if_neg h, if_neg h]
    refine (rturn_no re im k h w).mono ?_
    rintro e w' ⟨rfl, rfl⟩
    exact ⟨rfl, Below.refl _ _⟩
end Go.Proofs.YtfhcfdepjhdhfaaDoor
