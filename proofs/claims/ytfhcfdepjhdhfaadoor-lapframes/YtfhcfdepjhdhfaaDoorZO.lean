/-
  Two turns are one, but for what cosines are rounded by: of any parts, over plain integers; sums of two lists; halves of a sum.
-/
import Derived.Test.YtfhcfdepjhdhfaaDoorZE
namespace Go.Proofs.YtfhcfdepjhdhfaaDoor
set_option linter.unusedVariables false

/-- What a cosine and a sine of a sum of parts are off by. -/
def dfcI (a b : Int) : Int := 16777216 * cosI (a + b) - cosI b * cosI a + sinI b * sinI a
def dfsI (a b : Int) : Int := 16777216 * sinI (a + b) - sinI b * cosI a - cosI b * sinI a
theorem cosI_quarter (k : Int) : cosI (k + 128) = - sinI k := by
  rw [sinI, ← cosI_half]; congr 1; omega
theorem sinI_quarter (k : Int) : sinI (k + 128) = cosI k := by rw [sinI]; congr 1; omega
theorem dfcI_qa (a b : Int) : dfcI (a + 128) b = - dfsI a b := by
  unfold dfcI dfsI
  rw [show a + 128 + b = a + b + 128 by omega, cosI_quarter, cosI_quarter, sinI_quarter, Int.mul_neg, Int.mul_neg]
  omega
theorem dfsI_qa (a b : Int) : dfsI (a + 128) b = dfcI a b := by
  unfold dfcI dfsI
  rw [show a + 128 + b = a + b + 128 by omega, sinI_quarter, cosI_quarter, sinI_quarter, Int.mul_neg]
  omega
theorem dfcI_comm (a b : Int) : dfcI a b = dfcI b a := by
  unfold dfcI; rw [Int.add_comm a b, Int.mul_comm (cosI b), Int.mul_comm (sinI b)]
theorem dfsI_comm (a b : Int) : dfsI a b = dfsI b a := by
  unfold dfsI; rw [Int.add_comm a b, Int.mul_comm (sinI b), Int.mul_comm (cosI b)]; omega
theorem dfcI_of {a b c d : Int} (h : a % 512 = c % 512) (h' : b % 512 = d % 512) : dfcI a b = dfcI c d := by
  unfold dfcI sinI
  rw [cosI_of h, cosI_of h', cosI_of (show (a + b) % 512 = (c + d) % 512 by omega), cosI_of (show (a - 128) % 512 = (c - 128) % 512 by omega), cosI_of (show (b - 128) % 512 = (d - 128) % 512 by omega)]
theorem dfsI_of {a b c d : Int} (h : a % 512 = c % 512) (h' : b % 512 = d % 512) : dfsI a b = dfsI c d := by
  unfold dfsI sinI
  rw [cosI_of h, cosI_of h', cosI_of (show (a + b - 128) % 512 = (c + d - 128) % 512 by omega), cosI_of (show (a - 128) % 512 = (c - 128) % 512 by omega), cosI_of (show (b - 128) % 512 = (d - 128) % 512 by omega)]
/-- The first quarter's: cosines q(0..128) and sines q(128..0). -/
def rowOk (ca sa : Int) : List Int → List Int → List Int → List Int → Bool
  | cb :: cs, sb :: ss, cab :: cabs, sab :: sabs =>
    decide ((16777216 * cab - cb * ca + sb * sa).natAbs + (16777216 * sab - sb * ca - cb * sa).natAbs ≤ 39517778) && rowOk ca sa cs ss cabs sabs
  | _, _, _, _ => true
def allC : List Int := (List.range 256).map cosT
def allS : List Int := (List.range 256).map fun i => cosT ((i + 384) % 512)
def rowsOk : List Int → List Int → Bool
  | ca :: cs, sa :: ss => rowOk ca sa (allC.take 128) (allS.take 128) (ca :: cs) (sa :: ss) && rowsOk cs ss
  | _, _ => true
theorem rowOk_at : ∀ (b : Nat) {ca sa : Int} {cs ss cabs sabs : List Int}, rowOk ca sa cs ss cabs sabs = true → ∀ {cb sb cab sab : Int}, cs[b]? = some cb → ss[b]? = some sb → cabs[b]? = some cab → sabs[b]? = some sab →
    (16777216 * cab - cb * ca + sb * sa).natAbs + (16777216 * sab - sb * ca - cb * sa).natAbs ≤ 39517778
  | b, ca, sa, [], ss, cabs, sabs, h, cb, sb, cab, sab, h1, h2, h3, h4 => by simp at h1
  | b, ca, sa, c :: cs, [], cabs, sabs, h, cb, sb, cab, sab, h1, h2, h3, h4 => by simp at h2
  | b, ca, sa, c :: cs, s :: ss, [], sabs, h, cb, sb, cab, sab, h1, h2, h3, h4 => by simp at h3
  | b, ca, sa, c :: cs, s :: ss, x :: cabs, [], h, cb, sb, cab, sab, h1, h2, h3, h4 => by simp at h4
  | 0, ca, sa, c :: cs, s :: ss, x :: cabs, y :: sabs, h, cb, sb, cab, sab, h1, h2, h3, h4 => by
    simp only [rowOk, Bool.and_eq_true, decide_eq_true_eq] at h
    simp at h1 h2 h3 h4
    subst h1 h2 h3 h4
    exact h.1
  | b + 1, ca, sa, c :: cs, s :: ss, x :: cabs, y :: sabs, h, cb, sb, cab, sab, h1, h2, h3, h4 => by
    simp only [rowOk, Bool.and_eq_true] at h
    exact rowOk_at b h.2 (by simpa using h1) (by simpa using h2) (by simpa using h3) (by simpa using h4)
theorem rowsOk_at : ∀ (a : Nat) {cs ss : List Int}, rowsOk cs ss = true → ∀ {ca sa : Int}, cs[a]? = some ca → ss[a]? = some sa → rowOk ca sa (allC.take 128) (allS.take 128) (cs.drop a) (ss.drop a) = true
  | a, [], ss, h, ca, sa, h1, h2 => by simp at h1
  | a, c :: cs, [], h, ca, sa, h1, h2 => by simp at h2
  | 0, c :: cs, s :: ss, h, ca, sa, h1, h2 => by
    simp only [rowsOk, Bool.and_eq_true] at h
    simp at h1 h2
    subst h1 h2
    exact h.1
  | a + 1, c :: cs, s :: ss, h, ca, sa, h1, h2 => by
    simp only [rowsOk, Bool.and_eq_true] at h
    exact rowsOk_at a h.2 (by simpa using h1) (by simpa using h2)
set_option maxRecDepth 100000 in
theorem rows_all : rowsOk allC allS = true := by decide +kernel
theorem allC_get {i : Nat} (h : i < 256) : allC[i]? = some (cosT i) := by simp [allC, h]
theorem allS_get {i : Nat} (h : i < 256) : allS[i]? = some (cosT ((i + 384) % 512)) := by simp [allS, h]
theorem df_quarter {a b : Nat} (ha : a < 128) (hb : b < 128) : (dfcI a b).natAbs + (dfsI a b).natAbs ≤ 39517778 := by
  have h1 := rowsOk_at a rows_all (allC_get (by omega)) (allS_get (by omega))
  have h2 := rowOk_at b h1 (by rw [List.getElem?_take_of_lt hb]; exact allC_get (by omega)) (by rw [List.getElem?_take_of_lt hb]; exact allS_get (by omega))
    (by rw [List.getElem?_drop]; exact allC_get (by omega)) (by rw [List.getElem?_drop]; exact allS_get (by omega))
  have c : ∀ i : Nat, i < 256 → cosI (i : Int) = cosT i := fun i hi => by rw [cosI]; congr 1; omega
  have s : ∀ i : Nat, i < 256 → sinI (i : Int) = cosT ((i + 384) % 512) := fun i hi => by rw [sinI, cosI]; congr 1; omega
  rw [dfcI, dfsI, show (a : Int) + (b : Int) = ((a + b : Nat) : Int) by omega, c a (by omega), c b (by omega), c (a + b) (by omega), s a (by omega), s b (by omega), s (a + b) (by omega)]
  exact h2
theorem df_quarters {a b : Nat} (ha : a < 128) (hb : b < 128) : ∀ q r : Nat, (dfcI (a + 128 * q : Int) (b + 128 * r : Int)).natAbs + (dfsI (a + 128 * q : Int) (b + 128 * r : Int)).natAbs ≤ 39517778
  | 0, 0 => by
    have := df_quarter ha hb
    simpa using this
  | q + 1, r => by
    have ih := df_quarters ha hb q r
    rw [show (a : Int) + 128 * ((q + 1 : Nat) : Int) = a + 128 * q + 128 by omega, dfcI_qa, dfsI_qa]
    omega
  | 0, r + 1 => by
    have ih := df_quarters ha hb 0 r
    rw [dfcI_comm, dfsI_comm] at ih ⊢
    rw [show (b : Int) + 128 * ((r + 1 : Nat) : Int) = b + 128 * r + 128 by omega, dfcI_qa, dfsI_qa]
    omega
/-- TWO TURNS ARE ONE, but for so much. -/
theorem df_any (a b : Int) : (dfcI a b).natAbs + (dfsI a b).natAbs ≤ 39517778 := by
  obtain ⟨u, hu⟩ : ∃ u : Nat, a % 512 = u := ⟨(a % 512).toNat, by omega⟩
  obtain ⟨v, hv⟩ : ∃ v : Nat, b % 512 = v := ⟨(b % 512).toNat, by omega⟩
  have h := df_quarters (a := u % 128) (b := v % 128) (by omega) (by omega) (u / 128) (v / 128)
  rw [dfcI_of (c := ((u % 128 : Nat) : Int) + 128 * ((u / 128 : Nat) : Int)) (d := ((v % 128 : Nat) : Int) + 128 * ((v / 128 : Nat) : Int)) (by omega) (by omega),
    dfsI_of (c := ((u % 128 : Nat) : Int) + 128 * ((u / 128 : Nat) : Int)) (d := ((v % 128 : Nat) : Int) + 128 * ((v / 128 : Nat) : Int)) (by omega) (by omega)]
  exact h
theorem mul_abs {x y : Int} {a b : Nat} (h1 : x.natAbs ≤ a) (h2 : y.natAbs ≤ b) : (x * y).natAbs ≤ a * b := by
  rw [Int.natAbs_mul]; exact Nat.mul_le_mul h1 h2

theorem sumN_add : ∀ (n : Nat) (f g : Nat → Int), sumN n (fun i => f i + g i) = sumN n f + sumN n g
  | 0, f, g => by simp [sumN]
  | n + 1, f, g => by simp only [sumN]; rw [sumN_add n f g]; omega
theorem sumN_mul (c : Int) : ∀ (n : Nat) (f : Nat → Int), sumN n (fun i => c * f i) = c * sumN n f
  | 0, f => by simp [sumN]
  | n + 1, f => by simp only [sumN]; rw [sumN_mul c n f, Int.mul_add]
theorem sumN_mulr (c : Int) (n : Nat) (f : Nat → Int) : sumN n (fun i => f i * c) = sumN n f * c := by
  rw [Int.mul_comm, ← sumN_mul]; exact sumN_congr n (fun i _ => Int.mul_comm _ _)
theorem sumN_zero : ∀ n, sumN n (fun _ => 0) = 0
  | 0 => rfl
  | n + 1 => by rw [sumN, sumN_zero n]; rfl
theorem sumN_cut (g : Nat → Int) (h : Nat) : ∀ m, sumN (h + m) g = sumN h g + sumN m (fun i => g (h + i))
  | 0 => by simp [sumN]
  | m + 1 => by rw [← Nat.add_assoc, sumN, sumN, sumN_cut g h m]; omega
/-- A sum over two halves at once. -/
theorem sumN_halves (g : Nat → Int) (h : Nat) : sumN h (fun i => g i + g (h + i)) = sumN (2 * h) g := by
  rw [show 2 * h = h + h by omega, sumN_cut, sumN_add]
theorem sumN_swap : ∀ (n m : Nat) (g : Nat → Nat → Int), sumN n (fun i => sumN m (fun j => g i j)) = sumN m (fun j => sumN n (fun i => g i j))
  | 0, m, g => by simp only [sumN]; exact (sumN_zero m).symm
  | n + 1, m, g => by simp only [sumN]; rw [sumN_swap n m g, ← sumN_add]
/-- The last first. -/
theorem sumN_rev : ∀ (n : Nat) (g : Nat → Int), sumN n (fun i => g (n - 1 - i)) = sumN n g
  | 0, g => rfl
  | n + 1, g => by
    rw [Nat.add_comm n 1, sumN_cut, show 1 + n = n + 1 by omega, sumN]
    have : sumN n (fun i => g (n + 1 - 1 - (1 + i))) = sumN n g := by
      rw [← sumN_rev n g]; exact sumN_congr n (fun i hi => by congr 1; omega)
    rw [this]
    simp [sumN]
    omega
/-- Of odd places, those of even ones first, and those of odd ones from the end: a list of 2 h as h pairs. -/
theorem sumN_ends (h : Nat) (g : Nat → Int) : sumN h (fun i => g (2 * i) + g (2 * h - 1 - 2 * i)) = sumN (2 * h) g := by
  rw [sumN_two, sumN_add]
  congr 1
  rw [← sumN_rev h (fun i => g (2 * i + 1))]
  exact sumN_congr h (fun i hi => by congr 1; omega)
theorem sumN_abs {B : Nat} : ∀ (n : Nat) {g : Nat → Int} (h : ∀ i, i < n → (g i).natAbs ≤ B), (sumN n g).natAbs ≤ n * B
  | 0, g, h => by simp [sumN]
  | n + 1, g, h => by
    have a := sumN_abs n (g := g) (fun i hi => h i (by omega))
    have b := h n (by omega)
    rw [sumN, Nat.add_mul]
    omega
end Go.Proofs.YtfhcfdepjhdhfaaDoor
