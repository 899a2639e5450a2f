/-
  The plain laws of the range coder, over natural numbers: what is coded as one great number, and that a decoder has its place in each part.
-/
namespace Go.Proofs.YtdfpmhdgebajfaaDoor
set_option linter.unusedVariables false

/-- A row of octets as one number. -/
def val (l : List UInt8) : Nat := l.foldl (fun a x => a * 256 + x.toNat) 0
theorem foldl_val (l : List UInt8) : ∀ a : Nat, l.foldl (fun a x => a * 256 + x.toNat) a = a * 256 ^ l.length + val l := by
  induction l with
  | nil => intro a; simp [val]
  | cons x r ih =>
    intro a
    have e : val (x :: r) = x.toNat * 256 ^ r.length + val r := by
      show r.foldl _ (0 * 256 + x.toNat) = _
      rw [ih]; simp
    rw [List.foldl_cons, ih, e, List.length_cons, Nat.pow_succ, Nat.add_mul, Nat.mul_assoc, Nat.mul_comm 256 (256 ^ r.length), Nat.add_assoc]
theorem val_append (a b : List UInt8) : val (a ++ b) = val a * 256 ^ b.length + val b := by
  show (a ++ b).foldl _ 0 = _
  rw [List.foldl_append, foldl_val]; rfl
theorem val_cons (x : UInt8) (r : List UInt8) : val (x :: r) = x.toNat * 256 ^ r.length + val r := by
  have := val_append [x] r
  simpa [val] using this
theorem val_snoc (a : List UInt8) (x : UInt8) : val (a ++ [x]) = val a * 256 + x.toNat := by
  rw [val_append]; simp [val]
theorem val_lt (l : List UInt8) : val l < 256 ^ l.length := by
  induction l with
  | nil => simp [val]
  | cons x r ih =>
    rw [val_cons, List.length_cons, Nat.pow_succ, Nat.mul_comm (256 ^ r.length)]
    have hx : x.toNat ≤ 255 := by have := x.toNat_lt; omega
    have := Nat.mul_le_mul_right (256 ^ r.length) hx
    omega

/-- One is carried. -/
def carR : List UInt8 → List UInt8
  | [] => []
  | x :: r => if x = 255 then 0 :: carR r else (x + 1) :: r
def car (l : List UInt8) : List UInt8 := (carR l.reverse).reverse
theorem carR_len (l : List UInt8) : (carR l).length = l.length := by
  induction l with
  | nil => rfl
  | cons x r ih => unfold carR; split <;> simp [ih]
theorem car_len (l : List UInt8) : (car l).length = l.length := by simp [car, carR_len]
theorem car_nil : car [] = [] := rfl
theorem car_snoc (l : List UInt8) (x : UInt8) : car (l ++ [x]) = if x = 255 then car l ++ [0] else l ++ [x + 1] := by
  unfold car
  rw [List.reverse_append]
  have e : carR (x :: l.reverse) = if x = 255 then 0 :: carR l.reverse else (x + 1) :: l.reverse := rfl
  show (carR (x :: l.reverse)).reverse = _
  rw [e]
  split
  · next h => simp
  · next h => simp
theorem car_ffs (l : List UInt8) (k : Nat) : car (l ++ List.replicate k 255) = car l ++ List.replicate k 0 := by
  induction k with
  | zero => simp
  | succ k ih =>
    rw [List.replicate_succ', ← List.append_assoc, car_snoc, if_pos rfl, ih, List.append_assoc, ← List.replicate_succ']
theorem uint8_succ (x : UInt8) (h : x ≠ 255) : (x + 1).toNat = x.toNat + 1 := by
  have h1 : x.toNat ≠ 255 := fun e => h (UInt8.toNat_inj.1 (by rw [e]; rfl))
  have := x.toNat_lt
  rw [UInt8.toNat_add]
  show (x.toNat + 1) % 256 = _
  omega
theorem car_val : ∀ (n : Nat) (l : List UInt8), l.length = n → val l + 1 < 256 ^ l.length → val (car l) = val l + 1 := by
  intro n
  induction n with
  | zero =>
    intro l hl h
    obtain rfl := List.eq_nil_of_length_eq_zero hl
    simp [val] at h
  | succ n ih =>
    intro l hl h
    have hne : l ≠ [] := by intro e; simp [e] at hl
    obtain ⟨a, x, rfl⟩ : ∃ a x, l = a ++ [x] := ⟨l.dropLast, l.getLast hne, (List.dropLast_concat_getLast hne).symm⟩
    have ha : a.length = n := by simpa using hl
    rw [car_snoc]
    split
    · next hx =>
      subst hx
      have e : val (a ++ [255]) = val a * 256 + 255 := val_snoc a 255
      rw [e] at h ⊢
      have h' : val a + 1 < 256 ^ a.length := by
        rw [List.length_append, List.length_singleton, Nat.pow_succ] at h
        omega
      have e0 : val (car a ++ [0]) = val (car a) * 256 + 0 := val_snoc (car a) 0
      rw [e0, ih a ha h']
      omega
    · next hx =>
      rw [val_snoc, val_snoc, uint8_succ x hx]; omega

/-- The octet at j, 0 behind the last. -/
def oct (l : List UInt8) (j : Nat) : Nat := match l[j]? with | some x => x.toNat | none => 0
def pre (l : List UInt8) : Nat → Nat
  | 0 => 0
  | m + 1 => pre l m * 256 + oct l m
theorem oct_lt (l : List UInt8) (j : Nat) : oct l j < 256 := by
  unfold oct
  split
  · next x _ => exact x.toNat_lt
  · decide
theorem pre_take (l : List UInt8) : ∀ m, m ≤ l.length → pre l m = val (l.take m) := by
  intro m
  induction m with
  | zero => intro _; simp [pre, val]
  | succ m ih =>
    intro h
    have hm : m < l.length := by omega
    have hq : oct l m = (l[m]'hm).toNat := by
      have hx : l[m]? = some (l[m]'hm) := List.getElem?_eq_getElem hm
      show (match l[m]? with | some x => x.toNat | none => 0) = _
      rw [hx]
    show pre l m * 256 + oct l m = _
    rw [ih (by omega), List.take_succ_eq_append_getElem hm, val_snoc, hq]
theorem pre_eq (l : List UInt8) (m : Nat) (h : m ≤ l.length) : pre l m = val l / 256 ^ (l.length - m) := by
  rw [pre_take l m h]
  have e := val_append (l.take m) (l.drop m)
  rw [List.take_append_drop] at e
  have hl := val_lt (l.drop m)
  rw [List.length_drop] at e hl
  rw [e, Nat.mul_comm, Nat.mul_add_div (Nat.pow_pos (by decide)), Nat.div_eq_of_lt hl, Nat.add_zero]
/-- What is left when octets 0 at the end are left away. -/
def strip (l : List UInt8) : List UInt8 := (l.reverse.dropWhile (· == 0)).reverse
theorem strip_nil : strip [] = [] := rfl
theorem strip_snoc (l : List UInt8) (x : UInt8) : strip (l ++ [x]) = if x = 0 then strip l else l ++ [x] := by
  unfold strip
  rw [List.reverse_append]
  show ((x :: l.reverse).dropWhile (· == 0)).reverse = _
  rw [List.dropWhile_cons]
  by_cases h : x = 0
  · simp [h]
  · simp [h]
theorem strip_oct : ∀ (n : Nat) (l : List UInt8), l.length = n → ∀ j, oct (strip l) j = oct l j := by
  intro n
  induction n with
  | zero =>
    intro l hl j
    obtain rfl := List.eq_nil_of_length_eq_zero hl
    rfl
  | succ n ih =>
    intro l hl j
    have hne : l ≠ [] := by intro e; simp [e] at hl
    obtain ⟨a, x, rfl⟩ : ∃ a x, l = a ++ [x] := ⟨l.dropLast, l.getLast hne, (List.dropLast_concat_getLast hne).symm⟩
    have ha : a.length = n := by simpa using hl
    rw [strip_snoc]
    split
    · next h =>
      subst h
      rw [ih a ha j]
      unfold oct
      by_cases hj : j < a.length
      · rw [List.getElem?_append_left hj]
      · rw [List.getElem?_eq_none (by omega)]
        by_cases hj2 : j = a.length
        · subst hj2; simp
        · rw [List.getElem?_eq_none (by simp; omega)]
    · rfl
theorem strip_le (l : List UInt8) : (strip l).length ≤ l.length := by
  unfold strip
  rw [List.length_reverse]
  have h2 := (List.dropWhile_suffix (l := l.reverse) (fun x : UInt8 => x == 0)).sublist.length_le
  rw [List.length_reverse] at h2
  exact h2

/-- A coder: the octets told, Low, Range. -/
structure Co where
  T : List UInt8
  low : Nat
  rng : Nat
def narrowN (rng lo hi t : Nat) : Nat := if hi = t then rng - rng / t * lo else rng / t * (hi - lo)
def widC : Nat → Co → Co
  | 0, s => s
  | n + 1, s => if s.rng < 16777216 then widC n ⟨s.T ++ [UInt8.ofNat (s.low / 16777216)], s.low % 16777216 * 256, s.rng * 256⟩ else s
/-- Range and Low of a part, ahead of the widening. -/
def partC (s : Co) (lo hi t : Nat) : Co :=
  if s.low + s.rng / t * lo < 4294967296 then ⟨s.T, s.low + s.rng / t * lo, narrowN s.rng lo hi t⟩
  else ⟨car s.T, s.low + s.rng / t * lo - 4294967296, narrowN s.rng lo hi t⟩
def codeC (s : Co) (lo hi t : Nat) : Co := widC 3 (partC s lo hi t)
def IsPart (lo hi t : Nat) : Prop := 1 ≤ t ∧ t ≤ 65536 ∧ lo < hi ∧ hi ≤ t
structure Co.Ok (s : Co) : Prop where
  low : s.low < 4294967296
  lo : 16777216 ≤ s.rng
  hi : s.rng < 4294967296
/-- Range is one of a part. -/
structure Co.Half (s : Co) : Prop where
  low : s.low < 4294967296
  lo : 256 ≤ s.rng
  hi : s.rng < 4294967296
theorem share_ge {rng t : Nat} (h : 16777216 ≤ rng) (h1 : 1 ≤ t) (h2 : t ≤ 65536) : 256 ≤ rng / t := by
  rw [Nat.le_div_iff_mul_le (by omega)]
  omega
theorem share_le {rng t lo hi : Nat} (h1 : lo < hi) (h2 : hi ≤ t) : rng / t * lo + rng / t * (hi - lo) ≤ rng := by
  have e : rng / t * lo + rng / t * (hi - lo) = rng / t * hi := by rw [← Nat.mul_add]; congr 1; omega
  rw [e]
  exact Nat.le_trans (Nat.mul_le_mul_left _ h2) (Nat.div_mul_le_self _ _)
theorem narrow_ge {rng lo hi t : Nat} (h : 16777216 ≤ rng) (p : IsPart lo hi t) : 256 ≤ narrowN rng lo hi t := by
  obtain ⟨h1, h2, h3, h4⟩ := p
  have hs := share_ge h h1 h2
  have hm := share_le (rng := rng) h3 h4
  have hk : rng / t * 1 ≤ rng / t * (hi - lo) := Nat.mul_le_mul_left _ (by omega)
  unfold narrowN
  split <;> omega
theorem narrow_le {rng lo hi t : Nat} (p : IsPart lo hi t) : rng / t * lo + narrowN rng lo hi t ≤ rng := by
  obtain ⟨h1, h2, h3, h4⟩ := p
  have hm := share_le (rng := rng) h3 h4
  unfold narrowN
  split <;> omega
theorem part_half {s : Co} (h : s.Ok) {lo hi t : Nat} (p : IsPart lo hi t) : (partC s lo hi t).Half := by
  have h1 := narrow_ge h.lo p
  have h2 := narrow_le (rng := s.rng) p
  have hl := h.low
  have hh := h.hi
  unfold partC
  split
  · next hk => exact ⟨hk, h1, by show narrowN _ _ _ _ < _; omega⟩
  · next hk => exact ⟨by show _ - _ < _; omega, h1, by show narrowN _ _ _ _ < _; omega⟩
/-- One widening. -/
def wid1 (s : Co) : Co := ⟨s.T ++ [UInt8.ofNat (s.low / 16777216)], s.low % 16777216 * 256, s.rng * 256⟩
theorem widC_no {s : Co} (h : 16777216 ≤ s.rng) (n : Nat) : widC n s = s := by
  cases n with
  | zero => rfl
  | succ n => unfold widC; rw [if_neg (by omega)]
theorem widC_yes {s : Co} (h : s.rng < 16777216) (n : Nat) : widC (n + 1) s = widC n (wid1 s) := by
  show (if s.rng < 16777216 then _ else _) = _
  rw [if_pos h]; rfl
theorem widC_three {s : Co} (h : s.Half) : widC 3 s = if 16777216 ≤ s.rng then s else if 65536 ≤ s.rng then wid1 s else wid1 (wid1 s) := by
  split
  · next h1 => exact widC_no h1 3
  · next h1 =>
    rw [widC_yes (by omega)]
    split
    · next h2 => exact widC_no (by show 16777216 ≤ s.rng * 256; omega) 2
    · next h2 =>
      rw [widC_yes (by show s.rng * 256 < 16777216; omega)]
      exact widC_no (by show 16777216 ≤ s.rng * 256 * 256; have := h.lo; omega) 1
theorem wid1_low (s : Co) : (wid1 s).low < 4294967296 := by show s.low % 16777216 * 256 < _; omega
theorem code_ok {s : Co} (h : s.Ok) {lo hi t : Nat} (p : IsPart lo hi t) : (codeC s lo hi t).Ok := by
  have hp := part_half h p
  unfold codeC
  rw [widC_three hp]
  generalize partC s lo hi t = q at hp
  have h1 := hp.lo
  have h2 := hp.hi
  have h3 := hp.low
  split
  · next k => exact ⟨h3, k, h2⟩
  · next k =>
    split
    · next k2 => exact ⟨wid1_low q, by show 16777216 ≤ q.rng * 256; omega, by show q.rng * 256 < 4294967296; omega⟩
    · next k2 => exact ⟨wid1_low _, by show 16777216 ≤ q.rng * 256 * 256; omega, by show q.rng * 256 * 256 < 4294967296; omega⟩
theorem part_len (s : Co) (lo hi t : Nat) : (partC s lo hi t).T.length = s.T.length := by
  unfold partC; split
  · rfl
  · exact car_len _
theorem wid1_len (s : Co) : (wid1 s).T.length = s.T.length + 1 := by simp [wid1]
theorem code_len {s : Co} (h : s.Ok) {lo hi t : Nat} (p : IsPart lo hi t) : (codeC s lo hi t).T.length ≤ s.T.length + 2 := by
  have hp := part_half h p
  unfold codeC
  rw [widC_three hp]
  have hl := part_len s lo hi t
  generalize partC s lo hi t = q at hp hl
  split
  · omega
  · split
    · rw [wid1_len]; omega
    · rw [wid1_len, wid1_len]; omega

/-- The end's octets. -/
def low4 (n : Nat) : List UInt8 := [UInt8.ofNat (n / 16777216), UInt8.ofNat (n / 65536), UInt8.ofNat (n / 256), UInt8.ofNat n]
def fullC (s : Co) : List UInt8 := s.T ++ low4 s.low
def endC (s : Co) : List UInt8 := strip (fullC s)
theorem ofNat_toNat (n : Nat) : (UInt8.ofNat n).toNat = n % 256 := by simp [UInt8.toNat_ofNat']
theorem low4_val {n : Nat} (h : n < 4294967296) : val (low4 n) = n := by
  simp only [low4, val, List.foldl_cons, List.foldl_nil, ofNat_toNat]
  omega
def big (s : Co) : Nat := val s.T * 4294967296 + s.low
theorem full_val {s : Co} (h : s.low < 4294967296) : val (fullC s) = big s := by
  unfold fullC big
  have e : (low4 s.low).length = 4 := rfl
  rw [val_append, low4_val h, e, show (256 : Nat) ^ 4 = 4294967296 by decide]
theorem full_len (s : Co) : (fullC s).length = s.T.length + 4 := by simp [fullC, low4]
theorem wid1_big {s : Co} (h : s.low < 4294967296) : big (wid1 s) = big s * 256 := by
  show val (s.T ++ [UInt8.ofNat (s.low / 16777216)]) * 4294967296 + s.low % 16777216 * 256 = (val s.T * 4294967296 + s.low) * 256
  rw [val_snoc, ofNat_toNat]
  omega
/-- All of it fits into the octets. -/
def Fit (s : Co) : Prop := big s + s.rng < 256 ^ (s.T.length + 4)
theorem wid1_fit {s : Co} (h : s.low < 4294967296) (k : Fit s) : Fit (wid1 s) := by
  unfold Fit at *
  rw [wid1_big h, wid1_len]
  show big s * 256 + s.rng * 256 < 256 ^ (s.T.length + 1 + 4)
  rw [show s.T.length + 1 + 4 = (s.T.length + 4) + 1 by omega, Nat.pow_succ]
  omega
theorem part_big {s : Co} (h : s.Ok) (k : Fit s) {lo hi t : Nat} (p : IsPart lo hi t) : big (partC s lo hi t) = big s + s.rng / t * lo := by
  have h2 := narrow_le (rng := s.rng) p
  unfold Fit at k
  unfold partC
  split
  · next hk =>
    show val s.T * 4294967296 + (s.low + s.rng / t * lo) = val s.T * 4294967296 + s.low + s.rng / t * lo
    omega
  · next hk =>
    unfold big at *
    show val (car s.T) * 4294967296 + (s.low + s.rng / t * lo - 4294967296) = _
    rw [Nat.pow_add, show (256 : Nat) ^ 4 = 4294967296 by decide] at k
    have hv : val s.T + 1 < 256 ^ s.T.length := by
      have hn := narrow_ge h.lo p
      generalize 256 ^ s.T.length = X at *
      omega
    rw [car_val _ _ rfl hv]
    omega
theorem part_fit {s : Co} (h : s.Ok) (k : Fit s) {lo hi t : Nat} (p : IsPart lo hi t) : Fit (partC s lo hi t) := by
  have h2 := narrow_le (rng := s.rng) p
  have hb := part_big h k p
  unfold Fit at *
  rw [hb, part_len]
  have e : (partC s lo hi t).rng = narrowN s.rng lo hi t := by unfold partC; split <;> rfl
  rw [e]
  omega
theorem part_rng (s : Co) (lo hi t : Nat) : (partC s lo hi t).rng = narrowN s.rng lo hi t := by unfold partC; split <;> rfl
theorem code_fit {s : Co} (h : s.Ok) (k : Fit s) {lo hi t : Nat} (p : IsPart lo hi t) : Fit (codeC s lo hi t) := by
  have hp := part_half h p
  have hf := part_fit h k p
  unfold codeC
  rw [widC_three hp]
  generalize partC s lo hi t = q at hp hf
  split
  · exact hf
  · split
    · exact wid1_fit hp.low hf
    · exact wid1_fit (wid1_low q) (wid1_fit hp.low hf)

/-- A decoder of the octets: where it stands, Code, Range. -/
structure De where
  pos : Nat
  code : Nat
  rng : Nat
def widD (l : List UInt8) : Nat → De → De
  | 0, d => d
  | n + 1, d => if d.rng < 16777216 then widD l n ⟨d.pos + 1, d.code * 256 + oct l d.pos, d.rng * 256⟩ else d
def newD (l : List UInt8) : De := ⟨4, pre l 4, 4294967295⟩
def placeD (d : De) (t : Nat) : Nat := min (d.code / (d.rng / t)) (t - 1)
def partD (d : De) (lo hi t : Nat) : De := ⟨d.pos, min (d.code - d.rng / t * lo) (narrowN d.rng lo hi t - 1), narrowN d.rng lo hi t⟩
def takeD (l : List UInt8) (d : De) (lo hi t : Nat) : De := widD l 3 (partD d lo hi t)
def wid1D (l : List UInt8) (d : De) : De := ⟨d.pos + 1, d.code * 256 + oct l d.pos, d.rng * 256⟩
theorem widD_no {l : List UInt8} {d : De} (h : 16777216 ≤ d.rng) (n : Nat) : widD l n d = d := by
  cases n with
  | zero => rfl
  | succ n => unfold widD; rw [if_neg (by omega)]
theorem widD_yes {l : List UInt8} {d : De} (h : d.rng < 16777216) (n : Nat) : widD l (n + 1) d = widD l n (wid1D l d) := by
  show (if d.rng < 16777216 then _ else _) = _
  rw [if_pos h]; rfl
structure De.Ok (d : De) : Prop where
  code : d.code < 4294967296
  lo : 16777216 ≤ d.rng
  hi : d.rng < 4294967296
structure De.Half (d : De) : Prop where
  code : d.code < d.rng
  lo : 256 ≤ d.rng
  hi : d.rng < 4294967296
theorem partD_half {d : De} (h : d.Ok) {lo hi t : Nat} (p : IsPart lo hi t) : (partD d lo hi t).Half := by
  have h1 := narrow_ge h.lo p
  have h2 := narrow_le (rng := d.rng) p
  have hh := h.hi
  refine ⟨?_, h1, ?_⟩
  · show min _ _ < narrowN _ _ _ _; omega
  · show narrowN _ _ _ _ < _; omega
theorem widD_three {l : List UInt8} {d : De} (h : d.Half) : widD l 3 d = if 16777216 ≤ d.rng then d else if 65536 ≤ d.rng then wid1D l d else wid1D l (wid1D l d) := by
  split
  · next h1 => exact widD_no h1 3
  · next h1 =>
    rw [widD_yes (by omega)]
    split
    · next h2 => exact widD_no (by show 16777216 ≤ d.rng * 256; omega) 2
    · next h2 =>
      rw [widD_yes (by show d.rng * 256 < 16777216; omega)]
      exact widD_no (by show 16777216 ≤ d.rng * 256 * 256; have := h.lo; omega) 1
theorem wid1D_half {l : List UInt8} {d : De} (h : d.Half) (k : d.rng < 16777216) : (wid1D l d).Half := by
  have h1 := h.code
  have h2 := h.lo
  have h3 := oct_lt l d.pos
  exact ⟨by show d.code * 256 + oct l d.pos < d.rng * 256; omega, by show 256 ≤ d.rng * 256; omega, by show d.rng * 256 < 4294967296; omega⟩
theorem take_ok {l : List UInt8} {d : De} (h : d.Ok) {lo hi t : Nat} (p : IsPart lo hi t) : (takeD l d lo hi t).Ok ∧ (takeD l d lo hi t).pos ≤ d.pos + 2 := by
  have hp := partD_half h p
  unfold takeD
  rw [widD_three hp]
  have e : (partD d lo hi t).pos = d.pos := rfl
  generalize partD d lo hi t = q at hp e
  split
  · next k => exact ⟨⟨Nat.lt_trans hp.code hp.hi, k, hp.hi⟩, by omega⟩
  · next k =>
    have k1 : q.rng < 16777216 := by omega
    have hq := wid1D_half (l := l) hp k1
    split
    · next k2 => exact ⟨⟨Nat.lt_trans hq.code hq.hi, by show 16777216 ≤ q.rng * 256; omega, hq.hi⟩, by show q.pos + 1 ≤ _; omega⟩
    · next k2 =>
      have hr := wid1D_half (l := l) hq (by show q.rng * 256 < 16777216; omega)
      exact ⟨⟨Nat.lt_trans hr.code hr.hi, by show 16777216 ≤ q.rng * 256 * 256; have := hp.lo; omega, hr.hi⟩, by show q.pos + 1 + 1 ≤ _; omega⟩
theorem new_ok (l : List UInt8) : (newD l).Ok := by
  refine ⟨?_, by show 16777216 ≤ 4294967295; decide, by show 4294967295 < 4294967296; decide⟩
  show pre l 4 < _
  have h0 := oct_lt l 0
  have h1 := oct_lt l 1
  have h2 := oct_lt l 2
  have h3 := oct_lt l 3
  simp only [pre]
  omega

/-- What all the parts make of a coder. -/
def codesC (s : Co) (ps : List (Nat × Nat × Nat)) : Co := ps.foldl (fun s p => codeC s p.1 p.2.1 p.2.2) s
def takesD (l : List UInt8) (d : De) (ps : List (Nat × Nat × Nat)) : De := ps.foldl (fun d p => takeD l d p.1 p.2.1 p.2.2) d
/-- The number V (of K octets and four) lies in the coder's range. -/
def Holds (V K : Nat) (s : Co) : Prop := s.T.length ≤ K ∧ big s * 256 ^ (K - s.T.length) ≤ V ∧ V < (big s + s.rng) * 256 ^ (K - s.T.length)
theorem holds_wid1 {V K : Nat} {s : Co} (h : s.low < 4294967296) (k : Holds V K (wid1 s)) : Holds V K s := by
  obtain ⟨k1, k2, k3⟩ := k
  rw [wid1_len] at k1 k2 k3
  rw [wid1_big h] at k2 k3
  have e : K - s.T.length = (K - (s.T.length + 1)) + 1 := by omega
  have er : (wid1 s).rng = s.rng * 256 := rfl
  rw [er, ← Nat.add_mul] at k3
  refine ⟨by omega, ?_, ?_⟩
  · rw [e, Nat.pow_succ, Nat.mul_comm (256 ^ _) 256, ← Nat.mul_assoc]; exact k2
  · rw [e, Nat.pow_succ, Nat.mul_comm (256 ^ _) 256, ← Nat.mul_assoc]; exact k3
theorem holds_wid {V K : Nat} {s : Co} (h : s.Half) (k : Holds V K (widC 3 s)) : Holds V K s := by
  rw [widC_three h] at k
  split at k
  · exact k
  · split at k
    · exact holds_wid1 h.low k
    · exact holds_wid1 h.low (holds_wid1 (wid1_low s) k)
theorem holds_part {V K : Nat} {s : Co} (h : s.Ok) (f : Fit s) {lo hi t : Nat} (p : IsPart lo hi t) (k : Holds V K (partC s lo hi t)) : Holds V K s := by
  obtain ⟨k1, k2, k3⟩ := k
  rw [part_len] at k1 k2 k3
  rw [part_big h f p] at k2 k3
  rw [part_rng] at k3
  have hn := narrow_le (rng := s.rng) p
  refine ⟨k1, Nat.le_trans (Nat.mul_le_mul_right _ (Nat.le_add_right _ _)) k2, Nat.lt_of_lt_of_le k3 (Nat.mul_le_mul_right _ (by omega))⟩
theorem holds_codes (ps : List (Nat × Nat × Nat)) : ∀ {s : Co}, s.Ok → Fit s → (∀ p ∈ ps, IsPart p.1 p.2.1 p.2.2) → Holds (big (codesC s ps)) (codesC s ps).T.length s := by
  induction ps with
  | nil =>
    intro s h f _
    refine ⟨Nat.le_refl _, ?_, ?_⟩
    · show big s * 256 ^ (s.T.length - s.T.length) ≤ big s; simp
    · show big s < (big s + s.rng) * 256 ^ (s.T.length - s.T.length); have := h.lo; simp; omega
  | cons p ps ih =>
    intro s h f hp
    have p0 := hp p (List.mem_cons_self ..)
    have k := ih (code_ok h p0) (code_fit h f p0) (fun q hq => hp q (List.mem_cons_of_mem _ hq))
    exact holds_part h f p0 (holds_wid (part_half h p0) k)
/-- A decoder of l stands beside the coder. -/
structure Beside (l : List UInt8) (s : Co) (d : De) : Prop where
  rng : d.rng = s.rng
  pos : d.pos = s.T.length + 4
  code : d.code + big s = pre l d.pos
theorem holds_pre {l : List UInt8} {V K : Nat} {s : Co} (hV : ∀ m, m ≤ K + 4 → pre l m = V / 256 ^ (K + 4 - m)) (k : Holds V K s) :
    big s ≤ pre l (s.T.length + 4) ∧ pre l (s.T.length + 4) < big s + s.rng := by
  obtain ⟨k1, k2, k3⟩ := k
  rw [hV _ (by omega), show K + 4 - (s.T.length + 4) = K - s.T.length by omega]
  have hpos : 0 < 256 ^ (K - s.T.length) := Nat.pow_pos (by decide)
  exact ⟨(Nat.le_div_iff_mul_le hpos).2 k2, (Nat.div_lt_iff_lt_mul hpos).2 k3⟩
theorem beside_wid1 {l : List UInt8} {s : Co} {d : De} (h : s.low < 4294967296) (b : Beside l s d) : Beside l (wid1 s) (wid1D l d) := by
  refine ⟨?_, ?_, ?_⟩
  · show d.rng * 256 = s.rng * 256; rw [b.rng]
  · rw [wid1_len]; show d.pos + 1 = _; rw [b.pos]
  · rw [wid1_big h]
    show d.code * 256 + oct l d.pos + big s * 256 = pre l d.pos * 256 + oct l d.pos
    rw [← b.code]; omega
theorem beside_wid {l : List UInt8} {s : Co} {d : De} (h : s.Half) (hd : d.Half) (b : Beside l s d) : Beside l (widC 3 s) (widD l 3 d) := by
  rw [widC_three h, widD_three hd, b.rng]
  split
  · exact b
  · split
    · exact beside_wid1 h.low b
    · exact beside_wid1 (wid1_low s) (beside_wid1 h.low b)
theorem beside_part {l : List UInt8} {V K : Nat} {s : Co} {d : De} (h : s.Ok) (f : Fit s) {lo hi t : Nat} (p : IsPart lo hi t)
    (hV : ∀ m, m ≤ K + 4 → pre l m = V / 256 ^ (K + 4 - m)) (k : Holds V K (partC s lo hi t)) (b : Beside l s d) :
    (lo ≤ placeD d t ∧ placeD d t < hi) ∧ Beside l (partC s lo hi t) (partD d lo hi t) := by
  have hp := holds_pre hV k
  rw [part_len, part_big h f p, part_rng] at hp
  have hc := b.code
  rw [b.pos] at hc
  have e := b.rng
  have hn := narrow_ge h.lo p
  obtain ⟨p1, p2, p3, p4⟩ := p
  have hs := share_ge h.lo p1 p2
  refine ⟨⟨?_, ?_⟩, ?_, ?_, ?_⟩
  · unfold placeD
    rw [e]
    have : lo ≤ d.code / (s.rng / t) := by
      rw [Nat.le_div_iff_mul_le (by omega), Nat.mul_comm]
      omega
    omega
  · unfold placeD
    rw [e]
    by_cases ht : hi = t
    · omega
    · have : d.code / (s.rng / t) < hi := by
        rw [Nat.div_lt_iff_lt_mul (by omega)]
        unfold narrowN at hp
        rw [if_neg ht] at hp
        have e2 : s.rng / t * lo + s.rng / t * (hi - lo) = hi * (s.rng / t) := by rw [← Nat.mul_add, Nat.mul_comm]; congr 1; omega
        omega
      omega
  · rw [part_rng]; show narrowN d.rng lo hi t = _; rw [e]
  · rw [part_len]; exact b.pos
  · rw [part_big h f ⟨p1, p2, p3, p4⟩]
    show min (d.code - d.rng / t * lo) (narrowN d.rng lo hi t - 1) + _ = pre l d.pos
    rw [b.pos, e]
    omega
/-- The place of each part, and on. -/
theorem back_step {l : List UInt8} {V K : Nat} {s : Co} {d : De} (h : s.Ok) (f : Fit s) (hd : d.Ok) {lo hi t : Nat} (p : IsPart lo hi t)
    (hV : ∀ m, m ≤ K + 4 → pre l m = V / 256 ^ (K + 4 - m)) (k : Holds V K (codeC s lo hi t)) (b : Beside l s d) :
    (lo ≤ placeD d t ∧ placeD d t < hi) ∧ Beside l (codeC s lo hi t) (takeD l d lo hi t) := by
  have k1 := holds_wid (part_half h p) k
  have h1 := beside_part h f p hV k1 b
  exact ⟨h1.1, beside_wid (part_half h p) (partD_half hd p) h1.2⟩
theorem codes_cons (s : Co) (p : Nat × Nat × Nat) (ps : List (Nat × Nat × Nat)) : codesC s (p :: ps) = codesC (codeC s p.1 p.2.1 p.2.2) ps := rfl
theorem codes_append (s : Co) (a b : List (Nat × Nat × Nat)) : codesC s (a ++ b) = codesC (codesC s a) b := by simp [codesC, List.foldl_append]
theorem codes_ok (ps : List (Nat × Nat × Nat)) : ∀ {s : Co}, s.Ok → (∀ p ∈ ps, IsPart p.1 p.2.1 p.2.2) → (codesC s ps).Ok ∧ (codesC s ps).T.length ≤ s.T.length + 2 * ps.length := by
  induction ps with
  | nil => intro s h _; exact ⟨h, by simp [codesC]⟩
  | cons p ps ih =>
    intro s h hp
    have p0 := hp p (List.mem_cons_self ..)
    have k := ih (code_ok h p0) (fun q hq => hp q (List.mem_cons_of_mem _ hq))
    have := code_len h p0
    rw [codes_cons]
    refine ⟨k.1, ?_⟩
    have := k.2
    simp only [List.length_cons]
    omega
theorem codes_fit (ps : List (Nat × Nat × Nat)) : ∀ {s : Co}, s.Ok → Fit s → (∀ p ∈ ps, IsPart p.1 p.2.1 p.2.2) → Fit (codesC s ps) := by
  induction ps with
  | nil => intro s h f _; exact f
  | cons p ps ih =>
    intro s h f hp
    have p0 := hp p (List.mem_cons_self ..)
    exact ih (code_ok h p0) (code_fit h f p0) (fun q hq => hp q (List.mem_cons_of_mem _ hq))
def zeroC : Co := ⟨[], 0, 4294967295⟩
theorem zero_ok : zeroC.Ok := ⟨by decide, by decide, by decide⟩
theorem zero_fit : Fit zeroC := by unfold Fit; decide
/-- P4.3: the first parts being taken, the decoder stands beside the coder of them, and has its place in the next. -/
theorem back (a : List (Nat × Nat × Nat)) (b : List (Nat × Nat × Nat)) (hp : ∀ p ∈ a ++ b, IsPart p.1 p.2.1 p.2.2) :
    (takesD (endC (codesC zeroC (a ++ b))) (newD (endC (codesC zeroC (a ++ b)))) a).Ok ∧
    (takesD (endC (codesC zeroC (a ++ b))) (newD (endC (codesC zeroC (a ++ b)))) a).pos ≤ 4 + 2 * a.length ∧
    Beside (endC (codesC zeroC (a ++ b))) (codesC zeroC a) (takesD (endC (codesC zeroC (a ++ b))) (newD (endC (codesC zeroC (a ++ b)))) a) ∧
    ∀ p r, b = p :: r → p.1 ≤ placeD (takesD (endC (codesC zeroC (a ++ b))) (newD (endC (codesC zeroC (a ++ b)))) a) p.2.2 ∧ placeD (takesD (endC (codesC zeroC (a ++ b))) (newD (endC (codesC zeroC (a ++ b)))) a) p.2.2 < p.2.1 := by
  have hall := codes_ok (a ++ b) zero_ok hp
  generalize hs : codesC zeroC (a ++ b) = sn at *
  have hV : ∀ m, m ≤ sn.T.length + 4 → pre (endC sn) m = big sn / 256 ^ (sn.T.length + 4 - m) := by
    intro m hm
    have e : ∀ m, pre (endC sn) m = pre (fullC sn) m := by
      intro m
      induction m with
      | zero => rfl
      | succ m ih => show pre (endC sn) m * 256 + oct (endC sn) m = _ ; rw [ih]; unfold endC; rw [strip_oct _ _ rfl]; rfl
    rw [e, pre_eq _ _ (by rw [full_len]; exact hm), full_len, full_val hall.1.low]
  generalize hl : endC sn = l at *
  have key : ∀ (c s : List (Nat × Nat × Nat)), c ++ s = a ++ b → (takesD l (newD l) c).Ok ∧ (takesD l (newD l) c).pos ≤ 4 + 2 * c.length ∧ Beside l (codesC zeroC c) (takesD l (newD l) c) ∧
      ∀ p r, s = p :: r → p.1 ≤ placeD (takesD l (newD l) c) p.2.2 ∧ placeD (takesD l (newD l) c) p.2.2 < p.2.1 := by
    have main : ∀ n (c s : List (Nat × Nat × Nat)), c.length = n → c ++ s = a ++ b → (takesD l (newD l) c).Ok ∧ (takesD l (newD l) c).pos ≤ 4 + 2 * c.length ∧ Beside l (codesC zeroC c) (takesD l (newD l) c) := by
      intro n
      induction n with
      | zero =>
        intro c s hc he
        obtain rfl := List.eq_nil_of_length_eq_zero hc
        refine ⟨new_ok l, Nat.le_refl _, rfl, rfl, ?_⟩
        show pre l 4 + big zeroC = pre l 4
        have : big zeroC = 0 := by simp [big, zeroC, val]
        omega
      | succ n ih =>
        intro c s hc he
        have hne : c ≠ [] := by intro e; simp [e] at hc
        obtain ⟨c', x, rfl⟩ : ∃ a x, c = a ++ [x] := ⟨c.dropLast, c.getLast hne, (List.dropLast_concat_getLast hne).symm⟩
        have hc' : c'.length = n := by simpa using hc
        have he' : c' ++ (x :: s) = a ++ b := by rw [← he]; simp
        obtain ⟨i1, i2, i3⟩ := ih c' (x :: s) hc' he'
        have hpx : IsPart x.1 x.2.1 x.2.2 := hp x (by rw [← he']; simp)
        have hpc : ∀ p ∈ c', IsPart p.1 p.2.1 p.2.2 := fun p h => hp p (by rw [← he']; simp [h])
        have hps : ∀ p ∈ s, IsPart p.1 p.2.1 p.2.2 := fun p h => hp p (by rw [← he']; simp [h])
        have ok := (codes_ok c' zero_ok hpc).1
        have ft := codes_fit c' zero_ok zero_fit hpc
        have hk : Holds (big sn) sn.T.length (codeC (codesC zeroC c') x.1 x.2.1 x.2.2) := by
          have h := holds_codes s (code_ok ok hpx) (code_fit ok ft hpx) hps
          have e : codesC (codeC (codesC zeroC c') x.1 x.2.1 x.2.2) s = sn := by
            rw [← codes_cons, ← codes_append, he', hs]
          rw [e] at h
          exact h
        have st := back_step ok ft i1 hpx hV hk i3
        have ht : takesD l (newD l) (c' ++ [x]) = takeD l (takesD l (newD l) c') x.1 x.2.1 x.2.2 := by simp [takesD, List.foldl_append]
        have hcc : codesC zeroC (c' ++ [x]) = codeC (codesC zeroC c') x.1 x.2.1 x.2.2 := by simp [codesC, List.foldl_append]
        have tk := take_ok (l := l) i1 hpx
        rw [ht, hcc]
        refine ⟨tk.1, ?_, st.2⟩
        have := tk.2
        simp only [List.length_append, List.length_singleton]
        omega
    intro c s he
    obtain ⟨m1, m2, m3⟩ := main _ c s rfl he
    refine ⟨m1, m2, m3, ?_⟩
    rintro p r rfl
    have hpx : IsPart p.1 p.2.1 p.2.2 := hp p (by rw [← he]; simp)
    have hpc : ∀ p ∈ c, IsPart p.1 p.2.1 p.2.2 := fun p h => hp p (by rw [← he]; simp [h])
    have hps : ∀ p ∈ r, IsPart p.1 p.2.1 p.2.2 := fun p h => hp p (by rw [← he]; simp [h])
    have ok := (codes_ok c zero_ok hpc).1
    have ft := codes_fit c zero_ok zero_fit hpc
    have hk : Holds (big sn) sn.T.length (codeC (codesC zeroC c) p.1 p.2.1 p.2.2) := by
      have h := holds_codes r (code_ok ok hpx) (code_fit ok ft hpx) hps
      have e : codesC (codeC (codesC zeroC c) p.1 p.2.1 p.2.2) r = sn := by
        rw [← codes_cons, ← codes_append, he, hs]
      rw [e] at h
      exact h
    exact (back_step ok ft m1 hpx hV hk m3).1
  exact key a b rfl
end Go.Proofs.YtdfpmhdgebajfaaDoor
