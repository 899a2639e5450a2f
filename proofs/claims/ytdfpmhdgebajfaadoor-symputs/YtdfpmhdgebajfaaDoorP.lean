/-
  The plain laws of sym: numbers as parts, what a decoder takes of them, and that what was coded is told again.
-/
import Derived.Test.YtdfpmhdgebajfaaDoorM
namespace Go.Proofs.YtdfpmhdgebajfaaDoor
set_option linter.unusedVariables false

abbrev Parts := List (Nat × Nat × Nat)
/-- k octets and r bits of v. -/
def bitsK (v : Nat) : Nat → Nat → Parts
  | 0, r => [(v % 2 ^ r, v % 2 ^ r + 1, 2 ^ r)]
  | k + 1, r => (v / 2 ^ (r + 8 * k) % 256, v / 2 ^ (r + 8 * k) % 256 + 1, 256) :: bitsK v k r
def bK (n : Nat) : Nat := (n - 1) / 8
def bR (n : Nat) : Nat := n - 8 * bK n
theorem bRK (n : Nat) : bR n + 8 * bK n = n := by unfold bR bK; omega
theorem bR_le (n : Nat) : bR n ≤ 8 := by unfold bR bK; omega
theorem bK_le (n : Nat) (h : n ≤ 31) : bK n ≤ 3 := by unfold bK; omega
def bitsP (v n : Nat) : Parts := bitsK v (bK n) (bR n)
/-- How many of the bits of a number below n stand behind its highest ones. -/
def sh (n : Nat) : Nat := if n - 1 < 4096 then 0 else if n - 1 < 1048576 then 8 else if n - 1 < 268435456 then 16 else 24
def belowP (v n : Nat) : Parts := (v / 2 ^ sh n, v / 2 ^ sh n + 1, (n - 1) / 2 ^ sh n + 1) :: bitsP (v % 2 ^ sh n) (sh n)
def edge : Nat → Nat
  | 0 => 0 | 1 => 24 | 2 => 32 | 3 => 40 | 4 => 45 | 5 => 50 | 6 => 53 | 7 => 56 | _ => 64
def smV : Nat → Int
  | 0 => 0 | 1 => -1 | 2 => 1 | 3 => -2 | 4 => 2 | 5 => -3 | 6 => 3 | _ => 0
def plc (x : Nat) : Nat := if x < 24 then 0 else if x < 32 then 1 else if x < 40 then 2 else if x < 45 then 3 else if x < 50 then 4 else if x < 53 then 5 else if x < 56 then 6 else 7
def plV (v : Int) : Nat := if v = 0 then 0 else if v = -1 then 1 else if v = 1 then 2 else if v = -2 then 3 else if v = 2 then 4 else if v = -3 then 5 else if v = 3 then 6 else 7
def aboveN (v : Int) : Nat := if 0 < v then 1 else 0
def farN (v : Int) : Nat := v.natAbs - 4
def deltaP (v : Int) : Parts := (edge (plV v), edge (plV v + 1), 64) :: if plV v < 7 then [] else bitsP (aboveN v) 1 ++ belowP (farN v) 64

theorem plV_le (v : Int) : plV v ≤ 7 := by unfold plV; repeat' split
                                           all_goals omega
theorem plc_le (x : Nat) : plc x ≤ 7 := by unfold plc; repeat' split
                                           all_goals omega
theorem smV_pl (v : Int) (h : plV v < 7) : smV (plV v) = v := by
  have : v = 0 ∨ v = -1 ∨ v = 1 ∨ v = -2 ∨ v = 2 ∨ v = -3 ∨ v = 3 := by
    unfold plV at h
    repeat' split at h
    all_goals omega
  rcases this with rfl | rfl | rfl | rfl | rfl | rfl | rfl <;> rfl
theorem plV_far {v : Int} (h : ¬ plV v < 7) : 4 ≤ v.natAbs := by
  unfold plV at h
  repeat' split at h
  all_goals omega
theorem edge_step (j : Nat) (h : j ≤ 7) : IsPart (edge j) (edge (j + 1)) 64 := by
  have : j = 0 ∨ j = 1 ∨ j = 2 ∨ j = 3 ∨ j = 4 ∨ j = 5 ∨ j = 6 ∨ j = 7 := by omega
  rcases this with rfl | rfl | rfl | rfl | rfl | rfl | rfl | rfl <;> (unfold IsPart; decide)
theorem plc_of (j x : Nat) (h : j ≤ 7) (h1 : edge j ≤ x) (h2 : x < edge (j + 1)) : plc x = j := by
  have : j = 0 ∨ j = 1 ∨ j = 2 ∨ j = 3 ∨ j = 4 ∨ j = 5 ∨ j = 6 ∨ j = 7 := by omega
  rcases this with rfl | rfl | rfl | rfl | rfl | rfl | rfl | rfl <;> (simp only [edge] at h1 h2; unfold plc; repeat' split)
  all_goals omega
theorem plc_in (x : Nat) (h : x < 64) : edge (plc x) ≤ x ∧ x < edge (plc x + 1) := by
  unfold plc
  repeat' split
  all_goals (simp only [edge]; omega)

theorem two_pos (r : Nat) : 0 < 2 ^ r := Nat.pow_pos (by decide)
theorem two_le (r : Nat) (h : r ≤ 8) : 2 ^ r ≤ 256 := by
  have := Nat.pow_le_pow_right (show 0 < 2 by decide) h
  simpa using this
theorem bits_part (v : Nat) : ∀ k r, r ≤ 8 → (∀ p ∈ bitsK v k r, IsPart p.1 p.2.1 p.2.2) ∧ (bitsK v k r).length = k + 1 := by
  intro k
  induction k with
  | zero =>
    intro r hr
    refine ⟨?_, rfl⟩
    intro p hp
    simp only [bitsK, List.mem_singleton] at hp
    subst hp
    have h1 := two_pos r
    have h2 := two_le r hr
    have h3 := Nat.mod_lt v h1
    exact ⟨by show 1 ≤ 2 ^ r; omega, by show 2 ^ r ≤ _; omega, by show v % 2 ^ r < _ + 1; omega, by show _ + 1 ≤ 2 ^ r; omega⟩
  | succ k ih =>
    intro r hr
    obtain ⟨i1, i2⟩ := ih r hr
    refine ⟨?_, by simp [bitsK, i2]⟩
    intro p hp
    simp only [bitsK, List.mem_cons] at hp
    rcases hp with rfl | hp
    · have h3 := Nat.mod_lt (v / 2 ^ (r + 8 * k)) (show 0 < 256 by decide)
      exact ⟨by show 1 ≤ 256; decide, by show 256 ≤ 65536; decide, by show _ < _ + 1; omega, by show _ + 1 ≤ 256; omega⟩
    · exact i1 p hp
theorem sh_bd (n : Nat) (h1 : 1 ≤ n) (h2 : n ≤ 2147483648) : sh n ≤ 24 ∧ (n - 1) / 2 ^ sh n < 4096 := by
  unfold sh
  repeat' split
  all_goals (refine ⟨by decide, ?_⟩)
  · simp; omega
  all_goals (rw [Nat.div_lt_iff_lt_mul (two_pos _)]; omega)
theorem high_part {x q : Nat} (h : x ≤ q) (hq : q < 4096) : IsPart x (x + 1) (q + 1) := ⟨by omega, by omega, by omega, by omega⟩
theorem below_part (v n : Nat) (h1 : 1 ≤ n) (h2 : n ≤ 2147483648) (hv : v < n) : (∀ p ∈ belowP v n, IsPart p.1 p.2.1 p.2.2) ∧ (belowP v n).length ≤ 4 := by
  obtain ⟨b1, b2⟩ := sh_bd n h1 h2
  obtain ⟨i1, i2⟩ := bits_part (v % 2 ^ sh n) (bK (sh n)) (bR (sh n)) (bR_le _)
  have hd : v / 2 ^ sh n ≤ (n - 1) / 2 ^ sh n := Nat.div_le_div_right (by omega)
  refine ⟨?_, ?_⟩
  · intro p hp
    simp only [belowP, List.mem_cons] at hp
    rcases hp with rfl | hp
    · exact high_part hd b2
    · exact i1 p hp
  · simp only [belowP, bitsP, List.length_cons, i2]
    have : bK (sh n) ≤ 2 := by unfold bK; omega
    omega
theorem delta_part (v : Int) (h1 : -67 ≤ v) (h2 : v ≤ 67) : (∀ p ∈ deltaP v, IsPart p.1 p.2.1 p.2.2) ∧ (deltaP v).length ≤ 6 := by
  have e := edge_step (plV v) (plV_le v)
  obtain ⟨i1, i2⟩ := bits_part (aboveN v) (bK 1) (bR 1) (bR_le _)
  obtain ⟨j1, j2⟩ := below_part (farN v) 64 (by decide) (by decide) (by unfold farN; omega)
  unfold deltaP
  refine ⟨?_, ?_⟩
  · intro p hp
    rcases List.mem_cons.1 hp with rfl | hp
    · exact e
    · split at hp
      · simp at hp
      · rcases List.mem_append.1 hp with hp | hp
        · exact i1 p hp
        · exact j1 p hp
  · rw [List.length_cons]
    split
    · simp
    · rw [List.length_append]
      have : (bitsP (aboveN v) 1).length = 1 := i2
      omega

/-! What a decoder takes. -/
def getK (l : List UInt8) : De → Nat → Nat → Nat → Nat × De
  | d, 0, r, a => (a * 2 ^ r + placeD d (2 ^ r), takeD l d (placeD d (2 ^ r)) (placeD d (2 ^ r) + 1) (2 ^ r))
  | d, k + 1, r, a => getK l (takeD l d (placeD d 256) (placeD d 256 + 1) 256) k r (a * 256 + placeD d 256)
def getB (l : List UInt8) (d : De) (n : Nat) : Nat × De := getK l d (bK n) (bR n) 0
def hiT (n : Nat) : Nat := (n - 1) / 2 ^ sh n + 1
def hiD (l : List UInt8) (d : De) (n : Nat) : De := takeD l d (placeD d (hiT n)) (placeD d (hiT n) + 1) (hiT n)
def rawW (l : List UInt8) (d : De) (n : Nat) : Nat := placeD d (hiT n) * 2 ^ sh n + (getB l (hiD l d n) (sh n)).1
def getW (l : List UInt8) (d : De) (n : Nat) : Nat × Bool × De :=
  (if rawW l d n < n then rawW l d n else 0, decide (rawW l d n < n), (getB l (hiD l d n) (sh n)).2)
def plD (d : De) : Nat := plc (placeD d 64)
def smD (l : List UInt8) (d : De) : De := takeD l d (edge (plD d)) (edge (plD d + 1)) 64
def upD (l : List UInt8) (d : De) : Nat × De := getB l (smD l d) 1
def farD (l : List UInt8) (d : De) : Nat × Bool × De := getW l (upD l d).2 64
def getD (l : List UInt8) (d : De) : Int × De :=
  if plD d < 7 then (smV (plD d), smD l d) else (if (upD l d).1 = 1 then ((farD l d).1 : Int) + 4 else -((farD l d).1 : Int) - 4, (farD l d).2.2)

theorem place_lt (d : De) (t : Nat) (h : 1 ≤ t) : placeD d t < t := by unfold placeD; omega
theorem place_part (d : De) (t : Nat) (h1 : 1 ≤ t) (h2 : t ≤ 65536) : IsPart (placeD d t) (placeD d t + 1) t := by
  have := place_lt d t h1
  exact ⟨h1, h2, by omega, by omega⟩
theorem getK_ok (l : List UInt8) : ∀ k (d : De) r a, r ≤ 8 → d.Ok → (getK l d k r a).2.Ok ∧ (getK l d k r a).2.pos ≤ d.pos + 2 * (k + 1) ∧ (getK l d k r a).1 < (a + 1) * 2 ^ (r + 8 * k) := by
  intro k
  induction k with
  | zero =>
    intro d r a hr ok
    have h1 := two_pos r
    have h2 := two_le r hr
    have h3 := take_ok (l := l) ok (place_part d (2 ^ r) h1 (by omega))
    have h4 := place_lt d (2 ^ r) h1
    refine ⟨h3.1, h3.2, ?_⟩
    show a * 2 ^ r + placeD d (2 ^ r) < (a + 1) * 2 ^ (r + 0)
    rw [Nat.add_mul, Nat.add_zero]
    omega
  | succ k ih =>
    intro d r a hr ok
    have h3 := take_ok (l := l) ok (place_part d 256 (by decide) (by decide))
    have h4 := place_lt d 256 (by decide)
    obtain ⟨i1, i2, i3⟩ := ih (takeD l d (placeD d 256) (placeD d 256 + 1) 256) r (a * 256 + placeD d 256) hr h3.1
    refine ⟨i1, ?_, ?_⟩
    · show (getK l _ k r _).2.pos ≤ _
      have := h3.2
      omega
    · show (getK l _ k r _).1 < _
      refine Nat.lt_of_lt_of_le i3 ?_
      have e : 2 ^ (r + 8 * (k + 1)) = 256 * 2 ^ (r + 8 * k) := by rw [show r + 8 * (k + 1) = 8 + (r + 8 * k) by omega, Nat.pow_add]
      rw [e, ← Nat.mul_assoc]
      exact Nat.mul_le_mul_right _ (by omega)
theorem getB_ok (l : List UInt8) (d : De) (n : Nat) (h : n ≤ 31) (ok : d.Ok) : (getB l d n).2.Ok ∧ (getB l d n).2.pos ≤ d.pos + 8 ∧ (getB l d n).1 < 2 ^ n := by
  obtain ⟨i1, i2, i3⟩ := getK_ok l (bK n) d (bR n) 0 (bR_le n) ok
  rw [bRK] at i3
  have := bK_le n h
  exact ⟨i1, by show (getK l d _ _ _).2.pos ≤ _; omega, by show (getK l d _ _ _).1 < _; simpa using i3⟩
theorem hiT_bd (n : Nat) (h1 : 1 ≤ n) (h2 : n ≤ 2147483648) : 1 ≤ hiT n ∧ hiT n ≤ 4096 := by
  have := (sh_bd n h1 h2).2
  exact ⟨Nat.succ_le_succ (Nat.zero_le _), this⟩
theorem hiD_ok (l : List UInt8) (d : De) (n : Nat) (h1 : 1 ≤ n) (h2 : n ≤ 2147483648) (ok : d.Ok) : (hiD l d n).Ok ∧ (hiD l d n).pos ≤ d.pos + 2 := by
  obtain ⟨a, b⟩ := hiT_bd n h1 h2
  exact take_ok ok (place_part d (hiT n) a (by omega))
theorem rawW_lt (l : List UInt8) (d : De) (n : Nat) (h1 : 1 ≤ n) (h2 : n ≤ 2147483648) (ok : d.Ok) : rawW l d n < 4294967296 ∧ placeD d (hiT n) * 2 ^ sh n ≤ rawW l d n := by
  obtain ⟨a, b⟩ := hiT_bd n h1 h2
  obtain ⟨s1, s2⟩ := sh_bd n h1 h2
  have h3 := getB_ok l (hiD l d n) (sh n) (by omega) (hiD_ok l d n h1 h2 ok).1
  have h4 := place_lt d (hiT n) a
  have h5 : (placeD d (hiT n) + 1) * 2 ^ sh n ≤ hiT n * 2 ^ sh n := Nat.mul_le_mul_right _ (by omega)
  have h6 : hiT n * 2 ^ sh n ≤ (n - 1) + 2 ^ sh n := by
    unfold hiT
    rw [Nat.add_mul]
    have := Nat.div_mul_le_self (n - 1) (2 ^ sh n)
    omega
  have h7 : 2 ^ sh n ≤ 2 ^ 24 := Nat.pow_le_pow_right (by decide) s1
  rw [Nat.add_mul] at h5
  unfold rawW
  refine ⟨?_, by omega⟩
  have : (2 : Nat) ^ 24 = 16777216 := rfl
  omega
theorem getW_ok (l : List UInt8) (d : De) (n : Nat) (h1 : 1 ≤ n) (h2 : n ≤ 2147483648) (ok : d.Ok) : (getW l d n).2.2.Ok ∧ (getW l d n).2.2.pos ≤ d.pos + 10 ∧ (getW l d n).1 < n := by
  have k1 := hiD_ok l d n h1 h2 ok
  have k2 := getB_ok l (hiD l d n) (sh n) (by have := (sh_bd n h1 h2).1; omega) k1.1
  refine ⟨k2.1, by show (getB l _ _).2.pos ≤ _; omega, ?_⟩
  show (if rawW l d n < n then rawW l d n else 0) < n
  split <;> omega
theorem plD_le (d : De) : plD d ≤ 7 := plc_le _
theorem smD_ok (l : List UInt8) (d : De) (ok : d.Ok) : (smD l d).Ok ∧ (smD l d).pos ≤ d.pos + 2 := take_ok ok (edge_step _ (plD_le d))
theorem upD_ok (l : List UInt8) (d : De) (ok : d.Ok) : (upD l d).2.Ok ∧ (upD l d).2.pos ≤ d.pos + 10 ∧ (upD l d).1 < 2 := by
  have k1 := smD_ok l d ok
  have k2 := getB_ok l (smD l d) 1 (by decide) k1.1
  exact ⟨k2.1, by show (getB l _ _).2.pos ≤ _; omega, by show (getB l _ _).1 < 2; simpa using k2.2.2⟩
theorem farD_ok (l : List UInt8) (d : De) (ok : d.Ok) : (farD l d).2.2.Ok ∧ (farD l d).2.2.pos ≤ d.pos + 20 ∧ (farD l d).1 < 64 := by
  have k1 := upD_ok l d ok
  have k2 := getW_ok l (upD l d).2 64 (by decide) (by decide) k1.1
  exact ⟨k2.1, by show (getW l _ _).2.2.pos ≤ _; omega, k2.2.2⟩
theorem getD_ok (l : List UInt8) (d : De) (ok : d.Ok) : (getD l d).2.Ok ∧ (getD l d).2.pos ≤ d.pos + 20 := by
  unfold getD
  have k1 := smD_ok l d ok
  have k2 := farD_ok l d ok
  split
  · exact ⟨k1.1, by have := k1.2; simp only []; omega⟩
  · exact ⟨k2.1, k2.2.1⟩

/-! Two decoders that nothing tells apart. -/
structure Sim (d e : De) : Prop where
  pos : d.pos = e.pos
  rng : d.rng = e.rng
  code : d.code = e.code ∨ (d.rng ≤ d.code + 1 ∧ e.rng ≤ e.code + 1)
theorem Sim.refl (d : De) : Sim d d := ⟨rfl, rfl, .inl rfl⟩
theorem Sim.trans {a b c : De} (h : Sim a b) (k : Sim b c) : Sim a c := by
  refine ⟨h.pos.trans k.pos, h.rng.trans k.rng, ?_⟩
  have h1 := h.rng
  have h2 := k.rng
  rcases h.code with e | e <;> rcases k.code with f | f <;> omega
theorem Sim.symm {a b : De} (h : Sim a b) : Sim b a := ⟨h.pos.symm, h.rng.symm, by have := h.rng; rcases h.code with e | e <;> omega⟩
theorem place_top {d : De} (ok : d.Ok) (h : d.rng ≤ d.code + 1) (t : Nat) (h1 : 1 ≤ t) (h2 : t ≤ 65536) : placeD d t = t - 1 := by
  have hs := share_ge ok.lo h1 h2
  have hm : d.rng / t * t ≤ d.rng := Nat.div_mul_le_self _ _
  have : t - 1 ≤ d.code / (d.rng / t) := by
    rw [Nat.le_div_iff_mul_le (by omega), Nat.mul_comm]
    have e : d.rng / t * (t - 1) + d.rng / t = d.rng / t * t := by
      rw [← Nat.mul_succ]; congr 1; omega
    omega
  unfold placeD
  omega
theorem Sim.place {d e : De} (h : Sim d e) (hd : d.Ok) (he : e.Ok) (t : Nat) (h1 : 1 ≤ t) (h2 : t ≤ 65536) : placeD d t = placeD e t := by
  rcases h.code with k | ⟨k1, k2⟩
  · unfold placeD; rw [k, h.rng]
  · rw [place_top hd k1 t h1 h2, place_top he k2 t h1 h2]
theorem part_top {d : De} (h : d.rng ≤ d.code + 1) {lo hi t : Nat} (p : IsPart lo hi t) : partD d lo hi t = ⟨d.pos, narrowN d.rng lo hi t - 1, narrowN d.rng lo hi t⟩ := by
  have := narrow_le (rng := d.rng) p
  unfold partD
  congr 1
  omega
theorem Sim.take {d e : De} (h : Sim d e) (l : List UInt8) {lo hi t : Nat} (p : IsPart lo hi t) : takeD l d lo hi t = takeD l e lo hi t := by
  unfold takeD
  congr 1
  rcases h.code with k | ⟨k1, k2⟩
  · unfold partD; rw [h.pos, h.rng, k]
  · rw [part_top k1 p, part_top k2 p, h.pos, h.rng]
theorem take_one {l : List UInt8} {d : De} (ok : d.Ok) : Sim (takeD l d 0 1 1) d := by
  have e : narrowN d.rng 0 1 1 = d.rng := by simp [narrowN]
  have e2 : partD d 0 1 1 = ⟨d.pos, min d.code (d.rng - 1), d.rng⟩ := by unfold partD; rw [e]; simp
  unfold takeD
  rw [e2, widD_no (d := ⟨d.pos, min d.code (d.rng - 1), d.rng⟩) ok.lo]
  refine ⟨rfl, rfl, ?_⟩
  have := ok.lo
  show min d.code (d.rng - 1) = d.code ∨ (d.rng ≤ min d.code (d.rng - 1) + 1 ∧ d.rng ≤ d.code + 1)
  omega
theorem place_one_zero (d : De) : placeD d 1 = 0 := by
  have := place_lt d 1 (Nat.le_refl _)
  omega
theorem getB_zero (l : List UInt8) (d : De) : getB l d 0 = (0, takeD l d 0 1 1) := by
  have e : placeD d (2 ^ 0) = 0 := place_one_zero d
  show (0 * 2 ^ 0 + placeD d (2 ^ 0), takeD l d (placeD d (2 ^ 0)) (placeD d (2 ^ 0) + 1) (2 ^ 0)) = _
  rw [e]
theorem Sim.getK {d e : De} (h : Sim d e) (hd : d.Ok) (he : e.Ok) (l : List UInt8) (k r a : Nat) (hr : r ≤ 8) : getK l d k r a = getK l e k r a := by
  cases k with
  | zero =>
    have h1 := two_pos r
    have h2 := two_le r hr
    have e1 := h.place hd he (2 ^ r) h1 (by omega)
    have e2 := h.take l (place_part e (2 ^ r) h1 (by omega))
    show (a * 2 ^ r + placeD d (2 ^ r), takeD l d (placeD d (2 ^ r)) (placeD d (2 ^ r) + 1) (2 ^ r)) = _
    rw [e1, e2]; rfl
  | succ k =>
    have e1 := h.place hd he 256 (by decide) (by decide)
    have e2 := h.take l (place_part e 256 (by decide) (by decide))
    show YtdfpmhdgebajfaaDoor.getK l (takeD l d (placeD d 256) (placeD d 256 + 1) 256) k r (a * 256 + placeD d 256) = _
    rw [e1, e2]; rfl
theorem Sim.getB {d e : De} (h : Sim d e) (hd : d.Ok) (he : e.Ok) (l : List UInt8) (n : Nat) : getB l d n = getB l e n := h.getK hd he l _ _ _ (bR_le n)
theorem Sim.hiD {d e : De} (h : Sim d e) (hd : d.Ok) (he : e.Ok) (l : List UInt8) (n : Nat) (h1 : 1 ≤ n) (h2 : n ≤ 2147483648) : placeD d (hiT n) = placeD e (hiT n) ∧ hiD l d n = hiD l e n := by
  obtain ⟨a, b⟩ := hiT_bd n h1 h2
  have e1 := h.place hd he (hiT n) a (by omega)
  have e2 := h.take l (place_part e (hiT n) a (by omega))
  refine ⟨e1, ?_⟩
  unfold YtdfpmhdgebajfaaDoor.hiD
  rw [e1, e2]
theorem Sim.getW {d e : De} (h : Sim d e) (hd : d.Ok) (he : e.Ok) (l : List UInt8) (n : Nat) (h1 : 1 ≤ n) (h2 : n ≤ 2147483648) : getW l d n = getW l e n := by
  obtain ⟨e1, e2⟩ := h.hiD hd he l n h1 h2
  unfold YtdfpmhdgebajfaaDoor.getW rawW
  rw [e1, e2]
theorem Sim.getD {d e : De} (h : Sim d e) (hd : d.Ok) (he : e.Ok) (l : List UInt8) : getD l d = getD l e := by
  have e1 : plD d = plD e := by unfold plD; rw [h.place hd he 64 (by decide) (by decide)]
  have e2 : smD l d = smD l e := by
    unfold smD
    rw [e1, h.take l (edge_step _ (plD_le e))]
  have e3 : upD l d = upD l e := by unfold upD; rw [e2]
  have e4 : farD l d = farD l e := by unfold farD; rw [e3]
  unfold YtdfpmhdgebajfaaDoor.getD
  rw [e1, e2, e3, e4]

/-! What was coded. -/
def Fits (l : List UInt8) : De → Parts → Prop
  | _, [] => True
  | d, p :: ps => (p.1 ≤ placeD d p.2.2 ∧ placeD d p.2.2 < p.2.1) ∧ Fits l (takeD l d p.1 p.2.1 p.2.2) ps
theorem fits_append (l : List UInt8) : ∀ (a b : Parts) (d : De), Fits l d (a ++ b) ↔ Fits l d a ∧ Fits l (takesD l d a) b := by
  intro a
  induction a with
  | nil => intro b d; simp [Fits, takesD]
  | cons p a ih =>
    intro b d
    show (_ ∧ Fits l _ (a ++ b)) ↔ (_ ∧ Fits l _ a) ∧ Fits l (takesD l (takeD l d p.1 p.2.1 p.2.2) a) b
    rw [ih]
    exact and_assoc.symm
theorem takes_append (l : List UInt8) (d : De) (a b : Parts) : takesD l d (a ++ b) = takesD l (takesD l d a) b := by simp [takesD, List.foldl_append]
theorem takes_cons (l : List UInt8) (d : De) (p : Nat × Nat × Nat) (b : Parts) : takesD l d (p :: b) = takesD l (takeD l d p.1 p.2.1 p.2.2) b := rfl
theorem takes_nil (l : List UInt8) (d : De) : takesD l d [] = d := rfl
theorem back_fits (b : Parts) : ∀ (a c : Parts), (∀ p ∈ a ++ b ++ c, IsPart p.1 p.2.1 p.2.2) →
    Fits (endC (codesC zeroC (a ++ b ++ c))) (takesD (endC (codesC zeroC (a ++ b ++ c))) (newD (endC (codesC zeroC (a ++ b ++ c)))) a) b := by
  induction b with
  | nil => intro a c _; trivial
  | cons p b ih =>
    intro a c hp
    have e : a ++ p :: b ++ c = a ++ (p :: (b ++ c)) := by simp
    have e2 : a ++ p :: b ++ c = (a ++ [p]) ++ b ++ c := by simp
    have h1 := back a (p :: (b ++ c)) (by rw [← e]; exact hp)
    have h2 := ih (a ++ [p]) c (by rw [← e2]; exact hp)
    rw [← e] at h1
    rw [← e2, takes_append] at h2
    exact ⟨h1.2.2.2 p _ rfl, h2⟩
theorem getK_fits (l : List UInt8) (v : Nat) : ∀ k (d : De) r a, Fits l d (bitsK v k r) → getK l d k r a = (a * 2 ^ (r + 8 * k) + v % 2 ^ (r + 8 * k), takesD l d (bitsK v k r)) := by
  intro k
  induction k with
  | zero =>
    intro d r a h
    have hx : placeD d (2 ^ r) = v % 2 ^ r := by have := h.1; simp only [] at this; omega
    show (a * 2 ^ r + placeD d (2 ^ r), takeD l d (placeD d (2 ^ r)) (placeD d (2 ^ r) + 1) (2 ^ r)) = _
    rw [hx]; rfl
  | succ k ih =>
    intro d r a h
    have hx : placeD d 256 = v / 2 ^ (r + 8 * k) % 256 := by have := h.1; simp only [] at this; omega
    show getK l (takeD l d (placeD d 256) (placeD d 256 + 1) 256) k r (a * 256 + placeD d 256) = _
    rw [hx, ih _ r _ h.2]
    have e : 2 ^ (r + 8 * (k + 1)) = 2 ^ (r + 8 * k) * 256 := by rw [show r + 8 * (k + 1) = (r + 8 * k) + 8 by omega, Nat.pow_add]
    rw [e, Nat.mod_mul, Nat.add_mul, Nat.mul_assoc, Nat.mul_comm 256, Nat.mul_comm (v / _ % 256)]
    congr 1
    generalize 2 ^ (r + 8 * k) = M
    generalize a * (M * 256) = A
    omega
theorem getB_fits (l : List UInt8) (v n : Nat) (d : De) (hv : v < 2 ^ n) (h : Fits l d (bitsP v n)) : getB l d n = (v, takesD l d (bitsP v n)) := by
  have := getK_fits l v (bK n) d (bR n) 0 h
  rw [bRK, Nat.mod_eq_of_lt hv, Nat.zero_mul, Nat.zero_add] at this
  exact this
theorem getW_fits (l : List UInt8) (v n : Nat) (d : De) (hv : v < n) (h : Fits l d (belowP v n)) : getW l d n = (v, true, takesD l d (belowP v n)) := by
  have hx : placeD d (hiT n) = v / 2 ^ sh n := by have := h.1; simp only [] at this; unfold hiT; omega
  have hd : hiD l d n = takeD l d (v / 2 ^ sh n) (v / 2 ^ sh n + 1) ((n - 1) / 2 ^ sh n + 1) := by unfold hiD; rw [hx]; rfl
  have hb := getB_fits l (v % 2 ^ sh n) (sh n) (hiD l d n) (Nat.mod_lt _ (two_pos _)) (by rw [hd]; exact h.2)
  have hr : rawW l d n = v := by
    unfold rawW
    rw [hx, hb]
    have := Nat.div_add_mod v (2 ^ sh n)
    rw [Nat.mul_comm] at this
    exact this
  unfold getW
  rw [hr, hb, if_pos hv, hd]
  simp only [hv, decide_true]
  rfl
theorem getD_fits (l : List UInt8) (v : Int) (d : De) (h1 : -67 ≤ v) (h2 : v ≤ 67) (h : Fits l d (deltaP v)) : getD l d = (v, takesD l d (deltaP v)) := by
  have hp : plD d = plV v := plc_of _ _ (plV_le v) h.1.1 h.1.2
  have hs : smD l d = takeD l d (edge (plV v)) (edge (plV v + 1)) 64 := by unfold smD; rw [hp]
  by_cases hj : plV v < 7
  · have e : deltaP v = [(edge (plV v), edge (plV v + 1), 64)] := by unfold deltaP; rw [if_pos hj]
    unfold getD
    rw [hp, if_pos hj, smV_pl v hj, hs, e]; rfl
  · have e : deltaP v = (edge (plV v), edge (plV v + 1), 64) :: (bitsP (aboveN v) 1 ++ belowP (farN v) 64) := by unfold deltaP; rw [if_neg hj]
    have hf : Fits l (smD l d) (bitsP (aboveN v) 1 ++ belowP (farN v) 64) := by
      rw [e] at h
      rw [hs]; exact h.2
    rw [fits_append] at hf
    have hu : upD l d = (aboveN v, takesD l (smD l d) (bitsP (aboveN v) 1)) := getB_fits l (aboveN v) 1 _ (by unfold aboveN; split <;> decide) hf.1
    have hw : farD l d = (farN v, true, takesD l (upD l d).2 (belowP (farN v) 64)) := by
      unfold farD
      exact getW_fits l (farN v) 64 _ (by unfold farN; omega) (by rw [hu]; exact hf.2)
    have h4 := plV_far hj
    have hval : (if (upD l d).1 = 1 then ((farD l d).1 : Int) + 4 else -((farD l d).1 : Int) - 4) = v := by
      rw [hu, hw]
      simp only []
      unfold aboveN farN
      by_cases hv : 0 < v
      · rw [if_pos hv, if_pos rfl]; omega
      · rw [if_neg hv, if_neg (by decide)]; omega
    unfold getD
    rw [hp, if_neg hj, hval, hw, hu, e, takes_cons, takes_append, ← hs]

/-! Items: the sort, the number, n. -/
def okB (v n : Int) : Bool := decide (0 ≤ n) && decide (n ≤ 31) && decide (0 ≤ v) && decide (v < 2 ^ n.toNat)
def okW (v n : Int) : Bool := decide (1 ≤ n) && decide (n ≤ 2147483648) && decide (0 ≤ v) && decide (v < n)
def okD (v : Int) : Bool := decide (-67 ≤ v) && decide (v ≤ 67)
def okI (X : Int × Int × Int) : Bool := if X.1 = 0 then okB X.2.1 X.2.2 else if X.1 = 1 then okW X.2.1 X.2.2 else okD X.2.1
def partsI (X : Int × Int × Int) : Parts := if X.1 = 0 then bitsP X.2.1.toNat X.2.2.toNat else if X.1 = 1 then belowP X.2.1.toNat X.2.2.toNat else deltaP X.2.1
theorem okB_nat {v n : Int} (h : okB v n = true) : ∃ a b : Nat, v = a ∧ n = b ∧ b ≤ 31 ∧ a < 2 ^ b := by
  simp only [okB, Bool.and_eq_true, decide_eq_true_eq] at h
  obtain ⟨⟨⟨h1, h2⟩, h3⟩, h4⟩ := h
  refine ⟨v.toNat, n.toNat, by omega, by omega, by omega, ?_⟩
  have : ((v.toNat : Nat) : Int) < ((2 ^ n.toNat : Nat) : Int) := by rw [Int.toNat_of_nonneg h3]; simpa using h4
  omega
theorem okW_nat {v n : Int} (h : okW v n = true) : ∃ a b : Nat, v = a ∧ n = b ∧ 1 ≤ b ∧ b ≤ 2147483648 ∧ a < b := by
  simp only [okW, Bool.and_eq_true, decide_eq_true_eq] at h
  exact ⟨v.toNat, n.toNat, by omega, by omega, by omega, by omega, by omega⟩
theorem okD_bd {v : Int} (h : okD v = true) : -67 ≤ v ∧ v ≤ 67 := by
  simpa only [okD, Bool.and_eq_true, decide_eq_true_eq] using h
theorem items_part {X : Int × Int × Int} (h : okI X = true) : (∀ p ∈ partsI X, IsPart p.1 p.2.1 p.2.2) ∧ (partsI X).length ≤ 6 := by
  unfold okI at h
  unfold partsI
  split
  · next e =>
    rw [if_pos e] at h
    obtain ⟨a, b, h1, h2, h3, h4⟩ := okB_nat h
    rw [h1, h2]
    have := bits_part a (bK b) (bR b) (bR_le b)
    refine ⟨this.1, ?_⟩
    show (bitsK _ _ _).length ≤ 6
    simp only [Int.toNat_natCast]
    rw [this.2]
    have := bK_le b h3
    omega
  · next e =>
    rw [if_neg e] at h
    split
    · next e1 =>
      rw [if_pos e1] at h
      obtain ⟨a, b, h1, h2, h3, h4, h5⟩ := okW_nat h
      rw [h1, h2]
      have := below_part a b h3 h4 h5
      exact ⟨this.1, Nat.le_trans this.2 (by decide)⟩
    · next e1 =>
      rw [if_neg e1] at h
      have := okD_bd h
      exact delta_part _ this.1 this.2
/-- Coding a part of a whole of one is nothing. -/
theorem code_one {s : Co} (ok : s.Ok) : codeC s 0 1 1 = s := by
  have e : narrowN s.rng 0 1 1 = s.rng := by simp [narrowN]
  have e2 : partC s 0 1 1 = s := by
    unfold partC
    rw [if_pos (by have := ok.low; simpa using this), e]
    simp
  unfold codeC
  rw [e2, widC_no ok.lo]
end Go.Proofs.YtdfpmhdgebajfaaDoor
