/-
  The contract of the document's Coder.End.
-/
import Derived.Test.YtdfpmhdgebajfaaDoorV
import Derived.Test.YtdfpmhdgebajfaaDoorI
import Derived.Deep.LoopGhost
namespace Go.Proofs.YtdfpmhdgebajfaaDoor
open Go.ChangeShapes Go.WideShapes Go.ChangeAt Go.RowKit
set_option linter.unusedVariables false
set_option maxRecDepth 100000

theorem snoc_str (a : List UInt8) (x : UInt8) : (⟨a.toArray⟩ ++ ⟨#[x]⟩ : ByteArray) = ⟨(a ++ [x]).toArray⟩ := append_str a [x]
theorem str_len (a : List UInt8) : (⟨a.toArray⟩ : ByteArray).size = a.length := by simp [ByteArray.size]
theorem take_next (l : List UInt8) (k : Nat) (h : k < l.length) : l.take k ++ [l[k]] = l.take (k + 1) := (List.take_succ_eq_append_getElem h).symm
theorem oct_byte (x : UInt8) : IntKind.u8.wrap (x.toNat : Int) = (x.toNat : Int) := by
  have := x.toNat_lt
  simp [IntKind.wrap, IntKind.signed, IntKind.bits]
  omega
theorem conv_one63 (w : World) (x : UInt8) :
    (convert 62 9 (.slice (some ⟨w.heap.size, 0, none⟩) 1 1)).run Tryd.prog (w.alloc (.cells #[.int .u8 (x.toNat : Int)] 5)) = .ok (.string ⟨#[x]⟩) (w.alloc (.cells #[.int .u8 (x.toNat : Int)] 5)) := by
  have := conv_one w (x.toNat : Int)
  rw [ofNat_toNat_int] at this
  exact this
theorem and_255 (a : Nat) (ha : a < 9223372036854775808) : bits .and .i64 (a : Int) 255 = ((a % 256 : Nat) : Int) := by
  have h1 : (BitVec.ofInt 64 (a : Int)).toNat = a := by
    rw [BitVec.ofInt_natCast, BitVec.toNat_ofNat]; exact Nat.mod_eq_of_lt (by omega)
  have h2 : (BitVec.ofInt 64 (255 : Int)).toNat = 255 := by decide
  have h3 : a &&& 255 = a % 256 := Nat.and_two_pow_sub_one_eq_mod a 8
  show IntKind.i64.wrap ((BitVec.ofInt 64 (a : Int) &&& BitVec.ofInt 64 (255 : Int)).toNat : Int) = _
  rw [BitVec.toNat_and, h1, h2, h3]
  simp [IntKind.wrap, IntKind.signed, IntKind.bits]
  omega
theorem rend_at (B r : Nat) (s : Co) (w : World) (h : DoAt B r s w) (hlow : s.low < 4294967296) (hB : B ≤ w.heap.size) (hl : s.T.length ≤ 2500) :
    Calls Tryd.prog 10 #[.pointer (some ⟨r, 0, none⟩)] w fun e w' => e = .returned (.string ⟨(endC s).toArray⟩) ∧ Below w.heap.size w w' := by
  obtain ⟨hBr, v, h1, h2⟩ := h
  have H1 : Hid (IsAt r 37 #[v, .int .i64 (s.low : Int), lacks s.rng] w) := h1
  have H2 : Hid (w.ownsRow B 3 1 v s.T.length (nums s.T)) := h2
  obtain ⟨ao, cap, rfl⟩ : ∃ ao cap, v = .slice ao s.T.length cap := by
    rcases h2.2 with ⟨hv, hz⟩ | ⟨g, cap, cur, hv, _⟩
    · exact ⟨none, 0, by rw [hv, hz]⟩
    · exact ⟨_, _, hv⟩
  clear h1 h2
  have hli : (s.T.length : Int) ≤ 2500 := by omega
  go_enter Tryd.func10, Tryd.ntmps10
  go_wp2
  go_loopw [3, 4] (fun x i wr => ∃ k : Nat, k ≤ s.T.length ∧ i = .int .i64 k ∧ x = .string ⟨(s.T.take k).toArray⟩ ∧ Below w.heap.size w wr) (fun _ i _ => s.T.length - (intOf i).toNat)
  case atStart => exact ⟨0, by omega, rfl, rfl, Below.refl _ _⟩
  case round =>
    obtain ⟨k, hk, rfl, rfl, hb⟩ := hrel
    have HB : Hid (Below w.heap.size w wr) := hb
    have j1 : IsAt r 37 #[.slice ao s.T.length cap, .int .i64 (s.low : Int), lacks s.rng] wr := H1.out.below hb
    have c0 : wr.cell? ⟨r, 0, none⟩ = some (.slice ao s.T.length cap) := j1.cell 0
    have c1 : wr.cell? ⟨r, 1, none⟩ = some (.int .i64 (s.low : Int)) := j1.cell 1
    clear hb
    by_cases hlt : k < s.T.length
    · obtain ⟨g, cap', he, _, hg⟩ := H2.out.form (by omega)
      simp only [Value.slice.injEq] at he
      obtain ⟨rfl, _, rfl⟩ := he
      have hck : wr.cell? ⟨g, k, none⟩ = some (.int .i64 (s.T[k].toNat : Int)) := by
        rw [HB.out.cell (p := ⟨g, k, none⟩) hg, H2.out.cellAt k (by omega), nums_get _ _ hlt]
      have hki : (k : Int) < (s.T.length : Int) := by omega
      have hob := oct_byte s.T[k]
      have hcv := conv_one63 wr s.T[k]
      have hln : ((s.T.take k).length) = k := by simp; omega
      have hsz : ¬ 9223372036854775807 < k + 1 := by omega
      have HT : Hid ((⟨(s.T.take k).toArray⟩ ++ ⟨#[s.T[k]]⟩ : ByteArray) = ⟨(s.T.take (k + 1)).toArray⟩) := by
        show _ = _
        rw [snoc_str, take_next _ _ hlt]
      clear j1
      go_wp2
      exact ⟨⟨k + 1, by omega, by go_num, by rw [HT.out], HB.out.alloc HB.out.size _⟩, by simp [intOf]; omega⟩
    · obtain rfl : k = s.T.length := by omega
      have hx0 : s.T.take s.T.length = s.T := by simp
      rw [hx0]
      clear j1
      go_wp2
      clear c0 c1
      go_loopw [3, 5] (fun x i wr2 => ∃ j : Nat, j ≤ 4 ∧ i = .int .i64 (24 - 8 * (j : Int)) ∧ x = .string ⟨(s.T ++ (low4 s.low).take j).toArray⟩ ∧ Below w.heap.size w wr2) (fun _ i _ => (intOf i + 8).toNat)
      case atStart => exact ⟨0, by omega, rfl, by simp, HB.out⟩
      case round =>
        obtain ⟨j, hj, rfl, rfl, hb⟩ := hrel
        have HB2 : Hid (Below w.heap.size w wr) := hb
        have j1 : IsAt r 37 #[.slice ao s.T.length cap, .int .i64 (s.low : Int), lacks s.rng] wr := H1.out.below hb
        have c1 : wr.cell? ⟨r, 1, none⟩ = some (.int .i64 (s.low : Int)) := j1.cell 1
        clear hb j1
        have hlo : (s.low : Int) ≤ 4294967295 := by omega
        rcases j with _ | _ | _ | _ | j
        · -- octet 0
          have HAND : Hid (bits .and .i64 ((s.low : Int) / 16777216) 255 = ((UInt8.ofNat (s.low / 16777216)).toNat : Int)) := by
            show _ = _
            rw [show (s.low : Int) / 16777216 = ((s.low / 16777216 : Nat) : Int) by omega, and_255 _ (by omega), ofNat_toNat]
          have HT : Hid ((⟨(s.T ++ (low4 s.low).take 0).toArray⟩ ++ ⟨#[UInt8.ofNat (s.low / 16777216)]⟩ : ByteArray) = ⟨(s.T ++ (low4 s.low).take 1).toArray⟩) := by
            show _ = _
            rw [snoc_str]
            simp [low4]
          have hcv := conv_one63 wr (UInt8.ofNat (s.low / 16777216))
          have hob := oct_byte (UInt8.ofNat (s.low / 16777216))
          have hsz : ¬ 9223372036854775807 < s.T.length + 0 + 1 := by omega
          have hsl : ((s.T ++ (low4 s.low).take 0).length) = s.T.length + 0 := by simp [low4]
          generalize UInt8.ofNat (s.low / 16777216) = O at *
          generalize hX : s.T ++ (low4 s.low).take 0 = X at *
          go_wp2_with (rw [HAND.out])
          exact ⟨⟨1, by omega, rfl, by rw [HT.out], HB2.out.alloc HB2.out.size _⟩, by decide⟩
        · -- octet 1
          have HAND : Hid (bits .and .i64 ((s.low : Int) / 65536) 255 = ((UInt8.ofNat (s.low / 65536)).toNat : Int)) := by
            show _ = _
            rw [show (s.low : Int) / 65536 = ((s.low / 65536 : Nat) : Int) by omega, and_255 _ (by omega), ofNat_toNat]
          have HT : Hid ((⟨(s.T ++ (low4 s.low).take 1).toArray⟩ ++ ⟨#[UInt8.ofNat (s.low / 65536)]⟩ : ByteArray) = ⟨(s.T ++ (low4 s.low).take 2).toArray⟩) := by
            show _ = _
            rw [snoc_str]
            simp [low4]
          have hcv := conv_one63 wr (UInt8.ofNat (s.low / 65536))
          have hob := oct_byte (UInt8.ofNat (s.low / 65536))
          have hsz : ¬ 9223372036854775807 < s.T.length + 1 + 1 := by omega
          have hsl : ((s.T ++ (low4 s.low).take 1).length) = s.T.length + 1 := by simp [low4]
          generalize UInt8.ofNat (s.low / 65536) = O at *
          generalize hX : s.T ++ (low4 s.low).take 1 = X at *
          go_wp2_with (rw [HAND.out])
          exact ⟨⟨2, by omega, rfl, by rw [HT.out], HB2.out.alloc HB2.out.size _⟩, by decide⟩
        · -- octet 2
          have HAND : Hid (bits .and .i64 ((s.low : Int) / 256) 255 = ((UInt8.ofNat (s.low / 256)).toNat : Int)) := by
            show _ = _
            rw [show (s.low : Int) / 256 = ((s.low / 256 : Nat) : Int) by omega, and_255 _ (by omega), ofNat_toNat]
          have HT : Hid ((⟨(s.T ++ (low4 s.low).take 2).toArray⟩ ++ ⟨#[UInt8.ofNat (s.low / 256)]⟩ : ByteArray) = ⟨(s.T ++ (low4 s.low).take 3).toArray⟩) := by
            show _ = _
            rw [snoc_str]
            simp [low4]
          have hcv := conv_one63 wr (UInt8.ofNat (s.low / 256))
          have hob := oct_byte (UInt8.ofNat (s.low / 256))
          have hsz : ¬ 9223372036854775807 < s.T.length + 2 + 1 := by omega
          have hsl : ((s.T ++ (low4 s.low).take 2).length) = s.T.length + 2 := by simp [low4]
          generalize UInt8.ofNat (s.low / 256) = O at *
          generalize hX : s.T ++ (low4 s.low).take 2 = X at *
          go_wp2_with (rw [HAND.out])
          exact ⟨⟨3, by omega, rfl, by rw [HT.out], HB2.out.alloc HB2.out.size _⟩, by decide⟩
        · -- octet 3
          have HAND : Hid (bits .and .i64 (s.low : Int) 255 = ((UInt8.ofNat (s.low)).toNat : Int)) := by
            show _ = _
            rw [and_255 _ (by omega), ofNat_toNat]
          have HT : Hid ((⟨(s.T ++ (low4 s.low).take 3).toArray⟩ ++ ⟨#[UInt8.ofNat (s.low)]⟩ : ByteArray) = ⟨(s.T ++ (low4 s.low).take 4).toArray⟩) := by
            show _ = _
            rw [snoc_str]
            simp [low4]
          have hcv := conv_one63 wr (UInt8.ofNat (s.low))
          have hob := oct_byte (UInt8.ofNat (s.low))
          have hsz : ¬ 9223372036854775807 < s.T.length + 3 + 1 := by omega
          have hsl : ((s.T ++ (low4 s.low).take 3).length) = s.T.length + 3 := by simp [low4]
          generalize UInt8.ofNat (s.low) = O at *
          generalize hX : s.T ++ (low4 s.low).take 3 = X at *
          go_wp2_with (rw [HAND.out])
          exact ⟨⟨4, by omega, rfl, by rw [HT.out], HB2.out.alloc HB2.out.size _⟩, by decide⟩
        · obtain rfl : j = 0 := by omega
          have hall : (low4 s.low).take 4 = low4 s.low := rfl
          have HX : Hid (strip (s.T ++ low4 s.low) = endC s) := rfl
          have hxl : (s.T ++ low4 s.low).length ≤ 3000 := by simp [low4]; omega
          rw [show (0 + 1 + 1 + 1 + 1 : Nat) = 4 from rfl, hall]
          generalize s.T ++ low4 s.low = X0 at *
          clear hlo hall c1
          go_wp2
          go_loopg [3] 3000 (fun k x wr => ∃ a : List UInt8, x = .string ⟨a.toArray⟩ ∧ strip a = endC s ∧ a.length ≤ k ∧ a.length ≤ 3000 ∧ Below w.heap.size w wr)
          case atStart => exact ⟨X0, rfl, HX.out, hxl, hxl, HB2.out⟩
          case round =>
            obtain ⟨a, rfl, hst, hk1, hk2, hb⟩ := hrel
            have HS : Hid (strip a = endC s) := hst
            have HB3 : Hid (Below w.heap.size w wr) := hb
            clear hst hb HX hxl
            rcases List.eq_nil_or_concat a with rfl | ⟨a', x, rfl⟩
            · go_wp2
              go_ret
              exact ⟨by rw [← HS.out]; rfl, HB3.out⟩
            · have ha : a'.concat x = a' ++ [x] := List.concat_eq_append
              have HS2 : Hid (strip (a' ++ [x]) = endC s) := by show _ = _; rw [← ha]; exact HS.out
              rw [ha] at hk1 hk2 ⊢
              obtain ⟨Y, hY⟩ : ∃ Y, Y = a' ++ [x] := ⟨_, rfl⟩
              rw [← hY] at hk1 hk2 HS2 ⊢
              have hlen : Y.length = a'.length + 1 := by rw [hY]; simp
              have hai : (a'.length : Int) ≤ 3000 := by omega
              have hstr : (⟨Y.toArray⟩ : ByteArray).size = a'.length + 1 := by rw [str_len, hlen]
              have hget : (⟨Y.toArray⟩ : ByteArray)[a'.length]'(by rw [hstr]; omega) = x := by
                subst hY
                show (a' ++ [x]).toArray[a'.length]'_ = _
                simp
              have hex : (⟨Y.toArray⟩ : ByteArray).extract 0 a'.length = ⟨a'.toArray⟩ := by
                subst hY
                rw [ByteArray.extract_mk]
                congr 1
                apply Array.ext'
                simp
              have hx8 : (x.toNat : Int) < 256 := by have := x.toNat_lt; omega
              have HY : Hid (Y = a' ++ [x]) := hY
              clear HS ha hY
              by_cases hx : x = 0
              · subst hx
                have hd : (((0 : UInt8).toNat : Int) == 0) = true := rfl
                have HS3 : Hid (strip a' = endC s) := by show _ = _; rw [← HS2.out, HY.out, strip_snoc, if_pos rfl]
                go_wp2
                go_roundg a'.length
                case measure => omega
                case rel => exact ⟨a', rfl, HS3.out, Nat.le_refl _, by omega, HB3.out⟩
              · have hxn : x.toNat ≠ 0 := fun e => hx (UInt8.toNat_inj.1 (by rw [e]; rfl))
                have hd : ((x.toNat : Int) == 0) = false := by simp; omega
                have HE : Hid (endC s = Y) := by show _ = _; rw [← HS2.out, HY.out, strip_snoc, if_neg hx]
                go_wp2
                go_ret
                exact ⟨by rw [HE.out]; rfl, HB3.out⟩
end Go.Proofs.YtdfpmhdgebajfaaDoor
