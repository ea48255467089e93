/- The specification's numbers out of texts. -/
import Derived.Test.YtcikohbcndppkaaDoorCut
namespace Go.Proofs.YtcikohbcndppkaaDoor
open Go.RowKit

/-- What comes out of digits D, of 1 to 8 signs, with a sign. -/
def seenRes (neg : Bool) (D : List UInt8) : Value := if D.all Hex.isHex && decide (Hex.val D ≤ 2139095039) then .tuple #[.float .f32 (wordAt (if neg then -(Hex.val D : Int) else (Hex.val D : Int))), .bool true] else .tuple #[.float .f32 0, .bool false]

theorem seen_bad (neg : Bool) (D : List UInt8) (c : UInt8) (hm : c ∈ D) (h : ¬ Hex.isHex c = true) : seenRes neg D = .tuple #[.float .f32 0, .bool false] := by
  unfold seenRes
  have : D.all Hex.isHex = false := by
    cases hb : D.all Hex.isHex
    · rfl
    · exact absurd (List.all_eq_true.1 hb c hm) h
  rw [this]; rfl

theorem seen_far (neg : Bool) (D : List UInt8) (a : Int) (ha : a = (Hex.val D : Int)) (h : 2139095039 < a) : seenRes neg D = .tuple #[.float .f32 0, .bool false] := by
  unfold seenRes
  rw [decide_eq_false (show ¬ Hex.val D ≤ 2139095039 by omega), Bool.and_false]; rfl

theorem seen_ok (neg : Bool) (D : List UInt8) (a : Int) (hall : ∀ c ∈ D, Hex.isHex c = true) (ha : a = (Hex.val D : Int)) (h : a ≤ 2139095039) : seenRes neg D = .tuple #[.float .f32 (wordAt (if neg then -a else a)), .bool true] := by
  unfold seenRes
  rw [decide_eq_true (show Hex.val D ≤ 2139095039 by omega), List.all_eq_true.2 hall, ha]; rfl

theorem not_hex {c : UInt8} (h : ¬ Hex.isHex c = true) : c.toNat < 48 ∨ (57 < c.toNat ∧ c.toNat < 97) ∨ 102 < c.toNat := by
  unfold Hex.isHex at h
  simp at h
  omega

set_option maxHeartbeats 8000000 in
set_option maxRecDepth 100000 in
theorem seen_pos (s : ByteArray) (c0 : UInt8) (r : List UInt8) (hL : s.data.toList = c0 :: r) (h45 : c0.toNat ≠ 45) (hlen : r.length ≤ 7) (h0 : c0.toNat ≠ 48 ∨ r = []) (w : World) :
    Calls Tryd.prog 12 #[.string s] w fun e w' => e = .returned (seenRes false (c0 :: r)) ∧ w = w' := by
  obtain ⟨hsz, hpos, hemp⟩ := nonempty_of s c0 r hL
  have hs0 : s[0]'hpos = c0 := by have := Lib.getD_at s 0 hpos; rw [hL] at this; exact this
  have i45 : ((c0.toNat : Int) == 45) = false := by rw [beq_eq_false_iff_ne]; omega
  have z0 : ((s.size : Int) == 0) = false := by rw [beq_eq_false_iff_ne]; omega
  have z8 : decide ((8 : Int) < (s.size : Int)) = false := decide_eq_false (by omega)
  have hpos' : (0 : Int) < (s.size : Int) := by omega
  have HLe : Hid (s.size ≤ 8) := Lib.hid (by omega)
  obtain ⟨D, hD⟩ : ∃ D, D = c0 :: r := ⟨_, rfl⟩
  have HD : Hid (s.data.toList = D ∧ D.length = s.size) := Lib.hid ⟨by rw [hL, hD], by rw [hD, hsz]; rfl⟩
  have HZ : Hid (c0.toNat = 48 → (s.toList == [48]) = true) := Lib.hid fun h => by
    have : r = [] := h0.resolve_left (fun h' => h' h)
    obtain rfl : c0 = 48 := UInt8.toNat_inj.1 h
    rw [ByteArray.toList_eq, hL, this]; rfl
  rw [← hD]
  clear hD hL hsz h0 hlen h45
  by_cases h48 : c0.toNat = 48
  · have hz := HZ.out h48
    obtain rfl : c0 = 48 := UInt8.toNat_inj.1 h48
    clear h48 HZ i45
    go_enter Tryd.func12, Tryd.ntmps12
    go_wp2_with fail
    go_loop [6, 7] (fun vn vi => ∃ (k : Nat) (a : Int), vn = .int .i64 a ∧ vi = .int .i64 k ∧ k ≤ s.size ∧ 0 ≤ a ∧ a < 4294967296 ∧ Hid (a = (Hex.val (D.take k) : Int) ∧ ∀ c ∈ D.take k, Hex.isHex c = true)) (fun _ vi => s.size - (intOf vi).toNat)
    case atStart => exact ⟨0, 0, rfl, rfl, by omega, by omega, by omega, Lib.hid ⟨rfl, by simp⟩⟩
    case round =>
      obtain ⟨k, a, rfl, rfl, hk, a0, a1, hh⟩ := hrel
      obtain ⟨ha, hall⟩ := hh.out
      clear hh
      have hk8 : k ≤ 8 := by have := HLe.out; omega
      by_cases hkn : k < s.size
      · have hkD : k < D.length := by rw [HD.out.2]; exact hkn
        have hidx : s[k]'hkn = D[k]'hkD := by
          have h1 := Lib.getD_at s k hkn
          rw [HD.out.1, getD_at D k hkD] at h1
          exact h1
        have hsn := Hex.val_snoc (D.take k) (D[k]'hkD)
        have htk := Hex.take_snoc D k hkD
        rw [← htk] at hsn
        have hmem : D[k]'hkD ∈ D := List.getElem_mem _
        generalize D[k]'hkD = c at *
        by_cases hhex : Hex.isHex c = true
        · have hall' : ∀ d ∈ D.take (k + 1), Hex.isHex d = true := by
            rw [htk]; intro d hd
            rcases List.mem_append.1 hd with hd | hd
            · exact hall d hd
            · rw [List.mem_singleton] at hd; rw [hd]; exact hhex
          have hbd : Hex.val (D.take (k + 1)) < 4294967296 := by
            have h1 := Hex.val_lt _ hall'
            have h2 : (D.take (k + 1)).length ≤ 8 := by rw [List.length_take]; have := HLe.out; have := HD.out.2; omega
            have h3 : (16 : Nat) ^ (D.take (k + 1)).length ≤ 16 ^ 8 := Nat.pow_le_pow_right (by omega) h2
            have h4 : (16 : Nat) ^ 8 = 4294967296 := by decide
            omega
          have hh2 := Hex.hex_nat hhex
          have hc256 : c.toNat < 256 := c.toNat_lt
          by_cases hdig : c.toNat ≤ 57
          · have hdv : Hex.dv c = c.toNat - 48 := if_pos hdig
            have hd0 : 48 ≤ c.toNat := by omega
            have HN : Hid (16 * a + ((c.toNat : Int) - 48) = (Hex.val (D.take (k + 1)) : Int) ∧ ∀ d ∈ D.take (k + 1), Hex.isHex d = true) := Lib.hid ⟨by omega, hall'⟩
            have n0 : 0 ≤ 16 * a + ((c.toNat : Int) - 48) := by omega
            have n1 : 16 * a + ((c.toNat : Int) - 48) < 4294967296 := by have := HN.out.1; omega
            clear hall hall' ha hsn htk hmem hhex hbd hdv hh2 hkD
            go_wp2
            go_round
            case rel => exact ⟨k + 1, 16 * a + ((c.toNat : Int) - 48), by go_num, by go_num, by omega, n0, n1, HN⟩
            case measure => simp [intOf]; omega
          · have hdv : Hex.dv c = c.toNat - 87 := if_neg hdig
            have hd0 : 97 ≤ c.toNat := by omega
            have hd1 : c.toNat ≤ 102 := by omega
            have hd57 : decide ((c.toNat : Int) ≤ 57) = false := decide_eq_false (by omega)
            have HN : Hid (16 * a + ((c.toNat : Int) - 97) + 10 = (Hex.val (D.take (k + 1)) : Int) ∧ ∀ d ∈ D.take (k + 1), Hex.isHex d = true) := Lib.hid ⟨by omega, hall'⟩
            have n0 : 0 ≤ 16 * a + ((c.toNat : Int) - 97) + 10 := by omega
            have n1 : 16 * a + ((c.toNat : Int) - 97) + 10 < 4294967296 := by have := HN.out.1; omega
            clear hall hall' ha hsn htk hmem hhex hbd hdv hh2 hkD
            go_wp2
            go_round
            case rel => exact ⟨k + 1, 16 * a + ((c.toNat : Int) - 97) + 10, by go_num, by go_num, by omega, n0, n1, HN⟩
            case measure => simp [intOf]; omega
        · have hres : seenRes false D = .tuple #[.float .f32 0, .bool false] := seen_bad _ D c hmem hhex
          have HRes := Lib.hid hres
          have hnx : c.toNat < 48 ∨ (57 < c.toNat ∧ c.toNat < 97) ∨ 102 < c.toNat := not_hex hhex
          have hc256 : c.toNat < 256 := c.toNat_lt
          clear hall ha hsn htk hmem hhex hkD hres
          rcases hnx with h1 | ⟨h1, h2⟩ | h1
          all_goals
            go_wp2
            go_ret2
            exact ⟨by rw [HRes.out]; rfl, rfl⟩
      · have hkk : k = s.size := by omega
        subst hkk
        have hend : D.take s.size = D := List.take_of_length_le (by rw [HD.out.2]; omega)
        rw [hend] at ha hall
        by_cases hmx : a ≤ 2139095039
        · have hres : seenRes false D = .tuple #[.float .f32 (wordAt (a)), .bool true] := seen_ok _ D a hall ha hmx
          have HRes := Lib.hid hres
          have HF := Lib.hid (fun w => float_any (a) w (by omega) (by omega))
          clear ha hall hend hres hkn
          go_wp2_with fail
          refine (HF.out _).mono ?_
          rintro e w' ⟨rfl, rfl⟩
          go_wp2_with fail
          go_ret2
          exact ⟨by rw [HRes.out]; rfl, rfl⟩
        · have hres : seenRes false D = .tuple #[.float .f32 0, .bool false] := seen_far _ D a ha (by omega)
          have HRes := Lib.hid hres
          have hmx' : 2139095039 < a := by omega
          clear ha hall hend hres hkn hmx
          go_wp2_with fail
          go_ret2
          exact ⟨by rw [HRes.out]; rfl, rfl⟩
  · have i48 : ((c0.toNat : Int) == 48) = false := by rw [beq_eq_false_iff_ne]; omega
    clear h48 HZ
    go_enter Tryd.func12, Tryd.ntmps12
    go_wp2_with fail
    clear i48 i45 hs0
    go_loop [6, 7] (fun vn vi => ∃ (k : Nat) (a : Int), vn = .int .i64 a ∧ vi = .int .i64 k ∧ k ≤ s.size ∧ 0 ≤ a ∧ a < 4294967296 ∧ Hid (a = (Hex.val (D.take k) : Int) ∧ ∀ c ∈ D.take k, Hex.isHex c = true)) (fun _ vi => s.size - (intOf vi).toNat)
    case atStart => exact ⟨0, 0, rfl, rfl, by omega, by omega, by omega, Lib.hid ⟨rfl, by simp⟩⟩
    case round =>
      obtain ⟨k, a, rfl, rfl, hk, a0, a1, hh⟩ := hrel
      obtain ⟨ha, hall⟩ := hh.out
      clear hh
      have hk8 : k ≤ 8 := by have := HLe.out; omega
      by_cases hkn : k < s.size
      · have hkD : k < D.length := by rw [HD.out.2]; exact hkn
        have hidx : s[k]'hkn = D[k]'hkD := by
          have h1 := Lib.getD_at s k hkn
          rw [HD.out.1, getD_at D k hkD] at h1
          exact h1
        have hsn := Hex.val_snoc (D.take k) (D[k]'hkD)
        have htk := Hex.take_snoc D k hkD
        rw [← htk] at hsn
        have hmem : D[k]'hkD ∈ D := List.getElem_mem _
        generalize D[k]'hkD = c at *
        by_cases hhex : Hex.isHex c = true
        · have hall' : ∀ d ∈ D.take (k + 1), Hex.isHex d = true := by
            rw [htk]; intro d hd
            rcases List.mem_append.1 hd with hd | hd
            · exact hall d hd
            · rw [List.mem_singleton] at hd; rw [hd]; exact hhex
          have hbd : Hex.val (D.take (k + 1)) < 4294967296 := by
            have h1 := Hex.val_lt _ hall'
            have h2 : (D.take (k + 1)).length ≤ 8 := by rw [List.length_take]; have := HLe.out; have := HD.out.2; omega
            have h3 : (16 : Nat) ^ (D.take (k + 1)).length ≤ 16 ^ 8 := Nat.pow_le_pow_right (by omega) h2
            have h4 : (16 : Nat) ^ 8 = 4294967296 := by decide
            omega
          have hh2 := Hex.hex_nat hhex
          have hc256 : c.toNat < 256 := c.toNat_lt
          by_cases hdig : c.toNat ≤ 57
          · have hdv : Hex.dv c = c.toNat - 48 := if_pos hdig
            have hd0 : 48 ≤ c.toNat := by omega
            have HN : Hid (16 * a + ((c.toNat : Int) - 48) = (Hex.val (D.take (k + 1)) : Int) ∧ ∀ d ∈ D.take (k + 1), Hex.isHex d = true) := Lib.hid ⟨by omega, hall'⟩
            have n0 : 0 ≤ 16 * a + ((c.toNat : Int) - 48) := by omega
            have n1 : 16 * a + ((c.toNat : Int) - 48) < 4294967296 := by have := HN.out.1; omega
            clear hall hall' ha hsn htk hmem hhex hbd hdv hh2 hkD
            go_wp2
            go_round
            case rel => exact ⟨k + 1, 16 * a + ((c.toNat : Int) - 48), by go_num, by go_num, by omega, n0, n1, HN⟩
            case measure => simp [intOf]; omega
          · have hdv : Hex.dv c = c.toNat - 87 := if_neg hdig
            have hd0 : 97 ≤ c.toNat := by omega
            have hd1 : c.toNat ≤ 102 := by omega
            have hd57 : decide ((c.toNat : Int) ≤ 57) = false := decide_eq_false (by omega)
            have HN : Hid (16 * a + ((c.toNat : Int) - 97) + 10 = (Hex.val (D.take (k + 1)) : Int) ∧ ∀ d ∈ D.take (k + 1), Hex.isHex d = true) := Lib.hid ⟨by omega, hall'⟩
            have n0 : 0 ≤ 16 * a + ((c.toNat : Int) - 97) + 10 := by omega
            have n1 : 16 * a + ((c.toNat : Int) - 97) + 10 < 4294967296 := by have := HN.out.1; omega
            clear hall hall' ha hsn htk hmem hhex hbd hdv hh2 hkD
            go_wp2
            go_round
            case rel => exact ⟨k + 1, 16 * a + ((c.toNat : Int) - 97) + 10, by go_num, by go_num, by omega, n0, n1, HN⟩
            case measure => simp [intOf]; omega
        · have hres : seenRes false D = .tuple #[.float .f32 0, .bool false] := seen_bad _ D c hmem hhex
          have HRes := Lib.hid hres
          have hnx : c.toNat < 48 ∨ (57 < c.toNat ∧ c.toNat < 97) ∨ 102 < c.toNat := not_hex hhex
          have hc256 : c.toNat < 256 := c.toNat_lt
          clear hall ha hsn htk hmem hhex hkD hres
          rcases hnx with h1 | ⟨h1, h2⟩ | h1
          all_goals
            go_wp2
            go_ret2
            exact ⟨by rw [HRes.out]; rfl, rfl⟩
      · have hkk : k = s.size := by omega
        subst hkk
        have hend : D.take s.size = D := List.take_of_length_le (by rw [HD.out.2]; omega)
        rw [hend] at ha hall
        by_cases hmx : a ≤ 2139095039
        · have hres : seenRes false D = .tuple #[.float .f32 (wordAt (a)), .bool true] := seen_ok _ D a hall ha hmx
          have HRes := Lib.hid hres
          have HF := Lib.hid (fun w => float_any (a) w (by omega) (by omega))
          clear ha hall hend hres hkn
          go_wp2_with fail
          refine (HF.out _).mono ?_
          rintro e w' ⟨rfl, rfl⟩
          go_wp2_with fail
          go_ret2
          exact ⟨by rw [HRes.out]; rfl, rfl⟩
        · have hres : seenRes false D = .tuple #[.float .f32 0, .bool false] := seen_far _ D a ha (by omega)
          have HRes := Lib.hid hres
          have hmx' : 2139095039 < a := by omega
          clear ha hall hend hres hkn hmx
          go_wp2_with fail
          go_ret2
          exact ⟨by rw [HRes.out]; rfl, rfl⟩

set_option maxHeartbeats 8000000 in
set_option maxRecDepth 100000 in
theorem seen_neg (s : ByteArray) (c0 : UInt8) (r : List UInt8) (hL : s.data.toList = 45 :: c0 :: r) (hlen : r.length ≤ 7) (h0 : c0.toNat ≠ 48) (w : World) :
    Calls Tryd.prog 12 #[.string s] w fun e w' => e = .returned (seenRes true (c0 :: r)) ∧ w = w' := by
  obtain ⟨hsz, hpos, hemp⟩ := nonempty_of s 45 (c0 :: r) hL
  have hs0 : s[0]'hpos = 45 := by have := Lib.getD_at s 0 hpos; rw [hL] at this; exact this
  obtain ⟨htl, hts, hsl0⟩ := tail_of s 45 (c0 :: r) hL
  have hsl : ∀ W, (Instr.slice 9 (.string s) (some (.int .i64 1)) none none).run Tryd.prog W = .ok (.string (s.extract 1 s.size)) W := fun W => hsl0 Tryd.prog W 9 Tryd.underlying9
  generalize s.extract 1 s.size = t at hsl htl hts
  clear hsl0
  have hts' : t.size = r.length + 1 := by rw [hts]; rfl
  have htp : 0 < t.size := by omega
  have ht0 : t[0]'htp = c0 := by have := Lib.getD_at t 0 htp; rw [htl] at this; exact this
  have i48 : ((c0.toNat : Int) == 48) = false := by rw [beq_eq_false_iff_ne]; omega
  have z0 : ((t.size : Int) == 0) = false := by rw [beq_eq_false_iff_ne]; omega
  have z8 : decide ((8 : Int) < (t.size : Int)) = false := decide_eq_false (by omega)
  have hpos' : (0 : Int) < (s.size : Int) := by omega
  have hpos2 : (0 : Int) < (t.size : Int) := by omega
  have HLe : Hid (t.size ≤ 8) := Lib.hid (by omega)
  obtain ⟨D, hD⟩ : ∃ D, D = c0 :: r := ⟨_, rfl⟩
  have HD : Hid (t.data.toList = D ∧ D.length = t.size) := Lib.hid ⟨by rw [htl, hD], by rw [hD, hts']; rfl⟩
  rw [← hD]
  clear hD hL hsz h0 hlen htl hts hts'
  go_enter Tryd.func12, Tryd.ntmps12
  go_wp2_with fail
  clear i48 hs0 ht0
  go_loop [6, 7] (fun vn vi => ∃ (k : Nat) (a : Int), vn = .int .i64 a ∧ vi = .int .i64 k ∧ k ≤ t.size ∧ 0 ≤ a ∧ a < 4294967296 ∧ Hid (a = (Hex.val (D.take k) : Int) ∧ ∀ c ∈ D.take k, Hex.isHex c = true)) (fun _ vi => t.size - (intOf vi).toNat)
  case atStart => exact ⟨0, 0, rfl, rfl, by omega, by omega, by omega, Lib.hid ⟨rfl, by simp⟩⟩
  case round =>
    obtain ⟨k, a, rfl, rfl, hk, a0, a1, hh⟩ := hrel
    obtain ⟨ha, hall⟩ := hh.out
    clear hh
    have hk8 : k ≤ 8 := by have := HLe.out; omega
    by_cases hkn : k < t.size
    · have hkD : k < D.length := by rw [HD.out.2]; exact hkn
      have hidx : t[k]'hkn = D[k]'hkD := by
        have h1 := Lib.getD_at t k hkn
        rw [HD.out.1, getD_at D k hkD] at h1
        exact h1
      have hsn := Hex.val_snoc (D.take k) (D[k]'hkD)
      have htk := Hex.take_snoc D k hkD
      rw [← htk] at hsn
      have hmem : D[k]'hkD ∈ D := List.getElem_mem _
      generalize D[k]'hkD = c at *
      by_cases hhex : Hex.isHex c = true
      · have hall' : ∀ d ∈ D.take (k + 1), Hex.isHex d = true := by
          rw [htk]; intro d hd
          rcases List.mem_append.1 hd with hd | hd
          · exact hall d hd
          · rw [List.mem_singleton] at hd; rw [hd]; exact hhex
        have hbd : Hex.val (D.take (k + 1)) < 4294967296 := by
          have h1 := Hex.val_lt _ hall'
          have h2 : (D.take (k + 1)).length ≤ 8 := by rw [List.length_take]; have := HLe.out; have := HD.out.2; omega
          have h3 : (16 : Nat) ^ (D.take (k + 1)).length ≤ 16 ^ 8 := Nat.pow_le_pow_right (by omega) h2
          have h4 : (16 : Nat) ^ 8 = 4294967296 := by decide
          omega
        have hh2 := Hex.hex_nat hhex
        have hc256 : c.toNat < 256 := c.toNat_lt
        by_cases hdig : c.toNat ≤ 57
        · have hdv : Hex.dv c = c.toNat - 48 := if_pos hdig
          have hd0 : 48 ≤ c.toNat := by omega
          have HN : Hid (16 * a + ((c.toNat : Int) - 48) = (Hex.val (D.take (k + 1)) : Int) ∧ ∀ d ∈ D.take (k + 1), Hex.isHex d = true) := Lib.hid ⟨by omega, hall'⟩
          have n0 : 0 ≤ 16 * a + ((c.toNat : Int) - 48) := by omega
          have n1 : 16 * a + ((c.toNat : Int) - 48) < 4294967296 := by have := HN.out.1; omega
          clear hall hall' ha hsn htk hmem hhex hbd hdv hh2 hkD
          go_wp2
          go_round
          case rel => exact ⟨k + 1, 16 * a + ((c.toNat : Int) - 48), by go_num, by go_num, by omega, n0, n1, HN⟩
          case measure => simp [intOf]; omega
        · have hdv : Hex.dv c = c.toNat - 87 := if_neg hdig
          have hd0 : 97 ≤ c.toNat := by omega
          have hd1 : c.toNat ≤ 102 := by omega
          have hd57 : decide ((c.toNat : Int) ≤ 57) = false := decide_eq_false (by omega)
          have HN : Hid (16 * a + ((c.toNat : Int) - 97) + 10 = (Hex.val (D.take (k + 1)) : Int) ∧ ∀ d ∈ D.take (k + 1), Hex.isHex d = true) := Lib.hid ⟨by omega, hall'⟩
          have n0 : 0 ≤ 16 * a + ((c.toNat : Int) - 97) + 10 := by omega
          have n1 : 16 * a + ((c.toNat : Int) - 97) + 10 < 4294967296 := by have := HN.out.1; omega
          clear hall hall' ha hsn htk hmem hhex hbd hdv hh2 hkD
          go_wp2
          go_round
          case rel => exact ⟨k + 1, 16 * a + ((c.toNat : Int) - 97) + 10, by go_num, by go_num, by omega, n0, n1, HN⟩
          case measure => simp [intOf]; omega
      · have hres : seenRes true D = .tuple #[.float .f32 0, .bool false] := seen_bad _ D c hmem hhex
        have HRes := Lib.hid hres
        have hnx : c.toNat < 48 ∨ (57 < c.toNat ∧ c.toNat < 97) ∨ 102 < c.toNat := not_hex hhex
        have hc256 : c.toNat < 256 := c.toNat_lt
        clear hall ha hsn htk hmem hhex hkD hres
        rcases hnx with h1 | ⟨h1, h2⟩ | h1
        all_goals
          go_wp2
          go_ret2
          exact ⟨by rw [HRes.out]; rfl, rfl⟩
    · have hkk : k = t.size := by omega
      subst hkk
      have hend : D.take t.size = D := List.take_of_length_le (by rw [HD.out.2]; omega)
      rw [hend] at ha hall
      by_cases hmx : a ≤ 2139095039
      · have hres : seenRes true D = .tuple #[.float .f32 (wordAt (-a)), .bool true] := seen_ok _ D a hall ha hmx
        have HRes := Lib.hid hres
        have HF := Lib.hid (fun w => float_any (-a) w (by omega) (by omega))
        clear ha hall hend hres hkn
        go_wp2_with fail
        refine (HF.out _).mono ?_
        rintro e w' ⟨rfl, rfl⟩
        go_wp2_with fail
        go_ret2
        exact ⟨by rw [HRes.out]; rfl, rfl⟩
      · have hres : seenRes true D = .tuple #[.float .f32 0, .bool false] := seen_far _ D a ha (by omega)
        have HRes := Lib.hid hres
        have hmx' : 2139095039 < a := by omega
        clear ha hall hend hres hkn hmx
        go_wp2_with fail
        go_ret2
        exact ⟨by rw [HRes.out]; rfl, rfl⟩
end Go.Proofs.YtcikohbcndppkaaDoor
