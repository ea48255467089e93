/- The library's ParseUint at base 16 and 64 bits, of whatever text: it comes back. -/
import Derived.Test.YtcikohbcndppkaaDoorPU
namespace Go.Proofs.YtcikohbcndppkaaDoor
open Go.RowKit

/-- A number of 64 bits, and no error, or one of the two. -/
def UOut (e : Ending) : Prop := ∃ (x : Int) (v : Value), e = .returned (.tuple #[.int .u64 x, v]) ∧ 0 ≤ x ∧ x < 18446744073709551616 ∧ (v = .nilIface ∨ v = .iface 57 (.int .i64 1) ∨ v = .iface 57 (.int .i64 2))

set_option maxHeartbeats 8000000 in
set_option maxRecDepth 100000 in
theorem uint_any (t : ByteArray) (hne : t.size ≠ 0) (hmax : t.size ≤ 9223372036854775806) (w : World) :
    Calls Tryd.prog 28 #[.string t, .int .i64 16, .int .i64 64] w fun e w' => UOut e ∧ Below w.heap.size w w' := by
  have hemp : t.toList.isEmpty = false := by
    rw [← decide_eq_emptyBytes]
    exact decide_eq_false (fun h => hne (by rw [h]; rfl))
  have hcv := Lib.run_convert_string_bytes (P := Tryd.prog) w 9 67 5 t (u := .string) Tryd.underlying9 Tryd.underlying67 Tryd.underlying5
  have hB : ∀ j, j < t.size → (Lib.bytesWorld w 5 t).cell? ⟨w.heap.size, j, none⟩ = some (.int .u8 (t.data.toList.getD j 0).toNat) := fun j hj => Lib.bytesWorld_cell w 5 t j hj
  obtain ⟨W1, hW1⟩ : ∃ W1, W1 = Lib.bytesWorld w 5 t := ⟨_, rfl⟩
  have HBel : Hid (Below w.heap.size w W1) := Lib.hid (hW1 ▸ bytes_below w 5 t)
  rw [← hW1] at hcv hB
  clear hW1
  obtain ⟨bs, hL⟩ : ∃ bs, bs = t.data.toList := ⟨_, rfl⟩
  have hLn : bs.length = t.size := by rw [hL, Lib.size_eq]
  rw [← hL] at hB
  clear hL
  have hmv : IntKind.u64.wrap (IntKind.u64.wrap 18446744073709551616 - 1) = 18446744073709551615 := by
    rw [IntKind.wrap_u64, IntKind.wrap_u64]
    decide
  go_enter Tryd.func28, Tryd.ntmps28
  go_wp2
  go_loop [12, 13, 101] (fun vu vn vi => ∃ (k : Nat) (a : Int), vu = .bool false ∧ vn = .int .u64 a ∧ vi = .int .i64 k ∧ k ≤ t.size ∧ Hid (0 ≤ a ∧ a < 18446744073709551616))
    (fun _ _ vi => t.size - (intOf vi).toNat)
  case atStart => exact ⟨0, 0, rfl, rfl, rfl, by omega, Lib.hid ⟨by omega, by omega⟩⟩
  case round =>
    obtain ⟨k, a, rfl, rfl, rfl, hk, hh⟩ := hrel
    obtain ⟨a0, a1⟩ := hh.out
    clear hh
    by_cases hkn : k < t.size
    · have hc := hB k hkn
      generalize (bs.getD k 0) = c at hc
      have hc256 : c.toNat < 256 := c.toNat_lt
      generalize hcn : c.toNat = m at hc hc256
      clear hB hcn c
      by_cases hdig : 48 ≤ m ∧ m ≤ 57
      · obtain ⟨hd0, hd1⟩ := hdig
        by_cases icut : a < 1152921504606846976
        · have iov : a * 16 + ((m : Int) - 48) < 18446744073709551616 := by omega
          have HN : Hid (0 ≤ a * 16 + ((m : Int) - 48) ∧ a * 16 + ((m : Int) - 48) < 18446744073709551616) := Lib.hid ⟨by omega, by omega⟩
          clear a1
          go_wp2
          refine ⟨⟨k + 1, a * 16 + ((m : Int) - 48), rfl, (by first | rfl | (congr 1; omega)), (by first | rfl | (congr 1; omega)), by omega, HN⟩, by simp [intOf]; omega⟩
        · have icut' : 1152921504606846976 ≤ a := by omega
          clear icut
          go_wp2
          go_ret2
          exact ⟨⟨_, _, rfl, by omega, by omega, .inr (.inl rfl)⟩, HBel.out⟩
      · by_cases h95 : m = 95
        · subst h95
          have hu : bits .or .u8 95 32 = 127 := by decide +kernel
          go_wp2_with (go_at_call 36; refine (Tryd.internal_strconv_lower _ _).mono ?_; rintro e w' ⟨rfl, rfl⟩)
          go_ret2
          exact ⟨⟨_, _, rfl, by omega, by omega, .inr (.inr rfl)⟩, HBel.out⟩
        · have hv0 := bits_lo_u8 .or (m : Int) 32
          have hv1 := bits_hi_u8 .or (m : Int) 32
          have HLow := Lib.hid (fun w => Tryd.internal_strconv_lower (m : Int) w)
          generalize bits .or .u8 (m : Int) 32 = l at hv0 hv1 HLow
          have hm95 : (((m : Nat) : Int) == 95) = false := by
            rw [beq_eq_false_iff_ne]; omega
          have hm : m < 48 ∨ 57 < m := by omega
          clear hdig h95
          by_cases hl : 97 ≤ l ∧ l ≤ 122
          · obtain ⟨hl0, hl1⟩ := hl
            by_cases hl2 : l ≤ 102
            · by_cases icut : a < 1152921504606846976
              · have iov : a * 16 + (l - 97 + 10) < 18446744073709551616 := by omega
                have HN : Hid (0 ≤ a * 16 + (l - 97 + 10) ∧ a * 16 + (l - 97 + 10) < 18446744073709551616) := Lib.hid ⟨by omega, by omega⟩
                clear a1
                rcases hm with hm | hm
                all_goals
                  go_wp2_with (go_at_call 36; refine (HLow.out _).mono ?_; rintro e w' ⟨rfl, rfl⟩)
                  refine ⟨⟨k + 1, a * 16 + (l - 97 + 10), rfl, (by first | rfl | (congr 1; omega)), (by first | rfl | (congr 1; omega)), by omega, HN⟩, by simp [intOf]; omega⟩
              · have icut' : 1152921504606846976 ≤ a := by omega
                clear icut
                rcases hm with hm | hm
                all_goals
                  go_wp2_with (go_at_call 36; refine (HLow.out _).mono ?_; rintro e w' ⟨rfl, rfl⟩)
                  go_ret2
                  exact ⟨⟨_, _, rfl, by omega, by omega, .inr (.inl rfl)⟩, HBel.out⟩
            · have hl3 : 102 < l := by omega
              clear hl2
              rcases hm with hm | hm
              all_goals
                go_wp2_with (go_at_call 36; refine (HLow.out _).mono ?_; rintro e w' ⟨rfl, rfl⟩)
                go_ret2
                exact ⟨⟨_, _, rfl, by omega, by omega, .inr (.inr rfl)⟩, HBel.out⟩
          · have hl' : l < 97 ∨ 122 < l := by omega
            clear hl
            rcases hl' with hl | hl
            all_goals
              rcases hm with hm | hm
              all_goals
                go_wp2_with (go_at_call 36; refine (HLow.out _).mono ?_; rintro e w' ⟨rfl, rfl⟩)
                go_ret2
                exact ⟨⟨_, _, rfl, by omega, by omega, .inr (.inr rfl)⟩, HBel.out⟩
    · have hkk : k = t.size := by omega
      subst hkk
      go_wp2
      go_ret2
      exact ⟨⟨_, _, rfl, a0, a1, .inl rfl⟩, HBel.out⟩
end Go.Proofs.YtcikohbcndppkaaDoor
