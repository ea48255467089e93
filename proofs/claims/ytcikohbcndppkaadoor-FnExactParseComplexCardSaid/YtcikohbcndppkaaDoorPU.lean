/- The library's ParseUint at base 16 and 64 bits. -/
import Derived.Test.YtcikohbcndppkaaDoorRows
import Derived.Test.YtcikohbcndppkaaDoorHex
import Derived.Test.YtcikohbcndppkaaDoorLib
import Derived.WalkKit
import Derived.WalkSpells
import Derived.WalkLawsBesides
import Derived.BigCall
import Derived.BigGuard
import Derived.Lib.Hide
import Derived.Lib.Strings
import Derived.Lib.Walk
import Derived.Lib.ConvBytes
import Derived.Laws.Strings3
import Derived.Laws.Closers25
import Derived.Laws.Closers25b
namespace Go.Proofs.YtcikohbcndppkaaDoor
open Go.RowKit

theorem getD_at (l : List UInt8) (k : Nat) (h : k < l.length) : l.getD k 0 = l[k] := by simp [List.getD, List.getElem?_eq_getElem h]

theorem bytes_below (w : World) (e : TypeId) (t : ByteArray) : Below w.heap.size w (Lib.bytesWorld w e t) :=
  ⟨rfl, rfl, rfl, by rw [Lib.bytesWorld_size]; omega, fun k hk => Lib.bytesWorld_at_old w e t k hk⟩

/-- A small letter is its own small letter. -/
theorem low_letter (n : Nat) (h1 : 97 ≤ n) (h2 : n ≤ 122) : bits .or .u8 (n : Int) 32 = (n : Int) := by
  have key : ∀ m : Fin 123, 97 ≤ m.val → bits .or .u8 (m.val : Int) 32 = (m.val : Int) := by decide +kernel
  exact key ⟨n, by omega⟩ h1

set_option maxHeartbeats 4000000 in
set_option maxRecDepth 100000 in
/-- A number's own text. -/
theorem uint_good (t : ByteArray) (n : Nat) (hn : n < 18446744073709551616) (ht : t.data.toList = Hex.txt n) (hmax : t.size ≤ 9223372036854775806) (w : World) :
    Calls Tryd.prog 28 #[.string t, .int .i64 16, .int .i64 64] w fun e w' => e = .returned (.tuple #[.int .u64 n, .nilIface]) ∧ Below w.heap.size w w' := by
  have hne : t.size ≠ 0 := by
    rw [Lib.size_eq, ht]
    intro h
    exact Hex.txt_ne n (List.length_eq_zero_iff.1 h)
  have hemp : t.toList.isEmpty = false := by
    rw [← decide_eq_emptyBytes]
    exact decide_eq_false (fun h => hne (by rw [h]; rfl))
  have hcv := Lib.run_convert_string_bytes (P := Tryd.prog) w 9 67 5 t (u := .string) Tryd.underlying9 Tryd.underlying67 Tryd.underlying5
  have hB : ∀ j, j < t.size → (Lib.bytesWorld w 5 t).cell? ⟨w.heap.size, j, none⟩ = some (.int .u8 (t.data.toList.getD j 0).toNat) := fun j hj => Lib.bytesWorld_cell w 5 t j hj
  obtain ⟨W1, hW1⟩ : ∃ W1, W1 = Lib.bytesWorld w 5 t := ⟨_, rfl⟩
  have HBel : Hid (Below w.heap.size w W1) := Lib.hid (hW1 ▸ bytes_below w 5 t)
  rw [← hW1] at hcv hB
  clear hW1
  obtain ⟨bs, hL⟩ : ∃ bs, bs = t.data.toList := ⟨_, rfl⟩
  have hLn : bs.length = t.size := by rw [hL, Lib.size_eq]
  rw [← hL] at hB ht
  clear hL
  have hmv : IntKind.u64.wrap (IntKind.u64.wrap 18446744073709551616 - 1) = 18446744073709551615 := by
    rw [IntKind.wrap_u64, IntKind.wrap_u64]
    decide
  have HAll : Hid (∀ c ∈ bs, Hex.isHex c = true) := Lib.hid (ht ▸ Hex.all_txt n)
  have HVal : Hid (Hex.val bs = n) := Lib.hid (by rw [ht]; exact Hex.val_txt n)
  clear ht
  go_enter Tryd.func28, Tryd.ntmps28
  go_wp2
  go_loop [12, 13, 101] (fun vu vn vi => ∃ (k : Nat) (a : Int), vu = .bool false ∧ vn = .int .u64 a ∧ vi = .int .i64 k ∧ k ≤ t.size ∧ Hid (a = (Hex.val (bs.take k) : Int)))
    (fun _ _ vi => t.size - (intOf vi).toNat)
  case atStart => exact ⟨0, 0, rfl, rfl, rfl, by omega, Lib.hid rfl⟩
  case round =>
    obtain ⟨k, a, rfl, rfl, rfl, hk, hh⟩ := hrel
    have ha := hh.out
    have a0 : 0 ≤ a := by omega
    by_cases hkn : k < t.size
    · have hc := hB k hkn
      rw [getD_at bs k (by omega)] at hc
      have hhex := HAll.out (bs[k]'(by omega)) (List.getElem_mem _)
      have hsn := Hex.val_snoc (bs.take k) (bs[k]'(by omega))
      rw [← Hex.take_snoc bs k (by omega)] at hsn
      have hle := Hex.val_take_le bs (k + 1)
      rw [HVal.out] at hle
      generalize bs[k]'(by omega) = c at hc hhex hsn
      have hc256 : c.toNat < 256 := c.toNat_lt
      have hdl := Hex.dv_lt hhex
      have hh2 := Hex.hex_nat hhex
      have icut : a < 1152921504606846976 := by omega
      have iov : a * 16 + (Hex.dv c : Int) < 18446744073709551616 := by omega
      have HN : Hid (a * 16 + (Hex.dv c : Int) = (Hex.val (bs.take (k + 1)) : Int)) := Lib.hid (by omega)
      clear hB hsn hle hhex hh ha hn
      by_cases hdig : c.toNat ≤ 57
      · have hdv : Hex.dv c = c.toNat - 48 := if_pos hdig
        have hd0 : 48 ≤ c.toNat := by omega
        have hdv2 : (Hex.dv c : Int) = (c.toNat : Int) - 48 := by omega
        rw [hdv2] at iov HN
        clear hdv hdv2 hh2 hdl
        go_wp2
        refine ⟨⟨k + 1, a * 16 + ((c.toNat : Int) - 48), rfl, (by first | rfl | (congr 1; omega)), (by first | rfl | (congr 1; omega)), by omega, HN⟩, by simp [intOf]; omega⟩
      · have hdv : Hex.dv c = c.toNat - 87 := if_neg hdig
        have hd0 : 97 ≤ c.toNat := by omega
        have hd1 : c.toNat ≤ 102 := by omega
        have hdv2 : (Hex.dv c : Int) = (c.toNat : Int) - 97 + 10 := by omega
        rw [hdv2] at iov HN
        have hlow := low_letter c.toNat hd0 (by omega)
        clear hdv hdv2 hh2 hdl
        go_wp2_with (go_at_call 36; refine (Tryd.internal_strconv_lower _ _).mono ?_; rintro e w' ⟨rfl, rfl⟩)
        refine ⟨⟨k + 1, a * 16 + ((c.toNat : Int) - 97 + 10), rfl, (by first | rfl | (congr 1; omega)), (by first | rfl | (congr 1; omega)), by omega, HN⟩, by simp [intOf]; omega⟩
    · have hkk : k = t.size := by omega
      subst hkk
      have hend : bs.take t.size = bs := List.take_of_length_le (by omega)
      rw [hend, HVal.out] at ha
      subst ha
      clear hh a0
      go_wp2
      go_ret2
      exact ⟨rfl, HBel.out⟩
end Go.Proofs.YtcikohbcndppkaaDoor
