/- FormatInt at base 16; the program's texts and numbers. -/
import Derived.Test.YtcikohbcndppkaaDoorFB
namespace Go.Proofs.YtcikohbcndppkaaDoor
open Go.RowKit

set_option maxRecDepth 100000 in
theorem formatInt (i : Int) (h0 : -9223372036854775808 ≤ i) (h1 : i ≤ 9223372036854775807) (w : World) (hT : TabVar w) :
    Calls Tryd.prog 33 #[.int .i64 i, .int .i64 16] w fun e w' => e = .returned (.string ⟨(Hex.itxt i).toArray⟩) ∧ Below w.heap.size w w' := by
  have HT := Lib.hid hT
  clear hT
  by_cases h : i < 0
  · have hi : Hex.itxt i = 45 :: Hex.txt i.natAbs := if_pos h
    rw [hi]
    have hw : IntKind.u64.wrap i = i + 18446744073709551616 := by rw [IntKind.wrap_u64]; omega
    have hu : IntKind.u64.wrap (-(i + 18446744073709551616)) = ((i.natAbs : Nat) : Int) := by rw [IntKind.wrap_u64]; omega
    have HF := Lib.hid (fun w hT => format_neg i.natAbs (by omega) (i + 18446744073709551616) hu w hT)
    clear h0 h1 hi hu
    go_enter Tryd.func33, Tryd.ntmps33
    go_wp2_with fail
    refine (HF.out _ HT.out).mono ?_
    rintro e w1 ⟨rfl, hb⟩
    go_wp2_with fail
    go_ret
    exact ⟨rfl, hb⟩
  · have hi : Hex.itxt i = Hex.txt i.natAbs := if_neg h
    rw [hi]
    have hw : IntKind.u64.wrap i = ((i.natAbs : Nat) : Int) := by rw [IntKind.wrap_u64]; omega
    have HF := Lib.hid (fun w hT => format_pos i.natAbs (by omega) w hT)
    clear h0 h1 hi
    go_enter Tryd.func33, Tryd.ntmps33
    go_wp2_with fail
    refine (HF.out _ HT.out).mono ?_
    rintro e w1 ⟨rfl, hb⟩
    go_wp2_with fail
    go_ret
    exact ⟨rfl, hb⟩

theorem pubFormat (i : Int) (h0 : -9223372036854775808 ≤ i) (h1 : i ≤ 9223372036854775807) (w : World) (hT : TabVar w) :
    Calls Tryd.prog 21 #[.int .i64 i, .int .i64 16] w fun e w' => e = .returned (.string ⟨(Hex.itxt i).toArray⟩) ∧ Below w.heap.size w w' := by
  have HF := Lib.hid (formatInt i h0 h1 w hT)
  clear h0 h1 hT
  go_enter Tryd.func21, Tryd.ntmps21
  go_wp2_with fail
  refine HF.out.mono ?_
  rintro e w1 ⟨rfl, hb⟩
  go_wp2_with fail
  go_ret
  exact ⟨rfl, hb⟩

theorem placeText (i : Int) (h0 : -9223372036854775808 ≤ i) (h1 : i ≤ 9223372036854775807) (w : World) (hT : TabVar w) :
    Calls Tryd.prog 15 #[.int .i64 i] w fun e w' => e = .returned (.string ⟨(Hex.itxt i).toArray⟩) ∧ Below w.heap.size w w' := by
  have HF := Lib.hid (pubFormat i h0 h1 w hT)
  clear h0 h1 hT
  go_enter Tryd.func15, Tryd.ntmps15
  go_wp2_with fail
  refine HF.out.mono ?_
  rintro e w1 ⟨rfl, hb⟩
  go_wp2_with fail
  go_ret
  exact ⟨rfl, hb⟩
end Go.Proofs.YtcikohbcndppkaaDoor
