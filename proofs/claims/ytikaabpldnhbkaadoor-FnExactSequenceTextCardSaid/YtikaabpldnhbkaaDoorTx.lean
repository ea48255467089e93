/- The law of SequenceText: a list of pulses there, a text back. -/
import Derived.Test.YtikaabpldnhbkaaDoorP4
import Derived.Test.YtikaabpldnhbkaaDoorGt
namespace Go.Proofs.YtikaabpldnhbkaaDoor
open Go.RowKit

set_option maxRecDepth 100000 in
set_option maxHeartbeats 1000000 in
theorem law_text {W : World} {v : Value} {n : Nat} {P : Nat → Pu} {t : ByteArray} {code : Int} (h : Rd W v n P) (hsm : n ≤ 1048576) (SP0 : GivesT 6 n P t code) (IM0 : GivesT 8 n P t code) :
    Calls Tryd.prog 3 #[v] W fun e w' => e = .returned (.bool true) ∧ Below W.heap.size W w' := by
  obtain ⟨a, cap, hv, _⟩ := id h
  have Z := Lib.hid (fun w => szPulseS_any a n cap 1048576 w (by omega) (by omega) (show n < 9223372036854775808 by omega))
  rw [if_pos (by omega)] at Z
  have hl0 : (0 : Int) ≤ 1048576 - n := by omega
  have H := Lib.hid h
  have SP := Lib.hid SP0
  have IM := Lib.hid IM0
  subst hv
  clear h SP0 IM0
  go_enter Tryd.func3, Tryd.ntmps3
  go_wp2_with fail
  refine (Z.out _).mono ?_
  rintro e w' ⟨rfl, rfl⟩
  go_wp2_with fail
  refine (toPulseS_ok H.out hsm).mono ?_
  rintro e w1 ⟨rfl, hb1, hr1⟩
  have H1 := Lib.hid (rd_below H.out hb1)
  have B1 := Lib.hid hb1
  have R1 := Lib.hid hr1
  clear hb1 hr1
  go_wp2_with fail
  refine (SP.out _ _ _ _ (Nat.le_refl _) (row_rd R1.out (Nat.le_refl _))).mono ?_
  rintro e w2 ⟨rfl, hb2⟩
  have H2 := Lib.hid (rd_below H1.out hb2)
  have B2 := Lib.hid (B1.out.trans (hb2.mono B1.out.size))
  clear hb2
  go_wp2_with fail
  refine (toPulseS_ok H2.out hsm).mono ?_
  rintro e w3 ⟨rfl, hb3, hr3⟩
  have H3 := Lib.hid (rd_below H2.out hb3)
  have B3 := Lib.hid (B2.out.trans (hb3.mono B2.out.size))
  have R3 := Lib.hid hr3
  clear hb3 hr3
  go_wp2_with fail
  refine (IM.out _ _ _ _ (Nat.le_refl _) (row_rd R3.out (Nat.le_refl _))).mono ?_
  rintro e w4 ⟨rfl, hb4⟩
  have H4 := Lib.hid (rd_below H3.out hb4)
  have B4 := Lib.hid (B3.out.trans (hb4.mono B3.out.size))
  have R4 := Lib.hid (row_below R3.out hb4)
  clear hb4
  go_wp2_with fail
  refine (toPulseS_ok H4.out hsm).mono ?_
  rintro e w5 ⟨rfl, hb5, hr5⟩
  have B5 := Lib.hid (B4.out.trans (hb5.mono B4.out.size))
  have E := Lib.hid (eqPulseS_ok (row_rd (row_below R4.out hb5) (Nat.le_refl n) (cap := n)) (row_rd hr5 (Nat.le_refl n) (cap := n)) (fun _ _ => rfl) hsm)
  clear hb5 hr5
  go_wp2_with fail
  refine E.out.mono ?_
  rintro e w6 ⟨rfl, hb6⟩
  have B6 := Lib.hid (B5.out.trans (hb6.mono B5.out.size))
  clear hb6
  go_wp2_with fail
  go_ret
  exact ⟨rfl, B6.out⟩
end Go.Proofs.YtikaabpldnhbkaaDoor
