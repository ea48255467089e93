/- The law of DriftsOf: a list of pulses there, numbers back. -/
import Derived.Test.YtmaohbddmafifaaOf
namespace Go.Proofs.Ytmaohbddmafifaa
open Go.RowKit

set_option maxRecDepth 100000 in
set_option maxHeartbeats 4000000 in
theorem law_drifts {W : World} {v : Value} {n m : Nat} {P : Nat → Pu} {X : Nat → Nat} {code : Int} (h : Rd W v n P) (hsm : n ≤ 1048576) (hm : m ≤ 64) (hX : ∀ i, i < m → X i < 4294967296 ∧ fin (X i) = true) (SP0 : GivesV 60 27 n P m (fun i => .float .f32 (X i)) code) (IM0 : GivesV 60 28 n P m (fun i => .float .f32 (X i)) code) :
    Calls Try.prog 8 #[v] W fun e w' => e = .returned (.bool true) ∧ Below W.heap.size W w' := by
  obtain ⟨a, cap, hv, _⟩ := id h
  have Z := Lib.hid (fun w => szPulseS_any a n cap 1048576 w (by omega) (by omega) (show n < 9223372036854775808 by omega))
  rw [if_pos (by omega)] at Z
  have hl0 : (0 : Int) ≤ 1048576 - n := by omega
  have H0 := Lib.hid h
  have SP := Lib.hid SP0
  have IM := Lib.hid IM0
  subst hv
  clear h SP0 IM0
  go_enter Try.func8, Try.ntmps8
  go_wp2_with fail
  refine (Z.out _).mono ?_
  rintro e w' ⟨rfl, rfl⟩
  go_wp2_with fail
  refine (toPulseS_ok H0.out hsm).mono ?_
  rintro e w1 ⟨rfl, hb, hr⟩
  have B1 := Lib.hid hb
  have R1 := Lib.hid (row_rd hr (Nat.le_refl n) (cap := n))
  clear hb hr
  go_wp2_with fail
  refine (SP.out _ _ _ _ (Nat.le_refl _) R1.out).mono ?_
  rintro e w2 ⟨w0, rfl, hb, ho⟩
  have B2 := Lib.hid (B1.out.trans (hb.mono B1.out.size))
  have O2 := Lib.hid (ownv_wide ho B1.out.size)
  clear hb ho R1 B1
  go_wp2_with fail
  refine (toPulseS_ok (rd_below H0.out B2.out) hsm).mono ?_
  rintro e w3 ⟨rfl, hb, hr⟩
  have X3 := Lib.hid (row_own hr (Nat.le_refl n) (cap := n))
  have z23 : w2.heap.size ≤ w3.heap.size := hb.size
  have O3 := Lib.hid (ownv_below O2.out hb)
  have B3 := Lib.hid (B2.out.trans (hb.mono B2.out.size))
  clear hb hr
  go_wp2_with fail
  refine (IM.out _ _ _ _ (Nat.le_refl _) (own_rd X3.out)).mono ?_
  rintro e w4 ⟨g4, rfl, hb, ho⟩
  have G4 := Lib.hid ho
  have O4 := Lib.hid (ownv_below O3.out hb)
  have X4 := Lib.hid (own_below X3.out hb)
  have B4 := Lib.hid (B3.out.trans (hb.mono B3.out.size))
  clear hb ho
  go_wp2_with fail
  refine (eqFloat32S_ok (ownv_rd G4.out) (ownv_rd O4.out) hm hX).mono ?_
  rintro e w5 ⟨rfl, hb⟩
  have O5 := Lib.hid (ownv_below O4.out hb)
  have X5 := Lib.hid (own_below X4.out hb)
  have G5 := Lib.hid (ownv_below G4.out hb)
  have B5 := Lib.hid (B4.out.trans (hb.mono B4.out.size))
  clear hb
  go_wp2_with fail
  refine (toPulseS_ok (rd_below H0.out B5.out) hsm).mono ?_
  rintro e w6 ⟨rfl, hb, hr⟩
  have Y6 := Lib.hid (row_own hr (Nat.le_refl n) (cap := n))
  have O6 := Lib.hid (ownv_below O5.out hb)
  have X6 := Lib.hid (own_below X5.out hb)
  have G6 := Lib.hid (ownv_below G5.out hb)
  have B6 := Lib.hid (B5.out.trans (hb.mono B5.out.size))
  clear hb hr
  go_wp2_with fail
  refine (eqPulseS_ok (own_rd X6.out) (own_rd Y6.out) (fun _ _ => rfl) hsm).mono ?_
  rintro e w7 ⟨rfl, hb⟩
  have O7 := Lib.hid (ownv_below O6.out hb)
  have X7 := Lib.hid (own_below X6.out hb)
  have G7 := Lib.hid (ownv_below G6.out hb)
  have Y7 := Lib.hid (own_below Y6.out hb)
  have B7 := Lib.hid (B6.out.trans (hb.mono B6.out.size))
  clear hb
  go_wp2_with fail
  refine (mark_own X7.out hsm (show 1 ≤ 4 by omega)).mono ?_
  rintro e w8 ⟨rfl, ho, hs⟩
  have O8 := Lib.hid (ownv_save O7.out hs (by first | exact .inl (by omega) | exact .inr (by omega)))
  have X8 := Lib.hid ho
  have G8 := Lib.hid (ownv_save G7.out hs (by first | exact .inl (by omega) | exact .inr (by omega)))
  have B8 := Lib.hid (hs.below B7.out B2.out.size)
  clear ho hs
  go_wp2_with fail
  refine (eqFloat32S_ok (ownv_rd G8.out) (ownv_rd O8.out) hm hX).mono ?_
  rintro e w9 ⟨rfl, hb⟩
  have O9 := Lib.hid (ownv_below O8.out hb)
  have X9 := Lib.hid (own_below X8.out hb)
  have G9 := Lib.hid (ownv_below G8.out hb)
  have B9 := Lib.hid (B8.out.trans (hb.mono B8.out.size))
  clear hb
  go_wp2_with fail
  refine (mark_Float32S G9.out hm (show 1 ≤ 4 by omega)).mono ?_
  rintro e w10 ⟨rfl, ho, hs⟩
  have O10 := Lib.hid (ownv_save O9.out hs (by first | exact .inl (by omega) | exact .inr (by omega)))
  have X10 := Lib.hid (own_save X9.out hs (by first | exact .inl (by omega) | exact .inr (by omega)))
  have G10 := Lib.hid ho
  have B10 := Lib.hid (hs.below B9.out B3.out.size)
  clear ho hs
  go_wp2_with fail
  refine (held_Float32S G10.out hm (show 1 ≤ 4 by omega)).mono ?_
  rintro e w' ⟨rfl, rfl⟩
  go_wp2_with fail
  refine (toPulseS_ok (rd_below H0.out B10.out) hsm).mono ?_
  rintro e w11 ⟨rfl, hb, hr⟩
  have V11 := Lib.hid (row_own hr (Nat.le_refl n) (cap := n))
  have O11 := Lib.hid (ownv_below O10.out hb)
  have X11 := Lib.hid (own_below X10.out hb)
  have G11 := Lib.hid (ownv_below G10.out hb)
  have B11 := Lib.hid (B10.out.trans (hb.mono B10.out.size))
  clear hb hr
  go_wp2_with fail
  refine (IM.out _ _ _ _ (Nat.le_refl _) (own_rd V11.out)).mono ?_
  rintro e w12 ⟨g12, rfl, hb, ho⟩
  have U12 := Lib.hid ho
  have O12 := Lib.hid (ownv_below O11.out hb)
  have X12 := Lib.hid (own_below X11.out hb)
  have G12 := Lib.hid (ownv_below G11.out hb)
  have V12 := Lib.hid (own_below V11.out hb)
  have B12 := Lib.hid (B11.out.trans (hb.mono B11.out.size))
  clear hb ho
  go_wp2_with fail
  refine (eqFloat32S_ok (ownv_rd U12.out) (ownv_rd O12.out) hm hX).mono ?_
  rintro e w13 ⟨rfl, hb⟩
  have O13 := Lib.hid (ownv_below O12.out hb)
  have X13 := Lib.hid (own_below X12.out hb)
  have G13 := Lib.hid (ownv_below G12.out hb)
  have U13 := Lib.hid (ownv_below U12.out hb)
  have B13 := Lib.hid (B12.out.trans (hb.mono B12.out.size))
  clear hb
  go_wp2_with fail
  refine (held_Float32S G13.out hm (show 1 ≤ 4 by omega)).mono ?_
  rintro e w' ⟨rfl, rfl⟩
  go_wp2_with fail
  go_ret
  exact ⟨rfl, B13.out⟩
end Go.Proofs.Ytmaohbddmafifaa
