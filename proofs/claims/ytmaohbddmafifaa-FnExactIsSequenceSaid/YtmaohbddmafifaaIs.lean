/- The law of IsSequence. -/
import Derived.Test.YtmaohbddmafifaaP4
import Derived.Test.YtmaohbddmafifaaIi
namespace Go.Proofs.Ytmaohbddmafifaa
open Go.RowKit

theorem specIs_ok {w : World} {v : Value} {n : Nat} {P : Nat → Pu} (h : Rd w v n P) (hn : n ≤ 1048576) :
    Calls Try.prog 10 #[v] w fun e w' => e = .returned (.bool (seqB n P)) ∧ w = w' := by
  have H := Lib.hid (l05Is_ok h hn)
  obtain ⟨a, cap, rfl, _⟩ := h
  go_enter Try.func10, Try.ntmps10
  go_wp2_with fail
  refine H.out.mono ?_
  rintro e w' ⟨rfl, rfl⟩
  go_wp2_with fail
  go_ret
  exact ⟨rfl, rfl⟩

set_option maxRecDepth 100000 in
set_option maxHeartbeats 1000000 in
theorem law_is {W : World} {v : Value} {n : Nat} {P : Nat → Pu} (h : Rd W v n P) (hn : n ≤ maxLen) :
    Calls Try.prog 3 #[v] W fun e w' => e = .returned (.bool true) ∧ Below W.heap.size W w' := by
  obtain ⟨a, cap, hv, _⟩ := id h
  have hn2 : n < 9223372036854775808 := by simp [maxLen] at hn; omega
  have Z := Lib.hid (fun w => szPulseS_any a n cap 1048576 w (by omega) (by omega) hn2)
  by_cases hbig : (n : Int) ≤ 1048576
  · rw [if_pos hbig] at Z
    have hsm : n ≤ 1048576 := by omega
    have hl0 : (0 : Int) ≤ 1048576 - n := by omega
    have H := Lib.hid h
    have IM := Lib.hid (fun (w : World) (v : Value) (g : Rd w v n P) => implIs_ok g hsm)
    have SP := Lib.hid (fun (w : World) (v : Value) (g : Rd w v n P) => specIs_ok g hsm)
    generalize seqB n P = b at *
    subst hv
    clear h hn
    go_enter Try.func3, Try.ntmps3
    go_wp2_with fail
    refine (Z.out _).mono ?_
    rintro e w' ⟨rfl, rfl⟩
    go_wp2_with fail
    refine (toPulseS_ok H.out hsm).mono ?_
    rintro e w1 ⟨rfl, hb1, hr1⟩
    have H1 := Lib.hid (rd_below H.out hb1)
    have B1 := Lib.hid hb1
    have R1 := Lib.hid hr1
    clear hb1 hr1
    go_wp2_with fail
    refine (SP.out _ _ (row_rd R1.out (Nat.le_refl _))).mono ?_
    rintro e w' ⟨rfl, rfl⟩
    go_wp2_with fail
    refine (toPulseS_ok H1.out hsm).mono ?_
    rintro e w2 ⟨rfl, hb2, hr2⟩
    have H2 := Lib.hid (rd_below H1.out hb2)
    have B2 := Lib.hid (B1.out.trans (hb2.mono B1.out.size))
    have R2 := Lib.hid hr2
    clear hb2 hr2
    go_wp2_with fail
    refine (IM.out _ _ (row_rd R2.out (Nat.le_refl _))).mono ?_
    rintro e w3 ⟨rfl, hb3⟩
    have H3 := Lib.hid (rd_below H2.out hb3)
    have B3 := Lib.hid (B2.out.trans (hb3.mono B2.out.size))
    have R3 := Lib.hid (row_below R2.out hb3)
    clear hb3
    go_wp2_with fail
    refine (toPulseS_ok H3.out hsm).mono ?_
    rintro e w4 ⟨rfl, hb4, hr4⟩
    have B4 := Lib.hid (B3.out.trans (hb4.mono B3.out.size))
    have E := Lib.hid (eqPulseS_ok (row_rd (row_below R3.out hb4) (Nat.le_refl n) (cap := n)) (row_rd hr4 (Nat.le_refl n) (cap := n)) (fun _ _ => rfl) hsm)
    clear hb4 hr4
    go_wp2_with fail
    refine E.out.mono ?_
    rintro e w5 ⟨rfl, hb5⟩
    have B5 := Lib.hid (B4.out.trans (hb5.mono B4.out.size))
    clear hb5
    go_wp2_with fail
    go_ret
    exact ⟨rfl, B5.out⟩
  · rw [if_neg hbig] at Z
    have H := Lib.hid h
    subst hv
    clear h hn hbig
    go_enter Try.func3, Try.ntmps3
    go_wp2_with fail
    refine (Z.out _).mono ?_
    rintro e w' ⟨rfl, rfl⟩
    go_wp2_with fail
    go_ret
    exact ⟨rfl, Below.refl _ _⟩
end Go.Proofs.Ytmaohbddmafifaa
