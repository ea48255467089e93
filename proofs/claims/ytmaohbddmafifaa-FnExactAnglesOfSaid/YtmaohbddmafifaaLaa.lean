/- The law of FnExactAnglesOf, whole. -/
import Derived.Test.YtmaohbddmafifaaLa
import Derived.Test.YtmaohbddmafifaaAi
namespace Go.Proofs.Ytmaohbddmafifaa
open Go.RowKit

set_option maxRecDepth 100000 in
theorem law_angles_all_big {W : World} {v : Value} {n : Nat} {P : Nat → Pu} (h : Rd W v n P) (hn : n ≤ maxLen) (hbig : ¬ (n : Int) ≤ 1048576) :
    Calls Try.prog 7 #[v] W fun e w' => e = .returned (.bool true) ∧ Below W.heap.size W w' := by
  obtain ⟨a, cap, hv, _⟩ := id h
  have hn2 : n < 9223372036854775808 := by simp [maxLen] at hn; omega
  have Z := Lib.hid (fun w => szPulseS_any a n cap 1048576 w (by omega) (by omega) hn2)
  rw [if_neg hbig] at Z
  subst hv
  clear h hn hbig
  go_enter Try.func7, Try.ntmps7
  go_wp2_with fail
  refine (Z.out _).mono ?_
  rintro e w' ⟨rfl, rfl⟩
  go_wp2_with fail
  go_ret
  exact ⟨rfl, Below.refl _ _⟩


theorem law_angles_all {W : World} {v : Value} {n : Nat} {P : Nat → Pu} (h : Rd W v n P) (hn : n ≤ maxLen) :
    Calls Try.prog 7 #[v] W fun e w' => e = .returned (.bool true) ∧ Below W.heap.size W w' := by
  by_cases hbig : (n : Int) ≤ 1048576
  · have hsm : n ≤ 1048576 := by omega
    exact law_angles h hsm (by split <;> omega) (specAngles hsm) (implAngles hsm)
  · exact law_angles_all_big h hn hbig
end Go.Proofs.Ytmaohbddmafifaa
