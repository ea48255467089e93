/- The law of FnExactEchoOf, whole. -/
import Derived.Test.YtmaohbddmafifaaLe
import Derived.Test.YtmaohbddmafifaaEi
namespace Go.Proofs.Ytmaohbddmafifaa
open Go.RowKit

set_option maxRecDepth 100000 in
theorem law_echo_all_big {W : World} {v : Value} {n : Nat} {P : Nat → Pu} (h : Rd W v n P) (hn : n ≤ maxLen) (hbig : ¬ (n : Int) ≤ 1048576) :
    Calls Try.prog 5 #[v] W fun e w' => e = .returned (.bool true) ∧ Below W.heap.size W w' := by
  obtain ⟨a, cap, hv, _⟩ := id h
  have hn2 : n < 9223372036854775808 := by simp [maxLen] at hn; omega
  have Z := Lib.hid (fun w => szPulseS_any a n cap 1048576 w (by omega) (by omega) hn2)
  rw [if_neg hbig] at Z
  subst hv
  clear h hn hbig
  go_enter Try.func5, Try.ntmps5
  go_wp2_with fail
  refine (Z.out _).mono ?_
  rintro e w' ⟨rfl, rfl⟩
  go_wp2_with fail
  go_ret
  exact ⟨rfl, Below.refl _ _⟩


theorem law_echo_all {W : World} {v : Value} {n : Nat} {P : Nat → Pu} (h : Rd W v n P) (hn : n ≤ maxLen) :
    Calls Try.prog 5 #[v] W fun e w' => e = .returned (.bool true) ∧ Below W.heap.size W w' := by
  by_cases hbig : (n : Int) ≤ 1048576
  · have hsm : n ≤ 1048576 := by omega
    exact law_echo h hsm (by split <;> omega) (specEcho hsm) (implEcho hsm)
  · exact law_echo_all_big h hn hbig
end Go.Proofs.Ytmaohbddmafifaa
