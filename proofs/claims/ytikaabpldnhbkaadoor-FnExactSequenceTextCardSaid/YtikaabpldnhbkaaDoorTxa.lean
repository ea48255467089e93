/- The law of FnExactSequenceText, whole. -/
import Derived.Test.YtikaabpldnhbkaaDoorTx
import Derived.Test.YtikaabpldnhbkaaDoorTj
import Derived.Test.YtikaabpldnhbkaaDoorTu
namespace Go.Proofs.YtikaabpldnhbkaaDoor
open Go.RowKit

set_option maxRecDepth 100000 in
theorem law_text_big {W : World} {v : Value} {n : Nat} {P : Nat → Pu} (h : Rd W v n P) (hn : n ≤ maxLen) (hbig : ¬ (n : Int) ≤ 1048576) :
    Calls Tryd.prog 3 #[v] W fun e w' => e = .returned (.bool true) ∧ Below W.heap.size W w' := by
  obtain ⟨a, cap, hv, _⟩ := id h
  have hn2 : n < 9223372036854775808 := by simp [maxLen] at hn; omega
  have Z := Lib.hid (fun w => szPulseS_any a n cap 1048576 w (by omega) (by omega) hn2)
  rw [if_neg hbig] at Z
  subst hv
  clear h hn hbig
  go_enter Tryd.func3, Tryd.ntmps3
  go_wp2_with fail
  refine (Z.out _).mono ?_
  rintro e w' ⟨rfl, rfl⟩
  go_wp2_with fail
  go_ret
  exact ⟨rfl, Below.refl _ _⟩

theorem law_text_all {W : World} {v : Value} {n : Nat} {P : Nat → Pu} (h : Rd W v n P) (hn : n ≤ maxLen) :
    Calls Tryd.prog 3 #[v] W fun e w' => e = .returned (.bool true) ∧ Below W.heap.size W w' := by
  by_cases hbig : (n : Int) ≤ 1048576
  · have hsm : n ≤ 1048576 := by omega
    exact law_text h hsm (specText hsm) (implText hsm)
  · exact law_text_big h hn hbig
end Go.Proofs.YtikaabpldnhbkaaDoor
