/- The law of FnExactDriftsOf, whole. -/
import Derived.Test.YtmaohbddmafifaaLd
import Derived.Test.YtmaohbddmafifaaDw
namespace Go.Proofs.Ytmaohbddmafifaa
open Go.RowKit

theorem drift_max {n : Nat} {P : Nat → Pu} : (if seqB n P then n + 1 else 0) ≤ 64 := by
  cases hs : seqB n P
  · simp
  · have h60 : n ≤ 60 := by unfold seqB at hs; simp only [Bool.and_eq_true, decide_eq_true_eq] at hs; exact hs.2
    simp; omega

set_option maxRecDepth 100000 in
theorem law_drifts_all_big {W : World} {v : Value} {n : Nat} {P : Nat → Pu} (h : Rd W v n P) (hn : n ≤ maxLen) (hbig : ¬ (n : Int) ≤ 1048576) :
    Calls Try.prog 8 #[v] W fun e w' => e = .returned (.bool true) ∧ Below W.heap.size W w' := by
  obtain ⟨a, cap, hv, _⟩ := id h
  have hn2 : n < 9223372036854775808 := by simp [maxLen] at hn; omega
  have Z := Lib.hid (fun w => szPulseS_any a n cap 1048576 w (by omega) (by omega) hn2)
  rw [if_neg hbig] at Z
  subst hv
  clear h hn hbig
  go_enter Try.func8, Try.ntmps8
  go_wp2_with fail
  refine (Z.out _).mono ?_
  rintro e w' ⟨rfl, rfl⟩
  go_wp2_with fail
  go_ret
  exact ⟨rfl, Below.refl _ _⟩


theorem law_drifts_all {W : World} {v : Value} {n : Nat} {P : Nat → Pu} (h : Rd W v n P) (hn : n ≤ maxLen) :
    Calls Try.prog 8 #[v] W fun e w' => e = .returned (.bool true) ∧ Below W.heap.size W w' := by
  by_cases hbig : (n : Int) ≤ 1048576
  · have hsm : n ≤ 1048576 := by omega
    exact law_drifts h hsm drift_max (fun i hi => drift_fin i hi) (specDrifts hsm) (implDrifts hsm)
  · exact law_drifts_all_big h hn hbig
end Go.Proofs.Ytmaohbddmafifaa
