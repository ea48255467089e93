/- Walks: inverses, as the program has them. -/
import Derived.Test.YtikaabpldnhbkaaDoorEc
import Derived.Test.YtikaabpldnhbkaaDoorIi
import Derived.OwnWalk
namespace Go.Proofs.YtikaabpldnhbkaaDoor
open Go.RowKit

theorem But.drew {w w' : World} {B : Nat} (h : But w w' B) : But w w'.drew B := ⟨h.os, h.tape, h.output, h.size, h.block⟩

theorem row_drew {w : World} {B N : Nat} {P : Nat → Pu} (h : Row w B N P) : Row w.drew B N P := row_block h rfl

/-- What lies in a list of n pulses of which k pairs have been exchanged. -/
def half (n k : Nat) (P : Nat → Pu) (m : Nat) : Pu := if m < k then P (n - 1 - m) else if n - 1 - k < m ∧ m < n then P (n - 1 - m) else P m

theorem half_next {n k j : Nat} {P : Nat → Pu} (hj : j = n - 1 - k) (hk : 2 * k + 1 < n) (m : Nat) : (if m = j then P k else if m = k then P j else half n k P m) = half n (k + 1) P m := by
  unfold half
  by_cases h1 : m = j
  · rw [if_pos h1, if_neg (by omega), if_pos (by omega), show n - 1 - m = k by omega]
  · rw [if_neg h1]
    by_cases h2 : m = k
    · rw [if_pos h2, if_pos (by omega), show n - 1 - m = j by omega]
    · rw [if_neg h2]
      by_cases h3 : m < k
      · rw [if_pos h3, if_pos (by omega)]
      · rw [if_neg h3, if_neg (show ¬ m < k + 1 by omega)]
        by_cases h4 : n - 1 - k < m ∧ m < n
        · rw [if_pos h4, if_pos (by omega)]
        · rw [if_neg h4, if_neg (by omega)]

theorem half_next' {n k j : Nat} {P : Nat → Pu} (hj : j = n - 1 - k) (hk : 2 * k + 1 < n) (m : Nat) : (if m = k then P j else if m = j then P k else half n k P m) = half n (k + 1) P m := by
  rw [← half_next hj hk m]
  by_cases h1 : m = j
  · rw [if_neg (by omega), if_pos h1, if_pos h1]
  · rw [if_neg h1, if_neg h1]

theorem half_all {n k : Nat} {P : Nat → Pu} (hk : n ≤ 2 * k + 1) {m : Nat} (hm : m < n) (hk2 : 2 * k ≤ n) : half n k P m = P (n - 1 - m) := by
  unfold half
  by_cases h3 : m < k
  · rw [if_pos h3]
  · rw [if_neg h3]
    by_cases h4 : n - 1 - k < m ∧ m < n
    · rw [if_pos h4]
    · rw [if_neg h4, show n - 1 - m = m by omega]
