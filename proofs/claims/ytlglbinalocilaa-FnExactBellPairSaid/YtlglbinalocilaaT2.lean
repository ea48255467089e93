/- Walks: tables of parts. -/
import Derived.Test.YtlglbinalocilaaT1
namespace Go.Proofs.Ytlglbinalocilaa
open Go.RowKit

/-- The table of parts, as a value. -/
def tableOf (a b c d : Nat) : Value := .agg #[.complex .f32 a (Op.negFloat .f32 d), .complex .f32 (Op.negFloat .f32 c) (Op.negFloat .f32 b), .complex .f32 c (Op.negFloat .f32 b), .complex .f32 a d]

set_option maxHeartbeats 1000000 in
theorem turnOfParts_any (a b c d : Nat) (w : World) :
    Calls Try.prog 102 #[.agg #[.float .f32 a, .float .f32 b, .float .f32 c, .float .f32 d]] w fun e w' => e = .returned (tableOf a b c d) ∧ Below w.heap.size w w' := by
  unfold tableOf
  go_enter Try.func102, Try.ntmps102
  go_wp2
  go_quiet (fail)
  go_wp2
  refine bodyPost_ret (v := .agg #[.complex .f32 a (Op.negFloat .f32 d), .complex .f32 (Op.negFloat .f32 c) (Op.negFloat .f32 b), .complex .f32 c (Op.negFloat .f32 b), .complex .f32 a d]) (by simp [results, Try.results102, go_sem]) rfl ⟨rfl, ?_⟩
  all_goals repeat first
    | exact Below.refl _ _
    | refine Below.setCell ?_ ?_ _
    | refine Below.alloc ?_ ?_ _
    | refine below_drewN ?_ _
  all_goals first | omega | (simp; done) | (simp; omega)

set_option maxHeartbeats 1000000 in
theorem l03Table_any (a b c d : Nat) (w : World) :
    Calls Try.prog 75 #[.float .f32 a, .float .f32 b, .float .f32 c, .float .f32 d] w fun e w' => e = .returned (tableOf a b c d) ∧ Below w.heap.size w w' := by
  unfold tableOf
  go_enter Try.func75, Try.ntmps75
  go_wp2
  refine bodyPost_ret (v := .agg #[.complex .f32 a (Op.negFloat .f32 d), .complex .f32 (Op.negFloat .f32 c) (Op.negFloat .f32 b), .complex .f32 c (Op.negFloat .f32 b), .complex .f32 a d]) (by simp [results, Try.results75, go_sem]) rfl ⟨rfl, ?_⟩
  all_goals repeat first
    | exact Below.refl _ _
    | refine Below.setCell ?_ ?_ _
    | refine Below.alloc ?_ ?_ _
    | refine below_drewN ?_ _
  all_goals first | omega | (simp; done) | (simp; omega)

theorem neg_facts (x : Nat) (hx : x < 4294967296) : Op.negFloat .f32 x < 4294967296 ∧ fin (Op.negFloat .f32 x) = fin x := by
  have h1 := word_split x hx
  have h2 := mag_lt x
  have h3 : Op.negFloat .f32 x = Ieee.single.word (!(x / 2147483648 % 2 == 1)) (mag x) := by
    conv => lhs; rw [h1]
    exact Flt.flip_word Ieee.single _ (mag x) (by rw [Flt.s_sw]; exact h2)
  rw [h3]
  have h4 : mag (Ieee.single.word (!(x / 2147483648 % 2 == 1)) (mag x)) = mag x := by
    generalize (!(x / 2147483648 % 2 == 1)) = s
    generalize hm : mag x = m at *
    unfold mag Ieee.Format.word
    rw [Flt.s_sw]
    cases s <;> simp <;> omega
  constructor
  · generalize (!(x / 2147483648 % 2 == 1)) = s
    unfold Ieee.Format.word
    rw [Flt.s_sw]
    cases s <;> simp <;> omega
  · unfold fin
    rw [h4]
end Go.Proofs.Ytlglbinalocilaa
