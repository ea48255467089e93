/- Walks: four numbers, copied and looked at. Walks: tables of parts. Walks: the table of parts (see T2m), beside areParts. -/
import Derived.Test.YtaghfffbhgpalaaKaf
import Derived.Test.YtaghfffbhgpalaaKal
namespace Go.Proofs.Ytaghfffbhgpalaa
open Go.RowKit

/-- Four numbers held against each other. -/
theorem eql_four (a b c d a' b' c' d' : Nat) (w : World) :
    (binOp .eql 79 (.agg #[.float .f32 a, .float .f32 b, .float .f32 c, .float .f32 d]) (.agg #[.float .f32 a', .float .f32 b', .float .f32 c', .float .f32 d'])).run Try.prog w =
      .ok (.bool ((FloatKind.f32.format.order a a' == some .eq) && ((FloatKind.f32.format.order b b' == some .eq) && ((FloatKind.f32.format.order c c' == some .eq) && (FloatKind.f32.format.order d d' == some .eq))))) w := by
  rw [run_eql_struct]
  rw [run_equalIn_array w 9999 4 1 79 22 _ _ Try.underlying79 (by kernel_rfl)]
  have h0 : ∀ (x y z u : Nat) (w : World), (part 22 #[.float .f32 x, .float .f32 y, .float .f32 z, .float .f32 u] (0 * 1)).run Try.prog w = .ok (.float .f32 x) w := fun _ _ _ _ _ => by kernel_rfl
  have h1 : ∀ (x y z u : Nat) (w : World), (part 22 #[.float .f32 x, .float .f32 y, .float .f32 z, .float .f32 u] (1 * 1)).run Try.prog w = .ok (.float .f32 y) w := fun _ _ _ _ _ => by kernel_rfl
  have h2 : ∀ (x y z u : Nat) (w : World), (part 22 #[.float .f32 x, .float .f32 y, .float .f32 z, .float .f32 u] (2 * 1)).run Try.prog w = .ok (.float .f32 z) w := fun _ _ _ _ _ => by kernel_rfl
  have h3 : ∀ (x y z u : Nat) (w : World), (part 22 #[.float .f32 x, .float .f32 y, .float .f32 z, .float .f32 u] (3 * 1)).run Try.prog w = .ok (.float .f32 u) w := fun _ _ _ _ _ => by kernel_rfl
  have he : ∀ (x y : Nat) (w : World), (Op.equalIn 9999 22 (.float .f32 x) (.float .f32 y)).run Try.prog w = .ok (FloatKind.f32.format.order x y == some .eq) w := fun x y w => run_equalIn_float w 9998 22 .f32 .f32 x y Try.underlying22
  show ((eqElems 9999 22 1 _ _ [0, 1, 2, 3]).run Try.prog w).andThen _ = _
  simp only [eqElems, Sem.run_bind, h0, h1, h2, h3, Result.andThen_ok, he, Sem.run_ite, Sem.run_pure]
  cases (FloatKind.f32.format.order a a' == some .eq) <;> cases (FloatKind.f32.format.order b b' == some .eq) <;> cases (FloatKind.f32.format.order c c' == some .eq) <;> cases (FloatKind.f32.format.order d d' == some .eq) <;> rfl

end Go.Proofs.Ytaghfffbhgpalaa

namespace Go.Proofs.Ytaghfffbhgpalaa
open Go.RowKit

def noTable : Value := .agg #[.complex .f32 0 0, .complex .f32 0 0, .complex .f32 0 0, .complex .f32 0 0]

/-- The table of parts, as a value. -/
def tableOf (a b c d : Nat) : Value := .agg #[.complex .f32 a (Op.negFloat .f32 d), .complex .f32 (Op.negFloat .f32 c) (Op.negFloat .f32 b), .complex .f32 c (Op.negFloat .f32 b), .complex .f32 a d]

set_option maxHeartbeats 1000000 in
theorem turnOfParts_any (a b c d : Nat) (w : World) :
    Calls Try.prog 51 #[.agg #[.float .f32 a, .float .f32 b, .float .f32 c, .float .f32 d]] w fun e w' => e = .returned (tableOf a b c d) ∧ Below w.heap.size w w' := by
  unfold tableOf
  go_enter Try.func51, Try.ntmps51
  go_wp2
  go_quiet (fail)
  go_wp2
  refine bodyPost_ret (v := .agg #[.complex .f32 a (Op.negFloat .f32 d), .complex .f32 (Op.negFloat .f32 c) (Op.negFloat .f32 b), .complex .f32 c (Op.negFloat .f32 b), .complex .f32 a d]) (by simp [results, Try.results51, go_sem]) rfl ⟨rfl, ?_⟩
  all_goals repeat first
    | exact Below.refl _ _
    | refine Below.setCell ?_ ?_ _
    | refine Below.alloc ?_ ?_ _
    | refine below_drewN ?_ _
  all_goals first | omega | (simp; done) | (simp; omega)

set_option maxHeartbeats 1000000 in
theorem l03Table_any (a b c d : Nat) (w : World) :
    Calls Try.prog 34 #[.float .f32 a, .float .f32 b, .float .f32 c, .float .f32 d] w fun e w' => e = .returned (tableOf a b c d) ∧ Below w.heap.size w w' := by
  unfold tableOf
  go_enter Try.func34, Try.ntmps34
  go_wp2
  refine bodyPost_ret (v := .agg #[.complex .f32 a (Op.negFloat .f32 d), .complex .f32 (Op.negFloat .f32 c) (Op.negFloat .f32 b), .complex .f32 c (Op.negFloat .f32 b), .complex .f32 a d]) (by simp [results, Try.results34, go_sem]) rfl ⟨rfl, ?_⟩
  all_goals repeat first
    | exact Below.refl _ _
    | refine Below.setCell ?_ ?_ _
    | refine Below.alloc ?_ ?_ _
    | refine below_drewN ?_ _
  all_goals first | omega | (simp; done) | (simp; omega)

theorem neg_facts (x : Nat) (hx : x < 4294967296) : Op.negFloat .f32 x < 4294967296 ∧ fin (Op.negFloat .f32 x) = fin x := by
  have h1 := word_split x hx
  have h2 := mag_lt x
  have h3 : Op.negFloat .f32 x = Ieee.single.word (!(x / 2147483648 % 2 == 1)) (mag x) := by
    conv => lhs; rw [h1]
    exact Flt.flip_word Ieee.single _ (mag x) (by rw [Flt.s_sw]; exact h2)
  rw [h3]
  have h4 : mag (Ieee.single.word (!(x / 2147483648 % 2 == 1)) (mag x)) = mag x := by
    generalize (!(x / 2147483648 % 2 == 1)) = s
    generalize hm : mag x = m at *
    unfold mag Ieee.Format.word
    rw [Flt.s_sw]
    cases s <;> simp <;> omega
  constructor
  · generalize (!(x / 2147483648 % 2 == 1)) = s
    unfold Ieee.Format.word
    rw [Flt.s_sw]
    cases s <;> simp <;> omega
  · unfold fin
    rw [h4]

end Go.Proofs.Ytaghfffbhgpalaa


