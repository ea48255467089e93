/- Walks: tables of parts. Walks: the table of parts (see T2m), beside areParts. Walks: two floats held against each other. Walks: tables held against each other. -/
import Derived.Test.YtaghfffbhgpalaaKac
import Derived.Test.YtaghfffbhgpalaaKad
import Derived.Test.YtaghfffbhgpalaaT1
import Derived.Test.YtaghfffbhgpalaaWA
import Derived.Laws.ComplexArith
namespace Go.Proofs.Ytaghfffbhgpalaa
open Go.RowKit

def noTable : Value := .agg #[.complex .f32 0 0, .complex .f32 0 0, .complex .f32 0 0, .complex .f32 0 0]

/-- The table of parts, as a value. -/
def tableOf (a b c d : Nat) : Value := .agg #[.complex .f32 a (Op.negFloat .f32 d), .complex .f32 (Op.negFloat .f32 c) (Op.negFloat .f32 b), .complex .f32 c (Op.negFloat .f32 b), .complex .f32 a d]

set_option maxHeartbeats 1000000 in
theorem turnOfParts_any (a b c d : Nat) (w : World) :
    Calls Try.prog 51 #[.agg #[.float .f32 a, .float .f32 b, .float .f32 c, .float .f32 d]] w fun e w' => e = .returned (tableOf a b c d) ∧ Below w.heap.size w w' := by
  unfold tableOf
  go_enter Try.func51, Try.ntmps51
  go_wp2
  go_quiet (fail)
  go_wp2
  refine bodyPost_ret (v := .agg #[.complex .f32 a (Op.negFloat .f32 d), .complex .f32 (Op.negFloat .f32 c) (Op.negFloat .f32 b), .complex .f32 c (Op.negFloat .f32 b), .complex .f32 a d]) (by simp [results, Try.results51, go_sem]) rfl ⟨rfl, ?_⟩
  all_goals repeat first
    | exact Below.refl _ _
    | refine Below.setCell ?_ ?_ _
    | refine Below.alloc ?_ ?_ _
    | refine below_drewN ?_ _
  all_goals first | omega | (simp; done) | (simp; omega)

set_option maxHeartbeats 1000000 in
theorem l03Table_any (a b c d : Nat) (w : World) :
    Calls Try.prog 34 #[.float .f32 a, .float .f32 b, .float .f32 c, .float .f32 d] w fun e w' => e = .returned (tableOf a b c d) ∧ Below w.heap.size w w' := by
  unfold tableOf
  go_enter Try.func34, Try.ntmps34
  go_wp2
  refine bodyPost_ret (v := .agg #[.complex .f32 a (Op.negFloat .f32 d), .complex .f32 (Op.negFloat .f32 c) (Op.negFloat .f32 b), .complex .f32 c (Op.negFloat .f32 b), .complex .f32 a d]) (by simp [results, Try.results34, go_sem]) rfl ⟨rfl, ?_⟩
  all_goals repeat first
    | exact Below.refl _ _
    | refine Below.setCell ?_ ?_ _
    | refine Below.alloc ?_ ?_ _
    | refine below_drewN ?_ _
  all_goals first | omega | (simp; done) | (simp; omega)

theorem neg_facts (x : Nat) (hx : x < 4294967296) : Op.negFloat .f32 x < 4294967296 ∧ fin (Op.negFloat .f32 x) = fin x := by
  have h1 := word_split x hx
  have h2 := mag_lt x
  have h3 : Op.negFloat .f32 x = Ieee.single.word (!(x / 2147483648 % 2 == 1)) (mag x) := by
    conv => lhs; rw [h1]
    exact Flt.flip_word Ieee.single _ (mag x) (by rw [Flt.s_sw]; exact h2)
  rw [h3]
  have h4 : mag (Ieee.single.word (!(x / 2147483648 % 2 == 1)) (mag x)) = mag x := by
    generalize (!(x / 2147483648 % 2 == 1)) = s
    generalize hm : mag x = m at *
    unfold mag Ieee.Format.word
    rw [Flt.s_sw]
    cases s <;> simp <;> omega
  constructor
  · generalize (!(x / 2147483648 % 2 == 1)) = s
    unfold Ieee.Format.word
    rw [Flt.s_sw]
    cases s <;> simp <;> omega
  · unfold fin
    rw [h4]

end Go.Proofs.Ytaghfffbhgpalaa



namespace Go.Proofs.Ytaghfffbhgpalaa
open Go.RowKit

theorem order_self (s : Bool) (m : Nat) (p : Int) (h : Flt.Fit Ieee.double m p) : FloatKind.f64.format.order (D s m p) (D s m p) = some .eq := by
  have := Flt.order_fit Ieee.double (by decide) s s m m p p p h h (Int.le_refl _) (Int.le_refl _)
  rw [cmp_eq rfl] at this
  exact this

theorem zero_quo (s : Bool) (p : Int) : floatBits .quo .f64 4607182418800017408 (D s 0 p) = some (Ieee.double.word s Ieee.double.infRung) := by
  rw [D_zero]; cases s <;> decide +kernel

theorem same_D (s : Bool) (m : Nat) (p : Int) (w : World) (h : Flt.Fit Ieee.double m p) :
    Calls Try.prog 31 #[.float .f64 (D s m p), .float .f64 (D s m p)] w fun e w' => e = .returned (.bool true) ∧ w = w' := by
  have ho := order_self s m p h
  have h0 := ord0D s m p h
  by_cases hm : m = 0
  · subst hm
    have hz : (FloatKind.f64.format.order (D s 0 p) 0 == some .eq) = true := by rw [h0, cmp_eq (by cases s <;> rfl)]; rfl
    have hq : ∀ t w, (binOp .quo t (.float .f64 4607182418800017408) (.float .f64 (D s 0 p))).run Try.prog w = .ok (.float .f64 (Ieee.double.word s Ieee.double.infRung)) w := fun t w => run_float_arith w .quo t .f64 _ _ _ (zero_quo s p)
    clear h0
    generalize D s 0 p = y at *
    generalize Ieee.double.word s Ieee.double.infRung = z at *
    go_enter Try.func31, Try.ntmps31
    go_wp2
    go_ret
    exact ⟨rfl, rfl⟩
  · have hz : (FloatKind.f64.format.order (D s m p) 0 == some .eq) = false := by
      rw [h0]
      cases s
      · rw [cmp_gt (by show (0 : Int) < m; omega)]; rfl
      · rw [cmp_lt (by show -(m : Int) < 0; omega)]; rfl
    clear h0
    generalize D s m p = y at *
    go_enter Try.func31, Try.ntmps31
    go_wp2
    go_ret
    exact ⟨rfl, rfl⟩

/-- A finite float32, made wide, is the same as itself. -/
theorem wide_same (x : Nat) (hx : x < 4294967296) (hf : fin x = true) :
    ∃ y, floatToFloatBits .f32 x .f64 = some y ∧ ∀ w, Calls Try.prog 31 #[.float .f64 y, .float .f64 y] w fun e w' => e = .returned (.bool true) ∧ w = w' := by
  obtain ⟨s, m, p, rfl, h, _⟩ := fin_cases x hx hf
  exact ⟨D s m p, widen h, fun w => same_D s m p w (fit_wide h)⟩

theorem same_word (x : Nat) (hx : x < 4294967296) (h : fin x = true) : ∃ y, (∀ w, (convert 22 58 (.float .f32 x)).run Try.prog w = .ok (.float .f64 y) w) ∧ ∀ w, Calls Try.prog 31 #[.float .f64 y, .float .f64 y] w fun e w' => e = .returned (.bool true) ∧ w = w' := by
  obtain ⟨y, hy, hs⟩ := wide_same x hx h
  exact ⟨y, fun w => run_convert_float_float w 22 58 .f32 .f64 _ _ (by rw [Try.underlying22]; rfl) Try.underlying58 hy, hs⟩

end Go.Proofs.Ytaghfffbhgpalaa

namespace Go.Proofs.Ytaghfffbhgpalaa
open Go.RowKit

def Num (x : Nat) : Prop := x < 4294967296 ∧ fin x = true

end Go.Proofs.Ytaghfffbhgpalaa
