/- Walks: rounded products and sums of complex numbers, those of the specification. -/
import Derived.Test.YtlglbinalocilaaBd
import Derived.Test.YtlglbinalocilaaW1
import Derived.Test.YtlglbinalocilaaMem
import Derived.Laws.ComplexArith
import Derived.Lib.Hide
namespace Go.Proofs.Ytlglbinalocilaa
open Go.RowKit

theorem cv_wd {x : Nat} {v : Int} (h : Vl x v) (w : World) : (convert 38 83 (.float .f32 x)).run Try.prog w = .ok (.float .f64 (wd x)) w :=
  run_convert_float_float w 38 83 .f32 .f64 _ _ (by rw [Try.underlying38]; rfl) Try.underlying83 (wd_ok h)

theorem cv_nr {x y : Nat} (h : floatToFloatBits .f64 x .f32 = some y) (w : World) : (convert 83 38 (.float .f64 x)).run Try.prog w = .ok (.float .f32 y) w :=
  run_convert_float_float w 83 38 .f64 .f32 _ _ (by rw [Try.underlying83]; rfl) Try.underlying38 h

theorem l01Exact_any {a b c d : Nat} {va vb vc vd : Int} (k : Int) (ha : Vl a va) (hb : Vl b vb) (hc : Vl c vc) (hd : Vl d vd) (h1 : -126 ≤ k) (h2 : k ≤ 127) (h : (va * vb + vc * vd).natAbs ≤ 2 ^ (k + 298).toNat) (w : World) :
    Calls Try.prog 98 #[.float .f32 a, .float .f32 b, .float .f32 c, .float .f32 d] w fun e w' => e = .returned (.float .f32 (ex a b c d)) ∧ w = w' := by
  have ca := fun w => cv_wd ha w
  have cb := fun w => cv_wd hb w
  have cc := fun w => cv_wd hc w
  have cd := fun w => cv_wd hd w
  have m1 : ∀ t w, (binOp .mul t (.float .f64 (wd a)) (.float .f64 (wd b))).run Try.prog w = .ok (.float .f64 (mu (wd a) (wd b))) w := fun t w => run_float_arith w .mul t .f64 _ _ _ (mu_ok ha hb)
  have m2 : ∀ t w, (binOp .mul t (.float .f64 (wd c)) (.float .f64 (wd d))).run Try.prog w = .ok (.float .f64 (mu (wd c) (wd d))) w := fun t w => run_float_arith w .mul t .f64 _ _ _ (mu_ok hc hd)
  have s : ∀ t w, (binOp .add t (.float .f64 (mu (wd a) (wd b))) (.float .f64 (mu (wd c) (wd d)))).run Try.prog w = .ok (.float .f64 (ad (mu (wd a) (wd b)) (mu (wd c) (wd d)))) w := fun t w => run_float_arith w .add t .f64 _ _ _ (ad_ok ha hb hc hd)
  have n := fun w => cv_nr (ex_ok k ha hb hc hd h1 h2 h).1 w
  generalize ex a b c d = r at *
  generalize ad (mu (wd a) (wd b)) (mu (wd c) (wd d)) = t at *
  generalize mu (wd a) (wd b) = x at *
  generalize mu (wd c) (wd d) = y at *
  clear ha hb hc hd h h1 h2
  generalize wd a = A at *
  generalize wd b = B at *
  generalize wd c = C at *
  generalize wd d = D at *
  go_enter Try.func98, Try.ntmps98
  go_wp2_with (simp only [m1, m2, s])
  go_ret
  exact ⟨rfl, rfl⟩

/-- The parts of a product of complex numbers. -/
def pre (a b c d : Nat) : Nat := ex a c (Op.negFloat .f32 b) d
def pim (a b c d : Nat) : Nat := ex a d b c

/-- Two complex numbers whose product stays below a power of two. -/
def Pb (k : Int) (a b c d : Nat) : Prop := -126 ≤ k ∧ k ≤ 127 ∧ ∃ va vb vc vd, Vl a va ∧ Vl b vb ∧ Vl c vc ∧ Vl d vd ∧ (va * vc + -vb * vd).natAbs ≤ 2 ^ (k + 298).toNat ∧ (va * vd + vb * vc).natAbs ≤ 2 ^ (k + 298).toNat

theorem l01Times_any {a b c d : Nat} {k : Int} (h : Pb k a b c d) (w : World) :
    Calls Try.prog 77 #[.complex .f32 a b, .complex .f32 c d] w fun e w' => e = .returned (.complex .f32 (pre a b c d) (pim a b c d)) ∧ w = w' := by
  obtain ⟨h1, h2, va, vb, vc, vd, ha, hb, hc, hd, g1, g2⟩ := h
  have X := Lib.hid (fun w => l01Exact_any k ha hc (neg_vl hb) hd h1 h2 g1 w)
  have Y := Lib.hid (fun w => l01Exact_any k ha hd hb hc h1 h2 g2 w)
  unfold pre pim
  clear ha hb hc hd g1 g2 h1 h2
  generalize ex a c (Op.negFloat .f32 b) d = x at *
  generalize ex a d b c = y at *
  go_enter Try.func77, Try.ntmps77
  go_wp2_with fail
  refine (X.out _).mono ?_
  rintro e w' ⟨rfl, rfl⟩
  go_wp2_with fail
  refine (Y.out _).mono ?_
  rintro e w' ⟨rfl, rfl⟩
  go_wp2_with fail
  go_ret
  exact ⟨rfl, rfl⟩

/-- Two complex numbers whose sum stays below a power of two. -/
def Sb (k : Int) (a b c d : Nat) : Prop := -126 ≤ k ∧ k ≤ 127 ∧ ∃ va vb vc vd, Vl a va ∧ Vl b vb ∧ Vl c vc ∧ Vl d vd ∧ (va + vc).natAbs ≤ 2 ^ (k + 149).toNat ∧ (vb + vd).natAbs ≤ 2 ^ (k + 149).toNat

theorem l01Add_any {a b c d : Nat} {k : Int} (h : Sb k a b c d) (w : World) :
    Calls Try.prog 76 #[.complex .f32 a b, .complex .f32 c d] w fun e w' => e = .returned (.complex .f32 (sm a c) (sm b d)) ∧ w = w' := by
  obtain ⟨h1, h2, va, vb, vc, vd, ha, hb, hc, hd, g1, g2⟩ := h
  have s1 : ∀ t w, (binOp .add t (.float .f32 a) (.float .f32 c)).run Try.prog w = .ok (.float .f32 (sm a c)) w := fun t w => run_float_arith w .add t .f32 _ _ _ (sm_ok k ha hc h1 h2 g1).1
  have s2 : ∀ t w, (binOp .add t (.float .f32 b) (.float .f32 d)).run Try.prog w = .ok (.float .f32 (sm b d)) w := fun t w => run_float_arith w .add t .f32 _ _ _ (sm_ok k hb hd h1 h2 g2).1
  clear ha hb hc hd g1 g2 h1 h2
  generalize sm a c = x at *
  generalize sm b d = y at *
  go_enter Try.func76, Try.ntmps76
  go_wp2_with (simp only [s1, s2])
  go_ret
  exact ⟨rfl, rfl⟩
end Go.Proofs.Ytlglbinalocilaa
