/- Walks: rounded products and sums of complex numbers, those of the specification. Walks: rounded products and sums of complex numbers, those of the program. -/
import Derived.Test.YtaghfffbhgpalaaBd
import Derived.Test.YtaghfffbhgpalaaKac
import Derived.Laws.ComplexArith
import Derived.Lib.Hide
namespace Go.Proofs.Ytaghfffbhgpalaa
open Go.RowKit

theorem cv_wd {x : Nat} {v : Int} (h : Vl x v) (w : World) : (convert 22 58 (.float .f32 x)).run Try.prog w = .ok (.float .f64 (wd x)) w :=
  run_convert_float_float w 22 58 .f32 .f64 _ _ (by rw [Try.underlying22]; rfl) Try.underlying58 (wd_ok h)

theorem cv_nr {x y : Nat} (h : floatToFloatBits .f64 x .f32 = some y) (w : World) : (convert 58 22 (.float .f64 x)).run Try.prog w = .ok (.float .f32 y) w :=
  run_convert_float_float w 58 22 .f64 .f32 _ _ (by rw [Try.underlying58]; rfl) Try.underlying22 h

theorem l01Exact_any {a b c d : Nat} {va vb vc vd : Int} (k : Int) (ha : Vl a va) (hb : Vl b vb) (hc : Vl c vc) (hd : Vl d vd) (h1 : -126 ≤ k) (h2 : k ≤ 127) (h : (va * vb + vc * vd).natAbs ≤ 2 ^ (k + 298).toNat) (w : World) :
    Calls Try.prog 54 #[.float .f32 a, .float .f32 b, .float .f32 c, .float .f32 d] w fun e w' => e = .returned (.float .f32 (ex a b c d)) ∧ w = w' := by
  have ca := fun w => cv_wd ha w
  have cb := fun w => cv_wd hb w
  have cc := fun w => cv_wd hc w
  have cd := fun w => cv_wd hd w
  have m1 : ∀ t w, (binOp .mul t (.float .f64 (wd a)) (.float .f64 (wd b))).run Try.prog w = .ok (.float .f64 (mu (wd a) (wd b))) w := fun t w => run_float_arith w .mul t .f64 _ _ _ (mu_ok ha hb)
  have m2 : ∀ t w, (binOp .mul t (.float .f64 (wd c)) (.float .f64 (wd d))).run Try.prog w = .ok (.float .f64 (mu (wd c) (wd d))) w := fun t w => run_float_arith w .mul t .f64 _ _ _ (mu_ok hc hd)
  have s : ∀ t w, (binOp .add t (.float .f64 (mu (wd a) (wd b))) (.float .f64 (mu (wd c) (wd d)))).run Try.prog w = .ok (.float .f64 (ad (mu (wd a) (wd b)) (mu (wd c) (wd d)))) w := fun t w => run_float_arith w .add t .f64 _ _ _ (ad_ok ha hb hc hd)
  have n := fun w => cv_nr (ex_ok k ha hb hc hd h1 h2 h).1 w
  generalize ex a b c d = r at *
  generalize ad (mu (wd a) (wd b)) (mu (wd c) (wd d)) = t at *
  generalize mu (wd a) (wd b) = x at *
  generalize mu (wd c) (wd d) = y at *
  clear ha hb hc hd h h1 h2
  generalize wd a = A at *
  generalize wd b = B at *
  generalize wd c = C at *
  generalize wd d = D at *
  go_enter Try.func54, Try.ntmps54
  go_wp2_with (simp only [m1, m2, s])
  go_ret
  exact ⟨rfl, rfl⟩

/-- The parts of a product of complex numbers. -/
def pre (a b c d : Nat) : Nat := ex a c (Op.negFloat .f32 b) d
def pim (a b c d : Nat) : Nat := ex a d b c

/-- Two complex numbers whose product stays below a power of two. -/
def Pb (k : Int) (a b c d : Nat) : Prop := -126 ≤ k ∧ k ≤ 127 ∧ ∃ va vb vc vd, Vl a va ∧ Vl b vb ∧ Vl c vc ∧ Vl d vd ∧ (va * vc + -vb * vd).natAbs ≤ 2 ^ (k + 298).toNat ∧ (va * vd + vb * vc).natAbs ≤ 2 ^ (k + 298).toNat

theorem l01Times_any {a b c d : Nat} {k : Int} (h : Pb k a b c d) (w : World) :
    Calls Try.prog 41 #[.complex .f32 a b, .complex .f32 c d] w fun e w' => e = .returned (.complex .f32 (pre a b c d) (pim a b c d)) ∧ w = w' := by
  obtain ⟨h1, h2, va, vb, vc, vd, ha, hb, hc, hd, g1, g2⟩ := h
  have X := Lib.hid (fun w => l01Exact_any k ha hc (neg_vl hb) hd h1 h2 g1 w)
  have Y := Lib.hid (fun w => l01Exact_any k ha hd hb hc h1 h2 g2 w)
  unfold pre pim
  clear ha hb hc hd g1 g2 h1 h2
  generalize ex a c (Op.negFloat .f32 b) d = x at *
  generalize ex a d b c = y at *
  go_enter Try.func41, Try.ntmps41
  go_wp2_with fail
  refine (X.out _).mono ?_
  rintro e w' ⟨rfl, rfl⟩
  go_wp2_with fail
  refine (Y.out _).mono ?_
  rintro e w' ⟨rfl, rfl⟩
  go_wp2_with fail
  go_ret
  exact ⟨rfl, rfl⟩

/-- Two complex numbers whose sum stays below a power of two. -/
def Sb (k : Int) (a b c d : Nat) : Prop := -126 ≤ k ∧ k ≤ 127 ∧ ∃ va vb vc vd, Vl a va ∧ Vl b vb ∧ Vl c vc ∧ Vl d vd ∧ (va + vc).natAbs ≤ 2 ^ (k + 149).toNat ∧ (vb + vd).natAbs ≤ 2 ^ (k + 149).toNat

theorem l01Add_any {a b c d : Nat} {k : Int} (h : Sb k a b c d) (w : World) :
    Calls Try.prog 40 #[.complex .f32 a b, .complex .f32 c d] w fun e w' => e = .returned (.complex .f32 (sm a c) (sm b d)) ∧ w = w' := by
  obtain ⟨h1, h2, va, vb, vc, vd, ha, hb, hc, hd, g1, g2⟩ := h
  have s1 : ∀ t w, (binOp .add t (.float .f32 a) (.float .f32 c)).run Try.prog w = .ok (.float .f32 (sm a c)) w := fun t w => run_float_arith w .add t .f32 _ _ _ (sm_ok k ha hc h1 h2 g1).1
  have s2 : ∀ t w, (binOp .add t (.float .f32 b) (.float .f32 d)).run Try.prog w = .ok (.float .f32 (sm b d)) w := fun t w => run_float_arith w .add t .f32 _ _ _ (sm_ok k hb hd h1 h2 g2).1
  clear ha hb hc hd g1 g2 h1 h2
  generalize sm a c = x at *
  generalize sm b d = y at *
  go_enter Try.func40, Try.ntmps40
  go_wp2_with (simp only [s1, s2])
  go_ret
  exact ⟨rfl, rfl⟩

end Go.Proofs.Ytaghfffbhgpalaa

namespace Go.Proofs.Ytaghfffbhgpalaa
open Go.RowKit

theorem vl_num {x : Nat} {v : Int} (h : Vl x v) : x < 4294967296 ∧ fin x = true := by
  obtain ⟨s, m, p, rfl, hf, _⟩ := h
  refine ⟨(mag_S s m p).1, ?_⟩
  cases hc : fin (S s m p)
  · obtain ⟨k, hk⟩ := Flt.read_fit Ieee.single (by decide) s m p hf
    obtain ⟨t, h | ⟨u, h⟩⟩ := big_read _ (mag_S s m p).1 hc
    · have : Ieee.single.read (Ieee.single.nearest s m p) = .infinity t := h
      rw [hk] at this; cases this
    · have : Ieee.single.read (Ieee.single.nearest s m p) = .nan t u := h
      rw [hk] at this; cases this
  · rfl

theorem isComplex_any (a b : Nat) (w : World) (ha : a < 4294967296) (hb : b < 4294967296) :
    Calls Try.prog 70 #[.complex .f32 a b] w fun e w' => e = .returned (.bool (fin a && fin b)) ∧ w = w' := by
  have A := Lib.hid (fun w => isNumber_any a w ha)
  have B := Lib.hid (fun w => isNumber_any b w hb)
  clear ha hb
  generalize fin a = x at *
  generalize fin b = y at *
  cases x
  · go_enter Try.func70, Try.ntmps70
    go_wp2_with fail
    refine (A.out _).mono ?_
    rintro e w' ⟨rfl, rfl⟩
    go_wp2_with fail
    go_ret
    exact ⟨rfl, rfl⟩
  · go_enter Try.func70, Try.ntmps70
    go_wp2_with fail
    refine (A.out _).mono ?_
    rintro e w' ⟨rfl, rfl⟩
    go_wp2_with fail
    refine (B.out _).mono ?_
    rintro e w' ⟨rfl, rfl⟩
    go_wp2_with fail
    go_ret
    exact ⟨rfl, rfl⟩

theorem complexOrLimit_ok (a b : Nat) (w : World) (ha : a < 4294967296) (hb : b < 4294967296) (fa : fin a = true) (fb : fin b = true) :
    Calls Try.prog 71 #[.complex .f32 a b] w fun e w' => e = .returned (.tuple #[.complex .f32 a b, .int .i64 0]) ∧ w = w' := by
  have A := Lib.hid (fun w => isComplex_any a b w ha hb)
  rw [fa, fb] at A
  clear ha hb fa fb
  go_enter Try.func71, Try.ntmps71
  go_wp2_with fail
  refine (A.out _).mono ?_
  rintro e w' ⟨rfl, rfl⟩
  go_wp2_with fail
  go_ret2
  exact ⟨rfl, rfl⟩

theorem implMultiply_ok {a b c d : Nat} {k : Int} (h : Pb k a b c d) (w : World) :
    Calls Try.prog 66 #[.complex .f32 a b, .complex .f32 c d] w fun e w' => e = .returned (.tuple #[.complex .f32 (pre a b c d) (pim a b c d), .int .i64 0]) ∧ w = w' := by
  obtain ⟨h1, h2, va, vb, vc, vd, ha, hb, hc, hd, g1, g2⟩ := h
  have A := Lib.hid (fun w => isComplex_any a b w (vl_num ha).1 (vl_num hb).1)
  have B := Lib.hid (fun w => isComplex_any c d w (vl_num hc).1 (vl_num hd).1)
  rw [(vl_num ha).2, (vl_num hb).2] at A
  rw [(vl_num hc).2, (vl_num hd).2] at B
  have x1 := ex_ok k ha hc (neg_vl hb) hd h1 h2 g1
  have x2 := ex_ok k ha hd hb hc h1 h2 g2
  have O := Lib.hid (fun w => complexOrLimit_ok (pre a b c d) (pim a b c d) w x1.2.1 x2.2.1 (bd_fin x1.2 h2) (bd_fin x2.2 h2))
  have c1 : ∀ w, (convert 44 100 (.complex .f32 a b)).run Try.prog w = .ok (.complex .f64 (wd a) (wd b)) w := fun w =>
    run_convert_complex w 44 100 .f32 .f64 a b _ _ (by rw [Try.underlying44]; rfl) Try.underlying100 (by unfold cConvBits; rw [wd_ok ha, wd_ok hb]; rfl)
  have c2 : ∀ w, (convert 44 100 (.complex .f32 c d)).run Try.prog w = .ok (.complex .f64 (wd c) (wd d)) w := fun w =>
    run_convert_complex w 44 100 .f32 .f64 c d _ _ (by rw [Try.underlying44]; rfl) Try.underlying100 (by unfold cConvBits; rw [wd_ok hc, wd_ok hd]; rfl)
  have m : ∀ t w, (binOp .mul t (.complex .f64 (wd a) (wd b)) (.complex .f64 (wd c) (wd d))).run Try.prog w = .ok (.complex .f64 (ad (mu (wd a) (wd c)) (mu (wd (Op.negFloat .f32 b)) (wd d))) (ad (mu (wd a) (wd d)) (mu (wd b) (wd c)))) w := fun t w =>
    run_complex_mul w t _ _ _ _ _ _ (by
      unfold cMulBits
      rw [mu_ok ha hc, mu_ok hb hd, mu_ok ha hd, mu_ok hb hc]
      simp only [Option.bind_eq_bind, Option.bind_some]
      rw [sub_mu ha hc hb hd, ad_ok ha hd hb hc]
      rfl)
  have n : ∀ w, (convert 100 44 (.complex .f64 (ad (mu (wd a) (wd c)) (mu (wd (Op.negFloat .f32 b)) (wd d))) (ad (mu (wd a) (wd d)) (mu (wd b) (wd c))))).run Try.prog w = .ok (.complex .f32 (pre a b c d) (pim a b c d)) w := fun w =>
    run_convert_complex w 100 44 .f64 .f32 _ _ _ _ (by rw [Try.underlying100]; rfl) Try.underlying44 (by unfold cConvBits; rw [x1.1, x2.1]; rfl)
  clear ha hb hc hd g1 g2 h1 h2 x1 x2
  generalize pre a b c d = x at *
  generalize pim a b c d = y at *
  generalize ad (mu (wd a) (wd c)) (mu (wd (Op.negFloat .f32 b)) (wd d)) = X at *
  generalize ad (mu (wd a) (wd d)) (mu (wd b) (wd c)) = Y at *
  generalize wd a = wa at *
  generalize wd b = wb at *
  generalize wd c = wc at *
  generalize wd d = wd' at *
  go_enter Try.func66, Try.ntmps66
  go_wp2_with fail
  refine (A.out _).mono ?_
  rintro e w' ⟨rfl, rfl⟩
  go_wp2_with fail
  refine (B.out _).mono ?_
  rintro e w' ⟨rfl, rfl⟩
  go_wp2_with (first | simp only [m] | fail)
  refine (O.out _).mono ?_
  rintro e w' ⟨rfl, rfl⟩
  go_wp2_with fail
  go_ret2
  exact ⟨rfl, rfl⟩

theorem implAdd_ok {a b c d : Nat} {k : Int} (h : Sb k a b c d) (w : World) :
    Calls Try.prog 67 #[.complex .f32 a b, .complex .f32 c d] w fun e w' => e = .returned (.tuple #[.complex .f32 (sm a c) (sm b d), .int .i64 0]) ∧ w = w' := by
  obtain ⟨h1, h2, va, vb, vc, vd, ha, hb, hc, hd, g1, g2⟩ := h
  have A := Lib.hid (fun w => isComplex_any a b w (vl_num ha).1 (vl_num hb).1)
  have B := Lib.hid (fun w => isComplex_any c d w (vl_num hc).1 (vl_num hd).1)
  rw [(vl_num ha).2, (vl_num hb).2] at A
  rw [(vl_num hc).2, (vl_num hd).2] at B
  have x1 := sm_ok k ha hc h1 h2 g1
  have x2 := sm_ok k hb hd h1 h2 g2
  have O := Lib.hid (fun w => complexOrLimit_ok (sm a c) (sm b d) w x1.2.1 x2.2.1 (bd_fin x1.2 h2) (bd_fin x2.2 h2))
  have m : ∀ t w, (binOp .add t (.complex .f32 a b) (.complex .f32 c d)).run Try.prog w = .ok (.complex .f32 (sm a c) (sm b d)) w := fun t w =>
    run_complex_sum w .add (.inl rfl) t .f32 _ _ _ _ _ _ (by unfold cSumBits; rw [x1.1, x2.1]; rfl)
  clear ha hb hc hd g1 g2 h1 h2 x1 x2
  generalize sm a c = x at *
  generalize sm b d = y at *
  go_enter Try.func67, Try.ntmps67
  go_wp2_with fail
  refine (A.out _).mono ?_
  rintro e w' ⟨rfl, rfl⟩
  go_wp2_with fail
  refine (B.out _).mono ?_
  rintro e w' ⟨rfl, rfl⟩
  go_wp2_with (first | simp only [m] | fail)
  refine (O.out _).mono ?_
  rintro e w' ⟨rfl, rfl⟩
  go_wp2_with fail
  go_ret2
  exact ⟨rfl, rfl⟩

/-- Two products that stay below a power of two, and their sum. -/
def Ab (k : Int) (a b c d a' b' c' d' : Nat) : Prop := (∃ j, Pb j a b c d) ∧ (∃ j, Pb j a' b' c' d') ∧ Sb k (pre a b c d) (pim a b c d) (pre a' b' c' d') (pim a' b' c' d')

theorem addProducts_ok {a b c d a' b' c' d' : Nat} {k : Int} (h : Ab k a b c d a' b' c' d') (w : World) :
    Calls Try.prog 62 #[.complex .f32 a b, .complex .f32 c d, .complex .f32 a' b', .complex .f32 c' d'] w fun e w' =>
      e = .returned (.tuple #[.complex .f32 (sm (pre a b c d) (pre a' b' c' d')) (sm (pim a b c d) (pim a' b' c' d')), .int .i64 0]) ∧ w = w' := by
  obtain ⟨⟨j, h1⟩, ⟨i, h2⟩, h3⟩ := h
  have A := Lib.hid (fun w => implMultiply_ok h1 w)
  have B := Lib.hid (fun w => implMultiply_ok h2 w)
  have C := Lib.hid (fun w => implAdd_ok h3 w)
  clear h1 h2 h3
  generalize pre a b c d = x at *
  generalize pim a b c d = y at *
  generalize pre a' b' c' d' = x' at *
  generalize pim a' b' c' d' = y' at *
  generalize sm x x' = u at *
  generalize sm y y' = v at *
  go_enter Try.func62, Try.ntmps62
  go_wp2_with fail
  refine (A.out _).mono ?_
  rintro e w' ⟨rfl, rfl⟩
  go_wp2_with fail
  refine (B.out _).mono ?_
  rintro e w' ⟨rfl, rfl⟩
  go_wp2_with fail
  refine (C.out _).mono ?_
  rintro e w' ⟨rfl, rfl⟩
  go_wp2_with fail
  go_ret2
  exact ⟨rfl, rfl⟩

end Go.Proofs.Ytaghfffbhgpalaa
