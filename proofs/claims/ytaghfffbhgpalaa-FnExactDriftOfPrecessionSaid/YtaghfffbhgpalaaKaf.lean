/- Walks: memory, numbers and what is none. Walks: rounded products and sums of complex numbers, those of the specification. -/
import Derived.Test.YtaghfffbhgpalaaKae
import Derived.Test.YtaghfffbhgpalaaBd
import Derived.RegionTactic
import Derived.LoopTactic
import Derived.Below
import Derived.Lib.Hide
import Derived.Deep.QuietTactic
import Derived.BigQuiet
import Derived.Laws.ComplexArith
namespace Go.Proofs.Ytaghfffbhgpalaa
open Go.RowKit

@[go_sem] theorem run_store_float (P : Program) (w : World) (a : Addr) (m : Mode) (k : FloatKind) (n : Nat) : (store a (.float k n) m).run P w = stored P w a (.float k n) m := run_store P w a _ m rfl

@[go_sem] theorem run_store_complex (P : Program) (w : World) (a : Addr) (m : Mode) (k : FloatKind) (x y : Nat) : (store a (.complex k x y) m).run P w = stored P w a (.complex k x y) m := run_store P w a _ m rfl

@[go_sem] theorem run_neg_float (P : Program) (w : World) (k : FloatKind) (b : Nat) : (Op.unary .neg (.float k b)).run P w = .ok (.float k (Op.negFloat k b)) w := rfl

@[go_sem] theorem run_neg_complex (P : Program) (w : World) (k : FloatKind) (a b : Nat) : (Op.unary .neg (.complex k a b)).run P w = .ok (.complex k (Op.negFloat k a) (Op.negFloat k b)) w := rfl

/-- x - x: 0 of a number, else what is not a number. -/
theorem less_any (x : Nat) (w : World) (t : TypeId) (hx : x < 4294967296) :
    ∃ z n, (binOp .sub t (.float .f32 x) (.float .f32 x)).run Try.prog w = .ok (.float .f32 z) (w.drewN n) ∧ (FloatKind.f32.format.order z 0 == some .eq) = fin x := by
  cases h : fin x
  · obtain ⟨b, hn, hop⟩ := run_float_nan (P := Try.prog) w .sub t .f32 x x (.inr (.inl rfl)) (less_none x hx h)
    exact ⟨b, 1, hop, by rw [nan_order hn]; rfl⟩
  · exact ⟨0, 0, run_float_arith w .sub t .f32 _ _ _ (less_self x hx h), by decide +kernel⟩

theorem bcell {W w1 : World} (hb : Below W.heap.size W w1) : (∀ b o, b < W.heap.size → w1.cell? ⟨b, o, none⟩ = W.cell? ⟨b, o, none⟩) ∧ (∀ b o, b < W.heap.size → w1.frozen? ⟨b, o, none⟩ = W.frozen? ⟨b, o, none⟩) :=
  ⟨fun b o h => hb.cell (p := ⟨b, o, none⟩) h, fun b o h => hb.frozen (p := ⟨b, o, none⟩) h⟩

theorem fine_any (x : Nat) (w : World) (hx : x < 4294967296) :
    Calls Try.prog 22 #[.float .f32 x] w fun e w' => e = .returned (.bool (fin x)) ∧ ∃ n, w.drewN n = w' := by
  cases h : fin x
  · exact (fine_no x w hx h).mono fun e w' ⟨a, b⟩ => ⟨a, 1, b⟩
  · exact (fine_yes x w hx h).mono fun e w' ⟨a, b⟩ => ⟨a, 0, b⟩

/-- A call that leaves the world alone, in a quiet walk that began behind draws. -/
theorem still_call {f : FuncId} {args : Array Value} {v : Value} (c : ∀ W : World, Calls Try.prog f args W fun e w' => e = .returned v ∧ W = w') (w : World) (a n : Nat) :
    Calls Try.prog f args (w.drewN (a + n)) fun e w' => e = .returned v ∧ ∃ m, w' = w.drewN (a + m) := by
  refine (c (w.drewN (a + n))).mono ?_
  rintro e w' ⟨he, rfl⟩
  exact ⟨he, n, rfl⟩

theorem below_step {B : Nat} {a W w' : World} (h : Below W.heap.size W w') (h1 : Below B a W) (h2 : B ≤ W.heap.size) : Below B a w' := h1.trans (h.mono h2)

/-- A call that makes memory of its own, behind others and behind draws. -/
theorem below_call {B : Nat} {a W w' : World} {n : Nat} (h : Below (W.drewN n).heap.size (W.drewN n) w') (h1 : Below B a W) (h2 : B ≤ a.heap.size) : Below B a w' :=
  below_step h (below_drewN h1 n) (Nat.le_trans h2 h1.size)

end Go.Proofs.Ytaghfffbhgpalaa

namespace Go.Proofs.Ytaghfffbhgpalaa
open Go.RowKit

theorem cv_wd {x : Nat} {v : Int} (h : Vl x v) (w : World) : (convert 22 58 (.float .f32 x)).run Try.prog w = .ok (.float .f64 (wd x)) w :=
  run_convert_float_float w 22 58 .f32 .f64 _ _ (by rw [Try.underlying22]; rfl) Try.underlying58 (wd_ok h)

theorem cv_nr {x y : Nat} (h : floatToFloatBits .f64 x .f32 = some y) (w : World) : (convert 58 22 (.float .f64 x)).run Try.prog w = .ok (.float .f32 y) w :=
  run_convert_float_float w 58 22 .f64 .f32 _ _ (by rw [Try.underlying58]; rfl) Try.underlying22 h

theorem l01Exact_any {a b c d : Nat} {va vb vc vd : Int} (k : Int) (ha : Vl a va) (hb : Vl b vb) (hc : Vl c vc) (hd : Vl d vd) (h1 : -126 ≤ k) (h2 : k ≤ 127) (h : (va * vb + vc * vd).natAbs ≤ 2 ^ (k + 298).toNat) (w : World) :
    Calls Try.prog 54 #[.float .f32 a, .float .f32 b, .float .f32 c, .float .f32 d] w fun e w' => e = .returned (.float .f32 (ex a b c d)) ∧ w = w' := by
  have ca := fun w => cv_wd ha w
  have cb := fun w => cv_wd hb w
  have cc := fun w => cv_wd hc w
  have cd := fun w => cv_wd hd w
  have m1 : ∀ t w, (binOp .mul t (.float .f64 (wd a)) (.float .f64 (wd b))).run Try.prog w = .ok (.float .f64 (mu (wd a) (wd b))) w := fun t w => run_float_arith w .mul t .f64 _ _ _ (mu_ok ha hb)
  have m2 : ∀ t w, (binOp .mul t (.float .f64 (wd c)) (.float .f64 (wd d))).run Try.prog w = .ok (.float .f64 (mu (wd c) (wd d))) w := fun t w => run_float_arith w .mul t .f64 _ _ _ (mu_ok hc hd)
  have s : ∀ t w, (binOp .add t (.float .f64 (mu (wd a) (wd b))) (.float .f64 (mu (wd c) (wd d)))).run Try.prog w = .ok (.float .f64 (ad (mu (wd a) (wd b)) (mu (wd c) (wd d)))) w := fun t w => run_float_arith w .add t .f64 _ _ _ (ad_ok ha hb hc hd)
  have n := fun w => cv_nr (ex_ok k ha hb hc hd h1 h2 h).1 w
  generalize ex a b c d = r at *
  generalize ad (mu (wd a) (wd b)) (mu (wd c) (wd d)) = t at *
  generalize mu (wd a) (wd b) = x at *
  generalize mu (wd c) (wd d) = y at *
  clear ha hb hc hd h h1 h2
  generalize wd a = A at *
  generalize wd b = B at *
  generalize wd c = C at *
  generalize wd d = D at *
  go_enter Try.func54, Try.ntmps54
  go_wp2_with (simp only [m1, m2, s])
  go_ret
  exact ⟨rfl, rfl⟩

/-- The parts of a product of complex numbers. -/
def pre (a b c d : Nat) : Nat := ex a c (Op.negFloat .f32 b) d
def pim (a b c d : Nat) : Nat := ex a d b c

/-- Two complex numbers whose product stays below a power of two. -/
def Pb (k : Int) (a b c d : Nat) : Prop := -126 ≤ k ∧ k ≤ 127 ∧ ∃ va vb vc vd, Vl a va ∧ Vl b vb ∧ Vl c vc ∧ Vl d vd ∧ (va * vc + -vb * vd).natAbs ≤ 2 ^ (k + 298).toNat ∧ (va * vd + vb * vc).natAbs ≤ 2 ^ (k + 298).toNat

theorem l01Times_any {a b c d : Nat} {k : Int} (h : Pb k a b c d) (w : World) :
    Calls Try.prog 41 #[.complex .f32 a b, .complex .f32 c d] w fun e w' => e = .returned (.complex .f32 (pre a b c d) (pim a b c d)) ∧ w = w' := by
  obtain ⟨h1, h2, va, vb, vc, vd, ha, hb, hc, hd, g1, g2⟩ := h
  have X := Lib.hid (fun w => l01Exact_any k ha hc (neg_vl hb) hd h1 h2 g1 w)
  have Y := Lib.hid (fun w => l01Exact_any k ha hd hb hc h1 h2 g2 w)
  unfold pre pim
  clear ha hb hc hd g1 g2 h1 h2
  generalize ex a c (Op.negFloat .f32 b) d = x at *
  generalize ex a d b c = y at *
  go_enter Try.func41, Try.ntmps41
  go_wp2_with fail
  refine (X.out _).mono ?_
  rintro e w' ⟨rfl, rfl⟩
  go_wp2_with fail
  refine (Y.out _).mono ?_
  rintro e w' ⟨rfl, rfl⟩
  go_wp2_with fail
  go_ret
  exact ⟨rfl, rfl⟩

/-- Two complex numbers whose sum stays below a power of two. -/
def Sb (k : Int) (a b c d : Nat) : Prop := -126 ≤ k ∧ k ≤ 127 ∧ ∃ va vb vc vd, Vl a va ∧ Vl b vb ∧ Vl c vc ∧ Vl d vd ∧ (va + vc).natAbs ≤ 2 ^ (k + 149).toNat ∧ (vb + vd).natAbs ≤ 2 ^ (k + 149).toNat

theorem l01Add_any {a b c d : Nat} {k : Int} (h : Sb k a b c d) (w : World) :
    Calls Try.prog 40 #[.complex .f32 a b, .complex .f32 c d] w fun e w' => e = .returned (.complex .f32 (sm a c) (sm b d)) ∧ w = w' := by
  obtain ⟨h1, h2, va, vb, vc, vd, ha, hb, hc, hd, g1, g2⟩ := h
  have s1 : ∀ t w, (binOp .add t (.float .f32 a) (.float .f32 c)).run Try.prog w = .ok (.float .f32 (sm a c)) w := fun t w => run_float_arith w .add t .f32 _ _ _ (sm_ok k ha hc h1 h2 g1).1
  have s2 : ∀ t w, (binOp .add t (.float .f32 b) (.float .f32 d)).run Try.prog w = .ok (.float .f32 (sm b d)) w := fun t w => run_float_arith w .add t .f32 _ _ _ (sm_ok k hb hd h1 h2 g2).1
  clear ha hb hc hd g1 g2 h1 h2
  generalize sm a c = x at *
  generalize sm b d = y at *
  go_enter Try.func40, Try.ntmps40
  go_wp2_with (simp only [s1, s2])
  go_ret
  exact ⟨rfl, rfl⟩

end Go.Proofs.Ytaghfffbhgpalaa
