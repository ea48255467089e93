/- The powers of a step: below a power of two, all 300 of them. A list of pulses that came in. Lists of pulses of the call's own: where they lie, marked and held. -/
import Derived.Test.YtaghfffbhgpalaaKbl
import Derived.Test.YtaghfffbhgpalaaG5
import Derived.Test.YtaghfffbhgpalaaKbk
import Derived.ProofKit
import Derived.OpenShut
import Derived.ChangeOld
import Derived.Deep.Slices
import Derived.Deep.Strs
namespace Go.Proofs.Ytaghfffbhgpalaa
open Go.RowKit

/-- Both columns' squares are at most B. -/
def CS (t : Tb) (B : Nat) : Prop := ∃ a0 a1 b0 b1 c0 c1 d0 d1 : Int, Vl t.a.re a0 ∧ Vl t.a.im a1 ∧ Vl t.b.re b0 ∧ Vl t.b.im b1 ∧ Vl t.c.re c0 ∧ Vl t.c.im c1 ∧ Vl t.d.re d0 ∧ Vl t.d.im d1 ∧
  a0 * a0 + a1 * a1 + c0 * c0 + c1 * c1 ≤ (B : Int) ∧ b0 * b0 + b1 * b1 + d0 * d0 + d1 * d1 ≤ (B : Int)

theorem vl_bd {x : Nat} {v : Int} {k : Int} (h : Vl x v) (k1 : -126 ≤ k) (k2 : k ≤ 127) (hb : v.natAbs ≤ 2 ^ (k + 149).toNat) : Bd k x := by
  obtain ⟨s, m, p, rfl, hf, rfl⟩ := h
  have hl := fitS_low hf
  rw [Int.natAbs_mul, sv_nat, Int.natAbs_pow] at hb
  refine bd_mk s m p k (-149) k1 k2 hl (by omega) ?_
  have e : (p - -149).toNat = (p + 149).toNat := by congr 1
  have e2 : (k - -149).toNat = (k + 149).toNat := by congr 1
  rw [e, e2]
  exact hb

theorem root_le {v : Int} {B X : Nat} (h : v * v ≤ (B : Int)) (hB : B ≤ X * X) : v.natAbs ≤ X := by
  have h1 : v.natAbs * v.natAbs ≤ X * X := by
    have := nat_sq v
    have h2 : ((v.natAbs * v.natAbs : Nat) : Int) ≤ (B : Int) := by push_cast; omega
    omega
  exact Nat.mul_self_le_mul_self_iff.1 h1

theorem cs_tb {t : Tb} {B : Nat} (h : CS t B) (hB : B ≤ 2 ^ ((59 : Int) + 149).toNat * 2 ^ ((59 : Int) + 149).toNat) : TB ((59 : Nat) : Int) t := by
  obtain ⟨a0, a1, b0, b1, c0, c1, d0, d1, va0, va1, vb0, vb1, vc0, vc1, vd0, vd1, h1, h2⟩ := h
  have s0 := sq_nonneg_int a0
  have s1 := sq_nonneg_int a1
  have s2 := sq_nonneg_int b0
  have s3 := sq_nonneg_int b1
  have s4 := sq_nonneg_int c0
  have s5 := sq_nonneg_int c1
  have s6 := sq_nonneg_int d0
  have s7 := sq_nonneg_int d1
  have f : ∀ {x : Nat} {v : Int}, Vl x v → v * v ≤ (B : Int) → Bd ((59 : Nat) : Int) x := fun hv hq => vl_bd hv (by omega) (by omega) (root_le hq hB)
  exact ⟨⟨f va0 (by omega), f va1 (by omega)⟩, ⟨f vb0 (by omega), f vb1 (by omega)⟩, ⟨f vc0 (by omega), f vc1 (by omega)⟩, ⟨f vd0 (by omega), f vd1 (by omega)⟩⟩

/-- The bound of the powers. -/
def bnd : Nat → Nat
  | 0 => 2 * (ZZ * ZZ)
  | k + 1 => (5 * bnd k + 117000) / 4 + 1

theorem bnd_up (k : Nat) : bnd k ≤ bnd (k + 1) := by
  show bnd k ≤ (5 * bnd k + 117000) / 4 + 1
  omega

theorem bnd_mono {j k : Nat} (h : j ≤ k) : bnd j ≤ bnd k := by
  induction h with
  | refl => exact Nat.le_refl _
  | step _ ih => exact Nat.le_trans ih (bnd_up _)

theorem bnd_all (k : Nat) (hk : k ≤ 300) : bnd k ≤ 2 ^ ((59 : Int) + 149).toNat * 2 ^ ((59 : Int) + 149).toNat := by
  refine Nat.le_trans (bnd_mono hk) ?_
  exact of_decide_eq_true (by decide +kernel : decide (bnd 300 ≤ 2 ^ ((59 : Int) + 149).toNat * 2 ^ ((59 : Int) + 149).toNat) = true)

/-- The parts of a step's table in numbers. -/
structure Nrm (t : Tb) (w x y z : Int) : Prop where
  a : Vl t.a.re w
  b : Vl t.a.im (-z)
  c : Vl t.b.re (-y)
  d : Vl t.b.im (-x)
  e : Vl t.c.re y
  f : Vl t.c.im (-x)
  g : Vl t.d.re w
  h : Vl t.d.im z
  n : 5 * (w * w + x * x + y * y + z * z) ≤ 6 * (ZI * ZI)

theorem nrm_of {a b c h : Nat} (ha : Num a) (hb : Num b) (hc : Num c) (hh : Num h) (H : finO (qO a b c h) = true) : ∃ w x y z, Nrm (stepTb a b c h) w x y z := by
  obtain ⟨k, kk, sq, q, d, g, f, s, x, y, z, S⟩ := stp_of ha hb hc hh H
  obtain ⟨w, vx, vy, vz, h1, h2, h3, h4, h5⟩ := stp_norm ha hb hc hh S
  rw [(stp_tb S).1]
  exact ⟨w, vx, vy, vz, h1, neg_vl h4, neg_vl h3, neg_vl h2, h3, neg_vl h2, h1, h4, h5⟩

theorem cs_step {t : Tb} {w x y z : Int} (h : Nrm t w x y z) : CS t (bnd 0) := by
  refine ⟨w, -z, -y, -x, y, -x, w, z, h.a, h.b, h.c, h.d, h.e, h.f, h.g, h.h, ?_, ?_⟩
  all_goals
    have hn := h.n
    have e : ((bnd 0 : Nat) : Int) = 2 * (ZI * ZI) := by
      show ((2 * (ZZ * ZZ) : Nat) : Int) = _
      unfold ZI
      push_cast
      rfl
    have hz := sq_nonneg_int ZI
    rw [e, Int.neg_mul_neg, Int.neg_mul_neg]
    generalize ZI * ZI = zz at *
    generalize w * w = ww at *
    generalize x * x = xx at *
    generalize y * y = yy at *
    generalize z * z = z2 at *
    omega

theorem bd_155 {x : Nat} {v : Int} (h : Vl x v) (hb : Bd ((6 : Nat) : Int) x) : v.natAbs ≤ 2 ^ 155 := bd_vl h hb (by omega) (by omega)

theorem bd_209 {x : Nat} {v : Int} (h : Vl x v) (hb : Bd ((59 : Nat) : Int) x) : v.natAbs ≤ 2 ^ 209 :=
  Nat.le_trans (bd_vl h hb (by omega) (by omega)) (Nat.pow_le_pow_right (by omega) (by decide))

theorem cs_arith {U A : Int} {B : Nat} (hg : 4 * U ≤ 5 * A + 117000) (hA : A ≤ (B : Int)) : U ≤ (((5 * B + 117000) / 4 + 1 : Nat) : Int) := by
  omega

theorem cs_mul {t p : Tb} {w x y z : Int} {B : Nat} (hn : Nrm t w x y z) (ht : TB ((6 : Nat) : Int) t) (hp : CS p B) (hB : B ≤ 2 ^ ((59 : Int) + 149).toNat * 2 ^ ((59 : Int) + 149).toNat) : MulOk t p ∧ CS (t.mul p) ((5 * B + 117000) / 4 + 1) := by
  have tp := cs_tb hp hB
  obtain ⟨m, tm⟩ := mul_any (j := 6) (k := 59) ht tp (by omega)
  refine ⟨m, ?_⟩
  obtain ⟨a0, a1, b0, b1, c0, c1, d0, d1, va0, va1, vb0, vb1, vc0, vc1, vd0, vd1, h1, h2⟩ := hp
  have f : ∀ {x : Nat}, Bd ((6 + 59 + 2 : Nat) : Int) x → fin x = true := fun h => bd_fin h (by omega)
  have bw := bd_155 hn.a ht.1.1
  have bx : x.natAbs ≤ 2 ^ 155 := by have := bd_155 hn.d ht.2.1.2; rwa [Int.natAbs_neg] at this
  have bY := bd_155 hn.e ht.2.2.1.1
  have bz := bd_155 hn.h ht.2.2.2.2
  obtain ⟨u0, u1, v0, v1, g0, g1, g2, g3, gs⟩ := col_grow (t := t) (p := p.a) (q := p.c) hn.a hn.b hn.c hn.d hn.e hn.f hn.g hn.h va0 va1 vc0 vc1 bw bx bY bz (bd_209 va0 tp.1.1) (bd_209 va1 tp.1.2) (bd_209 vc0 tp.2.2.1.1) (bd_209 vc1 tp.2.2.1.2) (f tm.1.1) (f tm.1.2) (f tm.2.2.1.1) (f tm.2.2.1.2) hn.n
  obtain ⟨y0, y1, z0, z1, k0, k1, k2, k3, ks⟩ := col_grow (t := t) (p := p.b) (q := p.d) hn.a hn.b hn.c hn.d hn.e hn.f hn.g hn.h vb0 vb1 vd0 vd1 bw bx bY bz (bd_209 vb0 tp.2.1.1) (bd_209 vb1 tp.2.1.2) (bd_209 vd0 tp.2.2.2.1) (bd_209 vd1 tp.2.2.2.2) (f tm.2.1.1) (f tm.2.1.2) (f tm.2.2.2.1) (f tm.2.2.2.2) hn.n
  refine ⟨u0, u1, y0, y1, v0, v1, z0, z1, g0, g1, k0, k1, g2, g3, k2, k3, ?_, ?_⟩
  · exact cs_arith gs h1
  · exact cs_arith ks h2

/-- The powers, as the specification and as the program has them. -/
def pwS (t : Tb) : Nat → Tb
  | 0 => t
  | k + 1 => t.mul (pwS t k)

def pwI (t : Tb) : Nat → Tb
  | 0 => unitI
  | k + 1 => t.mul (pwI t k)

theorem pw_cs {t : Tb} {w x y z : Int} (hn : Nrm t w x y z) (ht : TB ((6 : Nat) : Int) t) : ∀ k, k ≤ 300 → CS (pwS t k) (bnd k)
  | 0, _ => cs_step hn
  | k + 1, hk => (cs_mul hn ht (pw_cs hn ht k (by omega)) (bnd_all k (by omega))).2

theorem pw_ok {t : Tb} {w x y z : Int} (hn : Nrm t w x y z) (ht : TB ((6 : Nat) : Int) t) (k : Nat) (hk : k ≤ 300) : TB ((59 : Nat) : Int) (pwS t k) ∧ MulOk t (pwS t k) :=
  ⟨cs_tb (pw_cs hn ht k hk) (bnd_all k hk), (cs_mul hn ht (pw_cs hn ht k hk) (bnd_all k hk)).1⟩

theorem one_bd : Bd ((0 : Nat) : Int) one32 ∧ Bd ((0 : Nat) : Int) 0 := ⟨one_vl.2, bd_null.1⟩

theorem unit_tb : TB ((0 : Nat) : Int) unitI := ⟨⟨one_bd.1, one_bd.2⟩, ⟨one_bd.2, one_bd.2⟩, ⟨one_bd.2, one_bd.2⟩, ⟨one_bd.1, one_bd.2⟩⟩

/-- The program's power k + 1 is the specification's k, but for the signs of zeros. -/
theorem pw_eqt {t : Tb} {w x y z : Int} (hn : Nrm t w x y z) (ht : TB ((6 : Nat) : Int) t) : ∀ k, k ≤ 300 → EqT (pwS t k) (pwI t (k + 1))
  | 0, _ => by
    have h := mul_unit (k := 6) ht (by omega)
    exact ⟨⟨sym_eqv h.1.1, sym_eqv h.1.2⟩, ⟨sym_eqv h.2.1.1, sym_eqv h.2.1.2⟩, ⟨sym_eqv h.2.2.1.1, sym_eqv h.2.2.1.2⟩, ⟨sym_eqv h.2.2.2.1, sym_eqv h.2.2.2.2⟩⟩
  | k + 1, hk => mul_eqt (pw_ok hn ht k (by omega)).2 (eqt_refl ht) (pw_eqt hn ht k (by omega))

/-- The program's products and drifts. -/
theorem pwI_ok {t : Tb} {w x y z : Int} (hn : Nrm t w x y z) (ht : TB ((6 : Nat) : Int) t) (k : Nat) (hk : k ≤ 300) : MulOk t (pwI t k) ∧ TB ((59 : Nat) : Int) (pwI t (k + 1)) := by
  have t1 := tb_eqv (pw_eqt hn ht k hk) (pw_ok hn ht k hk).1
  refine ⟨?_, t1⟩
  cases k with
  | zero => exact (mul_any (j := 6) (k := 0) ht unit_tb (by omega)).1
  | succ k => exact (mul_any (j := 6) (k := 59) ht (tb_eqv (pw_eqt hn ht k (by omega)) (pw_ok hn ht k (by omega)).1) (by omega)).1

theorem pw_drift {t : Tb} {w x y z : Int} (hn : Nrm t w x y z) (ht : TB ((6 : Nat) : Int) t) (k : Nat) (hk : k ≤ 300) : driftS (pwS t k) = driftI (pwI t (k + 1)) ∧ driftS (pwS t k) < 4294967296 ∧ fin (driftS (pwS t k)) = true := by
  have h := (pw_ok hn ht k hk).1
  have e1 := drift_same (k := 59) h (by omega)
  have e2 := drift_eqt (k := 59) h (by omega) (pw_eqt hn ht k hk)
  have e3 := drift_num (k := 59) h (by omega)
  rw [e1]
  exact ⟨e2, e3.1, e3.2⟩

end Go.Proofs.Ytaghfffbhgpalaa

namespace Go.Proofs.Ytaghfffbhgpalaa
open Go.ChangeShapes Go.WideShapes Go.ChangeAt Go.RowKit

theorem cell_size {w : World} {a : Addr} {v : Value} (h : w.cell? a = some v) : a.block < w.heap.size := by
  unfold World.cell? at h
  split at h
  · rename_i hb; exact (Array.getElem?_eq_some_iff.1 hb).1
  · cases h

end Go.Proofs.Ytaghfffbhgpalaa

namespace Go.Proofs.Ytaghfffbhgpalaa
open Go.RowKit

/-- What lies outside of lo to hi is as it was. -/
structure Save (w w' : World) (lo hi : Nat) : Prop where
  os : w'.os = w.os
  tape : w'.tape = w.tape
  output : w'.output = w.output
  size : w.heap.size ≤ w'.heap.size
  block : ∀ b, b < w.heap.size → (b < lo ∨ hi ≤ b) → w'.heap[b]? = w.heap[b]?

theorem Save.below {w w' W : World} {lo hi : Nat} (h : Save w w' lo hi) (hb : Below W.heap.size W w) (hl : W.heap.size ≤ lo) : Below W.heap.size W w' :=
  ⟨h.os.trans hb.os, h.tape.trans hb.tape, h.output.trans hb.output, Nat.le_trans hb.size h.size, fun k hk => (h.block k (Nat.lt_of_lt_of_le hk hb.size) (.inl (by omega))).trans (hb.block k hk)⟩

theorem rd_save {w w' W : World} {v : Value} {n lo hi : Nat} {P : Nat → Pu} (h : Rd W v n P) (hs : Save w w' lo hi) (hb : Below W.heap.size W w) (hl : W.heap.size ≤ lo) : Rd w' v n P := rd_below h (hs.below hb hl)

end Go.Proofs.Ytaghfffbhgpalaa
