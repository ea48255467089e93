/- Walks: drifts of tables, those of the specification. -/
import Derived.Test.YtibmaflcfmphgaaVal
import Derived.Test.YtibmaflcfmphgaaAj
namespace Go.Proofs.Ytibmaflcfmphgaa
open Go.RowKit

/-- A call that leaves the world alone, in a quiet walk. -/
theorem same_call {P : Program} {f : FuncId} {args : Array Value} {v : Value} (c : ∀ W : World, Calls P f args W fun e W' => e = .returned v ∧ W = W') {w : World} (n : Nat) :
    Calls P f args (w.drewN n) fun e w' => e = .returned v ∧ ∃ m, w' = w.drewN m :=
  (c (w.drewN n)).mono fun _ _ ⟨he, hw⟩ => ⟨he, n, hw.symm⟩

/-- A complex number, a table: all parts finite. -/
def CF (z : Cx) : Prop := (z.re < 4294967296 ∧ fin z.re = true) ∧ (z.im < 4294967296 ∧ fin z.im = true)
def TF (t : Tb) : Prop := CF t.a ∧ CF t.b ∧ CF t.c ∧ CF t.d

theorem cb_cf {k : Nat} {z : Cx} (h : CB k z) (hk : k ≤ 127) : CF z := ⟨⟨h.1.1, bd_fin h.1 (by omega)⟩, ⟨h.2.1, bd_fin h.2 (by omega)⟩⟩

theorem tb_tf {k : Nat} {t : Tb} (h : TB k t) (hk : k ≤ 127) : TF t := ⟨cb_cf h.1 hk, cb_cf h.2.1 hk, cb_cf h.2.2.1 hk, cb_cf h.2.2.2 hk⟩

/-- The square of a complex number. -/
def nsq (z : Cx) : Nat := ex z.re z.re z.im z.im

theorem sq_ok {z : Cx} {k : Nat} (h : CB k z) (hk : 2 * k + 1 ≤ 127) :
    (∃ a b, Vl z.re a ∧ Vl z.im b ∧ (a * a + b * b).natAbs ≤ 2 ^ (((2 * k + 1 : Nat) : Int) + 298).toNat) ∧ Bd ((2 * k + 1 : Nat) : Int) (nsq z) := by
  obtain ⟨a, ha, ba⟩ := bd_has h.1 (by omega)
  obtain ⟨b, hb, bb⟩ := bd_has h.2 (by omega)
  have p1 := abs_prod ba ba
  have p2 := abs_prod bb bb
  have e : k + 149 + (k + 149) = 2 * k + 298 := by omega
  rw [e] at p1 p2
  have e2 : (((2 * k + 1 : Nat) : Int) + 298).toNat = 2 * k + 298 + 1 := by omega
  have g : (a * a + b * b).natAbs ≤ 2 ^ (((2 * k + 1 : Nat) : Int) + 298).toNat := by rw [e2, Nat.pow_succ]; omega
  exact ⟨⟨a, b, ha, hb, g⟩, (ex_ok _ ha ha hb hb (by omega) (by omega) g).2⟩

/-- The sum of two float32 below a power of two. -/
theorem bd_sum {x y : Nat} {k : Nat} (hx : Bd k x) (hy : Bd k y) (hk : k + 1 ≤ 127) : floatBits .add .f32 x y = some (sm x y) ∧ Bd ((k + 1 : Nat) : Int) (sm x y) := by
  obtain ⟨a, ha, ba⟩ := bd_has hx (by omega)
  obtain ⟨b, hb, bb⟩ := bd_has hy (by omega)
  have e2 : (((k + 1 : Nat) : Int) + 149).toNat = k + 149 + 1 := by omega
  exact sm_ok _ ha hb (by omega) (by omega) (by rw [e2, Nat.pow_succ]; omega)

theorem bd_less {x y : Nat} {k : Nat} (hx : Bd k x) (hy : Bd k y) (hk : k + 1 ≤ 127) : floatBits .sub .f32 x y = some (sm x (Op.negFloat .f32 y)) ∧ Bd ((k + 1 : Nat) : Int) (sm x (Op.negFloat .f32 y)) := by
  obtain ⟨a, ha, ba⟩ := bd_has hx (by omega)
  obtain ⟨b, hb, bb⟩ := bd_has hy (by omega)
  have e2 : (((k + 1 : Nat) : Int) + 149).toNat = k + 149 + 1 := by omega
  exact sub_sm _ ha hb (by omega) (by omega) (by rw [e2, Nat.pow_succ]; omega)

/-- q of a table. -/
def qOf (t : Tb) : Nat := sm (nsq t.a) (nsq t.b)

theorem q_bd {t : Tb} {k : Nat} (h : TB k t) (hk : 2 * k + 2 ≤ 127) : floatBits .add .f32 (nsq t.a) (nsq t.b) = some (qOf t) ∧ Bd ((2 * k + 2 : Nat) : Int) (qOf t) :=
  bd_sum (sq_ok h.1 (by omega)).2 (sq_ok h.2.1 (by omega)).2 hk

/-- The determinant, as the specification reckons it. -/
def detS (t : Tb) : Cx := ⟨sm (t.a.mul t.d).re (Op.negFloat .f32 (t.b.mul t.c).re), sm (t.a.mul t.d).im (Op.negFloat .f32 (t.b.mul t.c).im)⟩

theorem det_bd {t : Tb} {k : Nat} (h : TB k t) (hk : 2 * k + 2 ≤ 127) : CB ((2 * k + 2 : Nat) : Int) (detS t) := by
  obtain ⟨h1, h2, h3, h4⟩ := h
  have p1 := (prod_any h1 h4 (by omega)).2
  have p2 := (prod_any h2 h3 (by omega)).2
  have e : k + k + 1 = 2 * k + 1 := by omega
  rw [e] at p1 p2
  exact ⟨(bd_less p1.1 p2.1 hk).2, (bd_less p1.2 p2.2 hk).2⟩

/-- The absolute value, as the specification reckons it. -/
def sizeS (x : Nat) : Nat := if less0 x then Op.negFloat .f32 x else x
