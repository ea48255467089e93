/- Walks: renewed tables, those of the specification. Walks: SplitStep of the specification. -/
import Derived.Test.YtaghfffbhgpalaaRq
import Derived.Test.YtaghfffbhgpalaaDk
import Derived.Test.YtaghfffbhgpalaaKbm
import Derived.Test.YtaghfffbhgpalaaKbi
import Derived.Test.YtaghfffbhgpalaaTc
namespace Go.Proofs.Ytaghfffbhgpalaa
open Go.RowKit

/-- A table, renewed. -/
def partBy (z : Cx) (n : Nat) : Cx := ⟨qu z.re n, qu z.im n⟩
def renew (t : Tb) : Tb :=
  ⟨partBy t.a (rootW (qOf t)), partBy t.b (rootW (qOf t)), ⟨Op.negFloat .f32 (partBy t.b (rootW (qOf t))).re, Op.negFloat .f32 (Op.negFloat .f32 (partBy t.b (rootW (qOf t))).im)⟩, (partBy t.a (rootW (qOf t))).conj⟩

def zeroTb : Tb := ⟨⟨0, 0⟩, ⟨0, 0⟩, ⟨0, 0⟩, ⟨0, 0⟩⟩
def renRes (t : Tb) : Value := if posW (qOf t) then .tuple #[(renew t).v, .int .i64 0] else .tuple #[zeroTb.v, .int .i64 5]

/-- Both quotients of a part. -/
def QOk (z : Cx) (n : Nat) : Prop := (floatBits .quo .f32 z.re n = some (qu z.re n) ∧ Bd 1 (qu z.re n)) ∧ (floatBits .quo .f32 z.im n = some (qu z.im n) ∧ Bd 1 (qu z.im n))

theorem renew_parts {t : Tb} {k : Nat} (h : TB k t) (hk : 2 * k + 2 ≤ 127) (hq : posW (qOf t) = true) : QOk t.a (rootW (qOf t)) ∧ QOk t.b (rootW (qOf t)) := by
  obtain ⟨va, ha, ba⟩ := bd_has h.1.1 (by omega)
  obtain ⟨vb, hb, bb⟩ := bd_has h.1.2 (by omega)
  obtain ⟨vc, hc, bc⟩ := bd_has h.2.1.1 (by omega)
  obtain ⟨vd, hd, bd⟩ := bd_has h.2.1.2 (by omega)
  exact ⟨⟨part_quot h hk hq ha ba (.inl ha), part_quot h hk hq hb bb (.inr (.inl hb))⟩, part_quot h hk hq hc bc (.inr (.inr (.inl hc))), part_quot h hk hq hd bd (.inr (.inr (.inr hd)))⟩

theorem renew_bd {t : Tb} {k : Nat} (h : TB k t) (hk : 2 * k + 2 ≤ 127) (hq : posW (qOf t) = true) : TB 1 (renew t) := by
  obtain ⟨⟨a, b⟩, c, d⟩ := renew_parts h hk hq
  exact ⟨⟨a.2, b.2⟩, ⟨c.2, d.2⟩, ⟨bd_neg c.2, bd_neg (bd_neg d.2)⟩, ⟨a.2, bd_neg b.2⟩⟩

theorem q_zero {t : Tb} {k : Nat} (h : TB k t) (hk : 2 * k + 2 ≤ 127) (hq : posW (qOf t) = false) : qOf t = 0 := by
  have h1 := (q_word h hk).1
  have h2 := of_decide_eq_false hq
  omega

/-- A table and a result in new variables, behind a call. -/
theorem tab2_of {w w1 : World} {v0 v1 v2 v3 u0 u1 u2 u3 : Value} {T U : TypeId} (h : Below ((w.alloc (.cells #[v0, v1, v2, v3] T)).alloc (.cells #[u0, u1, u2, u3] U)).heap.size ((w.alloc (.cells #[v0, v1, v2, v3] T)).alloc (.cells #[u0, u1, u2, u3] U)) w1) :
    (w1.cell? ⟨w.heap.size, 0, none⟩ = some v0 ∧ w1.cell? ⟨w.heap.size, 1, none⟩ = some v1 ∧ w1.cell? ⟨w.heap.size, 2, none⟩ = some v2 ∧ w1.cell? ⟨w.heap.size, 3, none⟩ = some v3) ∧
    (w1.cell? ⟨w.heap.size + 1, 0, none⟩ = some u0 ∧ w1.cell? ⟨w.heap.size + 1, 1, none⟩ = some u1 ∧ w1.cell? ⟨w.heap.size + 1, 2, none⟩ = some u2 ∧ w1.cell? ⟨w.heap.size + 1, 3, none⟩ = some u3) ∧
    (w1.frozen? ⟨w.heap.size + 1, 0, none⟩ = false ∧ w1.frozen? ⟨w.heap.size + 1, 1, none⟩ = false ∧ w1.frozen? ⟨w.heap.size + 1, 2, none⟩ = false ∧ w1.frozen? ⟨w.heap.size + 1, 3, none⟩ = false) ∧
    w.heap.size + 1 < w1.heap.size ∧ Below w.heap.size w w1 := by
  have hc : ∀ b o, b < w.heap.size + 1 + 1 → w1.cell? ⟨b, o, none⟩ = _ := fun b o g => h.cell (p := ⟨b, o, none⟩) (by simpa using g)
  have hf : ∀ b o, b < w.heap.size + 1 + 1 → w1.frozen? ⟨b, o, none⟩ = _ := fun b o g => h.frozen (p := ⟨b, o, none⟩) (by simpa using g)
  refine ⟨⟨?_, ?_, ?_, ?_⟩, ⟨?_, ?_, ?_, ?_⟩, ⟨?_, ?_, ?_, ?_⟩, ?_, ?_⟩
  all_goals first
    | (rw [hc _ _ (by omega)]; simp [go_sem]; done)
    | (rw [hf _ _ (by omega)]; simp [go_sem]; done)
    | (have := h.size; simp at this; omega)
    | exact ((((Below.refl _ _).alloc (Nat.le_refl _) _).alloc (by simp) _).trans (h.mono (by simp; omega)))

/-- A root is not 0. -/
theorem root_not (q : Nat) (hq : posW q = true) : (FloatKind.f32.format.order (rootW q) 0 == some .eq) = false ∧ posW (rootW q) = true := by
  obtain ⟨h1, h2⟩ := root_low q (-75) hq (by omega) (by omega) (by intro; omega)
  have h3 : Flt.rung Ieee.single 1 (-75) = 436207616 := by decide +kernel
  rw [h3] at h1
  have ho := order_word (rootW q) 0 h2 (by omega)
  refine ⟨?_, decide_eq_true (by omega)⟩
  rw [ho]
  generalize rootW q = r at *
  have : compare r 0 = .gt := by
    simp only [compare, compareOfLessAndEq]
    rw [if_neg (by omega), if_neg (by omega)]
  rw [this]; rfl

end Go.Proofs.Ytaghfffbhgpalaa

namespace Go.Proofs.Ytaghfffbhgpalaa
open Go.RowKit

/-- A step's table. -/
def stepTb (a b c h : Nat) : Tb := partsTb ((wO a b c h).getD 0) ((xO a b c h a).getD 0) ((xO a b c h b).getD 0) ((xO a b c h c).getD 0)

theorem stepTb_v (a b c h : Nat) : stepTab a b c h = (stepTb a b c h).v := rfl

theorem stp_tb {a b c h k kk sq q d g f s x y z : Nat} (S : Stp a b c h k kk sq q d g f s x y z) : stepTb a b c h = partsTb s x y z ∧ TB 6 (stepTb a b c h) := by
  have e1 : kO h = some k := S.qk
  have e2 : kkO h = some kk := by unfold kkO; rw [e1]; exact S.qkk
  have e4 : qO a b c h = some q := by unfold qO; rw [e2, S.qsq]; exact S.qq
  have e5 : dO a b c h = some d := by unfold dO; rw [e4]; exact S.qd
  have e6 : gO a b c h = some g := by unfold gO; rw [e4]; exact S.qg
  have e7 : fO a b c h = some f := by unfold fO; rw [e5]; exact S.qf
  have e8 : wO a b c h = some s := by unfold wO; rw [e6, e5]; exact S.qw
  have e9 : xO a b c h a = some x := by unfold xO; rw [e7]; exact S.qx
  have ea : xO a b c h b = some y := by unfold xO; rw [e7]; exact S.qy
  have eb : xO a b c h c = some z := by unfold xO; rw [e7]; exact S.qz
  have e : stepTb a b c h = partsTb s x y z := by
    unfold stepTb
    rw [e8, e9, ea, eb]
    rfl
  rw [e]
  exact ⟨rfl, ⟨⟨S.bw, bd_neg S.bz⟩, ⟨bd_neg S.bY, bd_neg S.bx⟩, ⟨S.bY, bd_neg S.bx⟩, ⟨S.bw, S.bz⟩⟩⟩

theorem step_tb {a b c h : Nat} (ha : Num a) (hb : Num b) (hc : Num c) (hh : Num h) (H : finO (qO a b c h) = true) : TB 6 (stepTb a b c h) := by
  obtain ⟨k, kk, sq, q, d, g, f, s, x, y, z, S⟩ := stp_of ha hb hc hh H
  exact (stp_tb S).2

/-- Half of h. -/
def hN (h : Nat) : Nat := (kO h).getD 0

theorem half_num {h : Nat} (hh : Num h) : floatBits .quo .f32 h 1073741824 = some (hN h) ∧ Num (hN h) := by
  obtain ⟨k, hk, lk, fk, _, _⟩ := half_word hh.1 hh.2
  have e : kO h = some k := hk
  unfold hN
  rw [e]
  exact ⟨hk, lk, fk⟩

def splitOk (a b c h : Nat) : Bool := finO (qO a 0 0 (hN h)) && (finO (qO 0 b 0 (hN h)) && finO (qO 0 0 c h))

def splitX (a h : Nat) : Tb := stepTb a 0 0 (hN h)
def splitY (b h : Nat) : Tb := stepTb 0 b 0 (hN h)
def splitZ (c h : Nat) : Tb := stepTb 0 0 c h

def splitTb (X Y Z : Tb) : Tb := (((X.mul Y).mul Z).mul Y).mul X

theorem split_ok {X Y Z : Tb} (hX : TB 6 X) (hY : TB 6 Y) (hZ : TB 6 Z) : MulOk X Y ∧ MulOk (X.mul Y) Z ∧ MulOk ((X.mul Y).mul Z) Y ∧ MulOk (((X.mul Y).mul Z).mul Y) X ∧ TB 38 (splitTb X Y Z) := by
  obtain ⟨m1, t1⟩ := mul_any (j := 6) (k := 6) hX hY (by omega)
  obtain ⟨m2, t2⟩ := mul_any (j := 14) (k := 6) t1 hZ (by omega)
  obtain ⟨m3, t3⟩ := mul_any (j := 22) (k := 6) t2 hY (by omega)
  obtain ⟨m4, t4⟩ := mul_any (j := 30) (k := 6) t3 hX (by omega)
  exact ⟨m1, m2, m3, m4, t4⟩

/-- What SplitStep answers to numbers. -/
def splitIn (a b c h : Nat) : Value := if splitOk a b c h then .tuple #[(splitTb (splitX a h) (splitY b h) (splitZ c h)).v, .int .i64 0] else .tuple #[noTable, .int .i64 3]

/-- What SplitStep answers. -/
def splitRes (a b c h : Nat) : Value := if (fin a && fin b && fin c) && fin h then splitIn a b c h else .tuple #[noTable, .int .i64 1]

theorem num_nil : Num 0 := num_zero

theorem splitIn_form {a b c h : Nat} (ha : Num a) (hb : Num b) (hc : Num c) (hh : Num h) : ∃ v j a0 b0 a1 b1 a2 b2 a3 b3, splitIn a b c h = .tuple #[v, .int .i64 j] ∧ Tab v a0 b0 a1 b1 a2 b2 a3 b3 := by
  unfold splitIn
  split
  · rename_i H
    unfold splitOk at H
    simp only [Bool.and_eq_true] at H
    have hk := (half_num hh).2
    have ht := (split_ok (step_tb ha num_nil num_nil hk H.1) (step_tb num_nil hb num_nil hk H.2.1) (step_tb num_nil num_nil hc hh H.2.2)).2.2.2.2
    have hf := tb_tf (k := 38) ht (by omega)
    exact ⟨_, _, _, _, _, _, _, _, _, _, rfl, rfl, hf.1.1, hf.1.2, hf.2.1.1, hf.2.1.2, hf.2.2.1.1, hf.2.2.1.2, hf.2.2.2.1, hf.2.2.2.2⟩
  · obtain ⟨a0, b0, a1, b1, a2, b2, a3, b3, ht⟩ := tab_none
    exact ⟨_, _, a0, b0, a1, b1, a2, b2, a3, b3, rfl, ht⟩

theorem splitRes_form {a b c h : Nat} (ha : a < 4294967296) (hb : b < 4294967296) (hc : c < 4294967296) (hh : h < 4294967296) : ∃ v j a0 b0 a1 b1 a2 b2 a3 b3, splitRes a b c h = .tuple #[v, .int .i64 j] ∧ Tab v a0 b0 a1 b1 a2 b2 a3 b3 := by
  unfold splitRes
  split
  · rename_i H
    obtain ⟨fa, fb, fc, fh⟩ := num_of H
    exact splitIn_form ⟨ha, fa⟩ ⟨hb, fb⟩ ⟨hc, fc⟩ ⟨hh, fh⟩
  · obtain ⟨a0, b0, a1, b1, a2, b2, a3, b3, ht⟩ := tab_none
    exact ⟨_, _, a0, b0, a1, b1, a2, b2, a3, b3, rfl, ht⟩

end Go.Proofs.Ytaghfffbhgpalaa
