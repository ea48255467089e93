/- Walks: renewed tables, those of the specification. -/
import Derived.Test.YtaghfffbhgpalaaRq
import Derived.Test.YtaghfffbhgpalaaDk
namespace Go.Proofs.Ytaghfffbhgpalaa
open Go.RowKit

/-- A table, renewed. -/
def partBy (z : Cx) (n : Nat) : Cx := ⟨qu z.re n, qu z.im n⟩
def renew (t : Tb) : Tb :=
  ⟨partBy t.a (rootW (qOf t)), partBy t.b (rootW (qOf t)), ⟨Op.negFloat .f32 (partBy t.b (rootW (qOf t))).re, Op.negFloat .f32 (Op.negFloat .f32 (partBy t.b (rootW (qOf t))).im)⟩, (partBy t.a (rootW (qOf t))).conj⟩

def zeroTb : Tb := ⟨⟨0, 0⟩, ⟨0, 0⟩, ⟨0, 0⟩, ⟨0, 0⟩⟩
def renRes (t : Tb) : Value := if posW (qOf t) then .tuple #[(renew t).v, .int .i64 0] else .tuple #[zeroTb.v, .int .i64 5]

/-- Both quotients of a part. -/
def QOk (z : Cx) (n : Nat) : Prop := (floatBits .quo .f32 z.re n = some (qu z.re n) ∧ Bd 1 (qu z.re n)) ∧ (floatBits .quo .f32 z.im n = some (qu z.im n) ∧ Bd 1 (qu z.im n))

theorem renew_parts {t : Tb} {k : Nat} (h : TB k t) (hk : 2 * k + 2 ≤ 127) (hq : posW (qOf t) = true) : QOk t.a (rootW (qOf t)) ∧ QOk t.b (rootW (qOf t)) := by
  obtain ⟨va, ha, ba⟩ := bd_has h.1.1 (by omega)
  obtain ⟨vb, hb, bb⟩ := bd_has h.1.2 (by omega)
  obtain ⟨vc, hc, bc⟩ := bd_has h.2.1.1 (by omega)
  obtain ⟨vd, hd, bd⟩ := bd_has h.2.1.2 (by omega)
  exact ⟨⟨part_quot h hk hq ha ba (.inl ha), part_quot h hk hq hb bb (.inr (.inl hb))⟩, part_quot h hk hq hc bc (.inr (.inr (.inl hc))), part_quot h hk hq hd bd (.inr (.inr (.inr hd)))⟩

theorem renew_bd {t : Tb} {k : Nat} (h : TB k t) (hk : 2 * k + 2 ≤ 127) (hq : posW (qOf t) = true) : TB 1 (renew t) := by
  obtain ⟨⟨a, b⟩, c, d⟩ := renew_parts h hk hq
  exact ⟨⟨a.2, b.2⟩, ⟨c.2, d.2⟩, ⟨bd_neg c.2, bd_neg (bd_neg d.2)⟩, ⟨a.2, bd_neg b.2⟩⟩

theorem q_zero {t : Tb} {k : Nat} (h : TB k t) (hk : 2 * k + 2 ≤ 127) (hq : posW (qOf t) = false) : qOf t = 0 := by
  have h1 := (q_word h hk).1
  have h2 := of_decide_eq_false hq
  omega

/-- A table and a result in new variables, behind a call. -/
theorem tab2_of {w w1 : World} {v0 v1 v2 v3 u0 u1 u2 u3 : Value} {T U : TypeId} (h : Below ((w.alloc (.cells #[v0, v1, v2, v3] T)).alloc (.cells #[u0, u1, u2, u3] U)).heap.size ((w.alloc (.cells #[v0, v1, v2, v3] T)).alloc (.cells #[u0, u1, u2, u3] U)) w1) :
    (w1.cell? ⟨w.heap.size, 0, none⟩ = some v0 ∧ w1.cell? ⟨w.heap.size, 1, none⟩ = some v1 ∧ w1.cell? ⟨w.heap.size, 2, none⟩ = some v2 ∧ w1.cell? ⟨w.heap.size, 3, none⟩ = some v3) ∧
    (w1.cell? ⟨w.heap.size + 1, 0, none⟩ = some u0 ∧ w1.cell? ⟨w.heap.size + 1, 1, none⟩ = some u1 ∧ w1.cell? ⟨w.heap.size + 1, 2, none⟩ = some u2 ∧ w1.cell? ⟨w.heap.size + 1, 3, none⟩ = some u3) ∧
    (w1.frozen? ⟨w.heap.size + 1, 0, none⟩ = false ∧ w1.frozen? ⟨w.heap.size + 1, 1, none⟩ = false ∧ w1.frozen? ⟨w.heap.size + 1, 2, none⟩ = false ∧ w1.frozen? ⟨w.heap.size + 1, 3, none⟩ = false) ∧
    w.heap.size + 1 < w1.heap.size ∧ Below w.heap.size w w1 := by
  have hc : ∀ b o, b < w.heap.size + 1 + 1 → w1.cell? ⟨b, o, none⟩ = _ := fun b o g => h.cell (p := ⟨b, o, none⟩) (by simpa using g)
  have hf : ∀ b o, b < w.heap.size + 1 + 1 → w1.frozen? ⟨b, o, none⟩ = _ := fun b o g => h.frozen (p := ⟨b, o, none⟩) (by simpa using g)
  refine ⟨⟨?_, ?_, ?_, ?_⟩, ⟨?_, ?_, ?_, ?_⟩, ⟨?_, ?_, ?_, ?_⟩, ?_, ?_⟩
  all_goals first
    | (rw [hc _ _ (by omega)]; simp [go_sem]; done)
    | (rw [hf _ _ (by omega)]; simp [go_sem]; done)
    | (have := h.size; simp at this; omega)
    | exact ((((Below.refl _ _).alloc (Nat.le_refl _) _).alloc (by simp) _).trans (h.mono (by simp; omega)))

/-- A root is not 0. -/
theorem root_not (q : Nat) (hq : posW q = true) : (FloatKind.f32.format.order (rootW q) 0 == some .eq) = false ∧ posW (rootW q) = true := by
  obtain ⟨h1, h2⟩ := root_low q (-75) hq (by omega) (by omega) (by intro; omega)
  have h3 : Flt.rung Ieee.single 1 (-75) = 436207616 := by decide +kernel
  rw [h3] at h1
  have ho := order_word (rootW q) 0 h2 (by omega)
  refine ⟨?_, decide_eq_true (by omega)⟩
  rw [ho]
  generalize rootW q = r at *
  have : compare r 0 = .gt := by
    simp only [compare, compareOfLessAndEq]
    rw [if_neg (by omega), if_neg (by omega)]
  rw [this]; rfl

end Go.Proofs.Ytaghfffbhgpalaa
