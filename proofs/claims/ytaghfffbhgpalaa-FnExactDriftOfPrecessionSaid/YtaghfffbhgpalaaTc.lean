/- Tables in a block of their own. -/
import Derived.Test.YtaghfffbhgpalaaKbl
import Derived.Test.YtaghfffbhgpalaaTn
namespace Go.Proofs.Ytaghfffbhgpalaa
open Go.RowKit

theorem four (t : Tb) : t.v = .agg #[.complex .f32 t.a.re t.a.im, .complex .f32 t.b.re t.b.im, .complex .f32 t.c.re t.c.im, .complex .f32 t.d.re t.d.im] := rfl

def nilTb : Tb := ⟨⟨0, 0⟩, ⟨0, 0⟩, ⟨0, 0⟩, ⟨0, 0⟩⟩

structure TC (W : World) (B : Nat) (t : Tb) : Prop where
  c0 : W.cell? ⟨B, 0, none⟩ = some (.complex .f32 t.a.re t.a.im)
  c1 : W.cell? ⟨B, 1, none⟩ = some (.complex .f32 t.b.re t.b.im)
  c2 : W.cell? ⟨B, 2, none⟩ = some (.complex .f32 t.c.re t.c.im)
  c3 : W.cell? ⟨B, 3, none⟩ = some (.complex .f32 t.d.re t.d.im)
  f0 : W.frozen? ⟨B, 0, none⟩ = false
  f1 : W.frozen? ⟨B, 1, none⟩ = false
  f2 : W.frozen? ⟨B, 2, none⟩ = false
  f3 : W.frozen? ⟨B, 3, none⟩ = false
  lt : B < W.heap.size

theorem TC.below {W W' : World} {B : Nat} {t : Tb} (h : TC W B t) (hb : Below W.heap.size W W') : TC W' B t :=
  ⟨(hb.cell (p := ⟨B, 0, none⟩) h.lt).trans h.c0, (hb.cell (p := ⟨B, 1, none⟩) h.lt).trans h.c1, (hb.cell (p := ⟨B, 2, none⟩) h.lt).trans h.c2, (hb.cell (p := ⟨B, 3, none⟩) h.lt).trans h.c3,
   (hb.frozen (p := ⟨B, 0, none⟩) h.lt).trans h.f0, (hb.frozen (p := ⟨B, 1, none⟩) h.lt).trans h.f1, (hb.frozen (p := ⟨B, 2, none⟩) h.lt).trans h.f2, (hb.frozen (p := ⟨B, 3, none⟩) h.lt).trans h.f3, Nat.lt_of_lt_of_le h.lt hb.size⟩

theorem TC.alloc {W : World} {B : Nat} {t : Tb} (h : TC W B t) (o : Obj) : TC (W.alloc o) B t := h.below ((Below.refl _ _).alloc (Nat.le_refl _) _)

theorem TC.new (W : World) (T : TypeId) (t : Tb) : TC (W.alloc (.cells #[.complex .f32 t.a.re t.a.im, .complex .f32 t.b.re t.b.im, .complex .f32 t.c.re t.c.im, .complex .f32 t.d.re t.d.im] T)) W.heap.size t :=
  ⟨by simp [go_sem], by simp [go_sem], by simp [go_sem], by simp [go_sem], by simp [go_sem], by simp [go_sem], by simp [go_sem], by simp [go_sem], by simp⟩

theorem TC.nil (W : World) (T : TypeId) : TC (W.alloc (.cells #[.complex .f32 0 0, .complex .f32 0 0, .complex .f32 0 0, .complex .f32 0 0] T)) W.heap.size nilTb := TC.new W T nilTb

theorem TC.put {W : World} {B : Nat} {t : Tb} (h : TC W B t) (u : Tb) :
    TC ((((W.setCell ⟨B, 0, none⟩ (.complex .f32 u.a.re u.a.im)).setCell ⟨B, 1, none⟩ (.complex .f32 u.b.re u.b.im)).setCell ⟨B, 2, none⟩ (.complex .f32 u.c.re u.c.im)).setCell ⟨B, 3, none⟩ (.complex .f32 u.d.re u.d.im)) B u := by
  have o : ∀ (W : World) (i j : Nat) (v : Value), i ≠ j → (W.setCell ⟨B, i, none⟩ v).cell? ⟨B, j, none⟩ = W.cell? ⟨B, j, none⟩ := fun W i j v hij => World.cell?_setCell_other W ⟨B, i, none⟩ ⟨B, j, none⟩ v (by intro e; injection e with _ e _; exact hij e)
  have s : ∀ (W : World) (i : Nat) (v : Value) {x : Value}, W.cell? ⟨B, i, none⟩ = some x → (W.setCell ⟨B, i, none⟩ v).cell? ⟨B, i, none⟩ = some v := fun W i v x hx => World.cell?_setCell_same W ⟨B, i, none⟩ v hx
  refine ⟨?_, ?_, ?_, ?_, by simp [h.f0], by simp [h.f1], by simp [h.f2], by simp [h.f3], by have := h.lt; simpa using this⟩
  · rw [o _ 3 0 _ (by omega), o _ 2 0 _ (by omega), o _ 1 0 _ (by omega)]
    exact s _ 0 _ h.c0
  · rw [o _ 3 1 _ (by omega), o _ 2 1 _ (by omega)]
    exact s _ 1 _ (by rw [o _ 0 1 _ (by omega)]; exact h.c1)
  · rw [o _ 3 2 _ (by omega)]
    exact s _ 2 _ (by rw [o _ 1 2 _ (by omega), o _ 0 2 _ (by omega)]; exact h.c2)
  · exact s _ 3 _ (by rw [o _ 2 3 _ (by omega), o _ 1 3 _ (by omega), o _ 0 3 _ (by omega)]; exact h.c3)

theorem Below.put4 {B : Nat} {a W : World} {b : Nat} (h : Below B a W) (hb : B ≤ b) (x y z v : Value) : Below B a ((((W.setCell ⟨b, 0, none⟩ x).setCell ⟨b, 1, none⟩ y).setCell ⟨b, 2, none⟩ z).setCell ⟨b, 3, none⟩ v) :=
  (((h.setCell hb _).setCell hb _).setCell hb _).setCell hb _

/-- A pulse in a block of its own. -/
structure PC (W : World) (B : Nat) (p : Pu) : Prop where
  c0 : W.cell? ⟨B, 0, none⟩ = some (.int .i64 p.ax)
  c1 : W.cell? ⟨B, 1, none⟩ = some (.int .i64 p.ha)
  c2 : W.cell? ⟨B, 2, none⟩ = some (.bool p.bk)
  lt : B < W.heap.size

theorem PC.below {W W' : World} {B : Nat} {p : Pu} (h : PC W B p) (hb : Below W.heap.size W W') : PC W' B p :=
  ⟨(hb.cell (p := ⟨B, 0, none⟩) h.lt).trans h.c0, (hb.cell (p := ⟨B, 1, none⟩) h.lt).trans h.c1, (hb.cell (p := ⟨B, 2, none⟩) h.lt).trans h.c2, Nat.lt_of_lt_of_le h.lt hb.size⟩

theorem PC.alloc {W : World} {B : Nat} {p : Pu} (h : PC W B p) (o : Obj) : PC (W.alloc o) B p := h.below ((Below.refl _ _).alloc (Nat.le_refl _) _)

theorem PC.new (W : World) (T : TypeId) (p : Pu) : PC (W.alloc (.cells #[.int .i64 p.ax, .int .i64 p.ha, .bool p.bk] T)) W.heap.size p :=
  ⟨by simp [go_sem], by simp [go_sem], by simp [go_sem], by simp⟩

end Go.Proofs.Ytaghfffbhgpalaa
