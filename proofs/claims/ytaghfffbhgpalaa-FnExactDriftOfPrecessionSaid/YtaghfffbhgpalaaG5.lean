/- Walks: SplitStep of the specification, whole. -/
import Derived.Test.YtaghfffbhgpalaaKbp
namespace Go.Proofs.Ytaghfffbhgpalaa
open Go.RowKit

/-- A vector in a block. -/
structure VF (W : World) (B a b c : Nat) : Prop where
  c0 : W.cell? ⟨B, 0, none⟩ = some (.float .f32 a)
  c1 : W.cell? ⟨B, 1, none⟩ = some (.float .f32 b)
  c2 : W.cell? ⟨B, 2, none⟩ = some (.float .f32 c)
  lt : B < W.heap.size

theorem VF.below {W W' : World} {B a b c : Nat} (h : VF W B a b c) (hb : Below W.heap.size W W') : VF W' B a b c :=
  ⟨(hb.cell (p := ⟨B, 0, none⟩) h.lt).trans h.c0, (hb.cell (p := ⟨B, 1, none⟩) h.lt).trans h.c1, (hb.cell (p := ⟨B, 2, none⟩) h.lt).trans h.c2, Nat.lt_of_lt_of_le h.lt hb.size⟩

/-- A step of numbers, by its code. -/
theorem stepIn_code {a b c h : Nat} (ha : Num a) (hb : Num b) (hc : Num c) (hh : Num h) :
    ∃ (X : Tb) (j : Int), stepIn a b c h = .tuple #[X.v, .int .i64 j] ∧ (j = 0 ∧ finO (qO a b c h) = true ∧ X = stepTb a b c h ∧ TB 6 X ∨ j = 3 ∧ finO (qO a b c h) = false) := by
  unfold stepIn
  cases H : finO (qO a b c h)
  · exact ⟨nilTb, 3, rfl, .inr ⟨rfl, rfl⟩⟩
  · exact ⟨stepTb a b c h, 0, rfl, .inl ⟨rfl, rfl, rfl, step_tb ha hb hc hh H⟩⟩

/-- A list of four tables in a block. -/
structure FC (W : World) (B : Nat) (s t u v : Tb) : Prop where
  c0 : W.cell? ⟨B, 0, none⟩ = some (.complex .f32 s.a.re s.a.im)
  c1 : W.cell? ⟨B, 1, none⟩ = some (.complex .f32 s.b.re s.b.im)
  c2 : W.cell? ⟨B, 2, none⟩ = some (.complex .f32 s.c.re s.c.im)
  c3 : W.cell? ⟨B, 3, none⟩ = some (.complex .f32 s.d.re s.d.im)
  c4 : W.cell? ⟨B, 4, none⟩ = some (.complex .f32 t.a.re t.a.im)
  c5 : W.cell? ⟨B, 5, none⟩ = some (.complex .f32 t.b.re t.b.im)
  c6 : W.cell? ⟨B, 6, none⟩ = some (.complex .f32 t.c.re t.c.im)
  c7 : W.cell? ⟨B, 7, none⟩ = some (.complex .f32 t.d.re t.d.im)
  c8 : W.cell? ⟨B, 8, none⟩ = some (.complex .f32 u.a.re u.a.im)
  c9 : W.cell? ⟨B, 9, none⟩ = some (.complex .f32 u.b.re u.b.im)
  c10 : W.cell? ⟨B, 10, none⟩ = some (.complex .f32 u.c.re u.c.im)
  c11 : W.cell? ⟨B, 11, none⟩ = some (.complex .f32 u.d.re u.d.im)
  c12 : W.cell? ⟨B, 12, none⟩ = some (.complex .f32 v.a.re v.a.im)
  c13 : W.cell? ⟨B, 13, none⟩ = some (.complex .f32 v.b.re v.b.im)
  c14 : W.cell? ⟨B, 14, none⟩ = some (.complex .f32 v.c.re v.c.im)
  c15 : W.cell? ⟨B, 15, none⟩ = some (.complex .f32 v.d.re v.d.im)
  lt : B < W.heap.size

theorem FC.below {W W' : World} {B : Nat} {s t u v : Tb} (h : FC W B s t u v) (hb : Below W.heap.size W W') : FC W' B s t u v :=
  ⟨(hb.cell (p := ⟨B, 0, none⟩) h.lt).trans h.c0, (hb.cell (p := ⟨B, 1, none⟩) h.lt).trans h.c1, (hb.cell (p := ⟨B, 2, none⟩) h.lt).trans h.c2, (hb.cell (p := ⟨B, 3, none⟩) h.lt).trans h.c3, (hb.cell (p := ⟨B, 4, none⟩) h.lt).trans h.c4, (hb.cell (p := ⟨B, 5, none⟩) h.lt).trans h.c5, (hb.cell (p := ⟨B, 6, none⟩) h.lt).trans h.c6, (hb.cell (p := ⟨B, 7, none⟩) h.lt).trans h.c7, (hb.cell (p := ⟨B, 8, none⟩) h.lt).trans h.c8, (hb.cell (p := ⟨B, 9, none⟩) h.lt).trans h.c9, (hb.cell (p := ⟨B, 10, none⟩) h.lt).trans h.c10, (hb.cell (p := ⟨B, 11, none⟩) h.lt).trans h.c11, (hb.cell (p := ⟨B, 12, none⟩) h.lt).trans h.c12, (hb.cell (p := ⟨B, 13, none⟩) h.lt).trans h.c13, (hb.cell (p := ⟨B, 14, none⟩) h.lt).trans h.c14, (hb.cell (p := ⟨B, 15, none⟩) h.lt).trans h.c15, Nat.lt_of_lt_of_le h.lt hb.size⟩

theorem FC.far1 {W : World} {B b i : Nat} {s t u v : Tb} (h : FC W B s t u v) (hne : b ≠ B) (x : Value) : FC (W.setCell ⟨b, i, none⟩ x) B s t u v := by
  have o : ∀ j, (W.setCell ⟨b, i, none⟩ x).cell? ⟨B, j, none⟩ = W.cell? ⟨B, j, none⟩ := fun j => World.cell?_setCell_other W ⟨b, i, none⟩ ⟨B, j, none⟩ x (by intro e; injection e with e1; exact hne e1)
  exact ⟨(o 0).trans h.c0, (o 1).trans h.c1, (o 2).trans h.c2, (o 3).trans h.c3, (o 4).trans h.c4, (o 5).trans h.c5, (o 6).trans h.c6, (o 7).trans h.c7, (o 8).trans h.c8, (o 9).trans h.c9, (o 10).trans h.c10, (o 11).trans h.c11, (o 12).trans h.c12, (o 13).trans h.c13, (o 14).trans h.c14, (o 15).trans h.c15, by have := h.lt; simpa using this⟩

theorem FC.far {W : World} {B b : Nat} {s t u v : Tb} (h : FC W B s t u v) (hne : b ≠ B) (x y z q : Value) : FC ((((W.setCell ⟨b, 0, none⟩ x).setCell ⟨b, 1, none⟩ y).setCell ⟨b, 2, none⟩ z).setCell ⟨b, 3, none⟩ q) B s t u v :=
  (((h.far1 hne _).far1 hne _).far1 hne _).far1 hne _

theorem tc_far1 {W : World} {B b i : Nat} {t : Tb} (h : TC W B t) (hne : b ≠ B) (v : Value) : TC (W.setCell ⟨b, i, none⟩ v) B t := by
  have o : ∀ j, (W.setCell ⟨b, i, none⟩ v).cell? ⟨B, j, none⟩ = W.cell? ⟨B, j, none⟩ := fun j => World.cell?_setCell_other W ⟨b, i, none⟩ ⟨B, j, none⟩ v (by intro e; injection e with e1; exact hne e1)
  exact ⟨(o 0).trans h.c0, (o 1).trans h.c1, (o 2).trans h.c2, (o 3).trans h.c3, by simp [h.f0], by simp [h.f1], by simp [h.f2], by simp [h.f3], by have := h.lt; simpa using this⟩

theorem tc_far {W : World} {B b : Nat} {t : Tb} (h : TC W B t) (hne : b ≠ B) (x y z v : Value) : TC ((((W.setCell ⟨b, 0, none⟩ x).setCell ⟨b, 1, none⟩ y).setCell ⟨b, 2, none⟩ z).setCell ⟨b, 3, none⟩ v) B t :=
  tc_far1 (tc_far1 (tc_far1 (tc_far1 h hne _) hne _) hne _) hne _

/-- Behind the region that lays the table and the list. -/
theorem lists_cut {K : Act → World → Prop} {Q : Exit → Act → World → Prop} {a : Act} {W w : World} {T L R : Nat} {X Y Z V U N : Tb} (hne : T ≠ L) (hR : R < T) (hR' : R < L) (hB : w.heap.size ≤ R) (h1 : TC W T X) (h2 : FC W L Y Z V U) (h3 : TC W R N) (h4 : Below w.heap.size w W)
    (k : ∀ W', T ≠ L → R < T → R < L → TC W' T X → FC W' L Y Z V U → TC W' R N → Below w.heap.size w W' → Exit.then K Q .normal a W') : Exit.then K Q .normal a W := k W hne hR hR' h1 h2 h3 h4


end Go.Proofs.Ytaghfffbhgpalaa
