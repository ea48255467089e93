/- CrossOfVectors of the specification, whole. -/
import Derived.Test.YtaghfffbhgpalaaKaz
import Derived.Test.YtaghfffbhgpalaaV6
namespace Go.Proofs.Ytaghfffbhgpalaa
open Go.RowKit
attribute [local go_sem ↓] Go.wp_at_zero Go.wp_at_succ

/-- What CrossOfVectors answers. -/
def crossRes (a b c a' b' c' : Nat) : Value := if (fin a && fin b && fin c) && (fin a' && fin b' && fin c') then vecO (partO b c' c b') (partO c a' a c') (partO a b' b a') else .tuple #[.agg #[.float .f32 0, .float .f32 0, .float .f32 0], .int .i64 1]

theorem vecO_form (o p q : Option Nat) : ∃ (x y z : Nat) (k : Int), vecO o p q = .tuple #[.agg #[.float .f32 x, .float .f32 y, .float .f32 z], .int .i64 k] := by
  unfold vecO
  split
  · exact ⟨_, _, _, _, rfl⟩
  · exact ⟨_, _, _, _, rfl⟩

def Wd (x : Nat) : Prop := x < 4294967296

/-- A vector in a block that may be written. -/
structure VR (W : World) (B x y z : Nat) : Prop where
  c0 : W.cell? ⟨B, 0, none⟩ = some (.float .f32 x)
  c1 : W.cell? ⟨B, 1, none⟩ = some (.float .f32 y)
  c2 : W.cell? ⟨B, 2, none⟩ = some (.float .f32 z)
  f0 : W.frozen? ⟨B, 0, none⟩ = false
  f1 : W.frozen? ⟨B, 1, none⟩ = false
  f2 : W.frozen? ⟨B, 2, none⟩ = false
  lt : B < W.heap.size

theorem VR.below {W W' : World} {B x y z : Nat} (h : VR W B x y z) (hb : Below W.heap.size W W') : VR W' B x y z :=
  ⟨(hb.cell (p := ⟨B, 0, none⟩) h.lt).trans h.c0, (hb.cell (p := ⟨B, 1, none⟩) h.lt).trans h.c1, (hb.cell (p := ⟨B, 2, none⟩) h.lt).trans h.c2,
   (hb.frozen (p := ⟨B, 0, none⟩) h.lt).trans h.f0, (hb.frozen (p := ⟨B, 1, none⟩) h.lt).trans h.f1, (hb.frozen (p := ⟨B, 2, none⟩) h.lt).trans h.f2, Nat.lt_of_lt_of_le h.lt hb.size⟩

theorem VR.new (W : World) (T : TypeId) (x y z : Nat) : VR (W.alloc (.cells #[.float .f32 x, .float .f32 y, .float .f32 z] T)) W.heap.size x y z :=
  ⟨by simp [go_sem], by simp [go_sem], by simp [go_sem], by simp [go_sem], by simp [go_sem], by simp [go_sem], by simp⟩

theorem cr_below {B : Nat} {a W w' : World} {n : Nat} (hb : Below (W.drewN n).heap.size (W.drewN n) w') (h : Below B a W) (hB : B ≤ W.heap.size) : Below B a w' := below_step hb (below_drewN h n) hB

theorem cr_vr {W w' : World} {n B x y z : Nat} (hb : Below (W.drewN n).heap.size (W.drewN n) w') (h : VR W B x y z) : VR w' B x y z := (h.below (below_drewN (Below.refl _ _) n)).below hb

end Go.Proofs.Ytaghfffbhgpalaa
