/- Walks: vectors of three float32. Walks: vectors and their sums. Tables and vectors in blocks of their own. -/
import Derived.Test.YtlglbinalocilaaKaf
import Derived.Test.YtlglbinalocilaaKal
import Derived.Test.YtlglbinalocilaaKbf
import Derived.RegionTactic
import Derived.LoopTactic
import Derived.Below
import Derived.Lib.Hide
import Derived.Deep.RegionHeld3
import Derived.Deep.RegionWith
namespace Go.Proofs.Ytlglbinalocilaa
open Go.RowKit

end Go.Proofs.Ytlglbinalocilaa

namespace Go.Proofs.Ytlglbinalocilaa
open Go.RowKit

/-- Two vectors held against each other. -/
theorem eql_vec (a b c a' b' c' : Nat) (w : World) :
    (binOp .eql 41 (.agg #[.float .f32 a, .float .f32 b, .float .f32 c]) (.agg #[.float .f32 a', .float .f32 b', .float .f32 c'])).run Try.prog w =
      .ok (.bool ((FloatKind.f32.format.order a a' == some .eq) && ((FloatKind.f32.format.order b b' == some .eq) && (FloatKind.f32.format.order c c' == some .eq)))) w := by
  rw [run_eql_struct]
  rw [run_equalIn_array w 9999 3 1 41 38 _ _ Try.underlying41 (by kernel_rfl)]
  have h0 : ∀ (x y z : Nat) (w : World), (part 38 #[.float .f32 x, .float .f32 y, .float .f32 z] (0 * 1)).run Try.prog w = .ok (.float .f32 x) w := fun _ _ _ _ => by kernel_rfl
  have h1 : ∀ (x y z : Nat) (w : World), (part 38 #[.float .f32 x, .float .f32 y, .float .f32 z] (1 * 1)).run Try.prog w = .ok (.float .f32 y) w := fun _ _ _ _ => by kernel_rfl
  have h2 : ∀ (x y z : Nat) (w : World), (part 38 #[.float .f32 x, .float .f32 y, .float .f32 z] (2 * 1)).run Try.prog w = .ok (.float .f32 z) w := fun _ _ _ _ => by kernel_rfl
  have he : ∀ (x y : Nat) (w : World), (Op.equalIn 9999 38 (.float .f32 x) (.float .f32 y)).run Try.prog w = .ok (FloatKind.f32.format.order x y == some .eq) w := fun x y w => run_equalIn_float w 9998 38 .f32 .f32 x y Try.underlying38
  show ((eqElems 9999 38 1 _ _ [0, 1, 2]).run Try.prog w).andThen _ = _
  simp only [eqElems, Sem.run_bind, h0, h1, h2, Result.andThen_ok, he, Sem.run_ite, Sem.run_pure]
  cases (FloatKind.f32.format.order a a' == some .eq) <;> cases (FloatKind.f32.format.order b b' == some .eq) <;> cases (FloatKind.f32.format.order c c' == some .eq) <;> rfl

set_option maxHeartbeats 400000 in
theorem isVector_any (a b c : Nat) (w : World) (ha : a < 4294967296) (hb : b < 4294967296) (hc : c < 4294967296) :
    Calls Try.prog 35 #[.agg #[.float .f32 a, .float .f32 b, .float .f32 c]] w fun e w' => e = .returned (.bool (fin a && fin b && fin c)) ∧ Below w.heap.size w w' := by
  obtain ⟨z0, n0, h0, o0⟩ := less_any a (w.alloc (.cells #[.float .f32 a, .float .f32 b, .float .f32 c] 41)) 38 ha
  obtain ⟨z1, n1, h1, o1⟩ := less_any b ((w.alloc (.cells #[.float .f32 a, .float .f32 b, .float .f32 c] 41)).drewN n0) 38 hb
  obtain ⟨z2, n2, h2, o2⟩ := less_any c ((w.alloc (.cells #[.float .f32 a, .float .f32 b, .float .f32 c] 41)).drewN (n0 + n1)) 38 hc
  have heq := eql_vec z0 z1 z2 0 0 0
  rw [o0, o1, o2] at heq
  clear ha hb hc o0 o1 o2
  generalize fin a = p at *
  generalize fin b = q at *
  generalize fin c = r at *
  go_enter Try.func35, Try.ntmps35
  go_wp2
  go_ret
  exact ⟨by rw [Bool.and_assoc]; rfl, below_drewN ((Below.refl _ _).alloc (Nat.le_refl _) _) _⟩

/-- The vector's result, or the limit. -/
def vecOr (k : Int) (a b c : Nat) : Value := if fin a && fin b && fin c then .tuple #[.agg #[.float .f32 a, .float .f32 b, .float .f32 c], .int .i64 0] else .tuple #[.agg #[.float .f32 0, .float .f32 0, .float .f32 0], .int .i64 k]

end Go.Proofs.Ytlglbinalocilaa

namespace Go.Proofs.Ytlglbinalocilaa
open Go.RowKit

theorem TT.new (W : World) (T : TypeId) (s t : Tb) : TT (W.alloc (.cells #[.complex .f32 s.a.re s.a.im, .complex .f32 s.b.re s.b.im, .complex .f32 s.c.re s.c.im, .complex .f32 s.d.re s.d.im, .complex .f32 t.a.re t.a.im, .complex .f32 t.b.re t.b.im, .complex .f32 t.c.re t.c.im, .complex .f32 t.d.re t.d.im] T)) W.heap.size s t :=
  ⟨by simp [go_sem], by simp [go_sem], by simp [go_sem], by simp [go_sem], by simp [go_sem], by simp [go_sem], by simp [go_sem], by simp [go_sem], by simp⟩

theorem TT.at (W : World) (T : TypeId) (s t : Tb) (B : Nat) (hB : B = W.heap.size) : TT (W.alloc (.cells #[.complex .f32 s.a.re s.a.im, .complex .f32 s.b.re s.b.im, .complex .f32 s.c.re s.c.im, .complex .f32 s.d.re s.d.im, .complex .f32 t.a.re t.a.im, .complex .f32 t.b.re t.b.im, .complex .f32 t.c.re t.c.im, .complex .f32 t.d.re t.d.im] T)) B s t := by
  subst hB
  exact TT.new W T s t

theorem TT.alloc {W : World} {b : Nat} {s t : Tb} (h : TT W b s t) (o : Obj) : TT (W.alloc o) b s t := h.below ((Below.refl W.heap.size W).alloc (Nat.le_refl _) _) h.lt

/-- A vector in a block of its own. -/
structure VC (W : World) (B : Nat) (x y z : Nat) : Prop where
  c0 : W.cell? ⟨B, 0, none⟩ = some (.float .f32 x)
  c1 : W.cell? ⟨B, 1, none⟩ = some (.float .f32 y)
  c2 : W.cell? ⟨B, 2, none⟩ = some (.float .f32 z)
  f0 : W.frozen? ⟨B, 0, none⟩ = false
  f1 : W.frozen? ⟨B, 1, none⟩ = false
  f2 : W.frozen? ⟨B, 2, none⟩ = false
  lt : B < W.heap.size

theorem VC.below {W W' : World} {B x y z : Nat} (h : VC W B x y z) (hb : Below W.heap.size W W') : VC W' B x y z :=
  ⟨(hb.cell (p := ⟨B, 0, none⟩) h.lt).trans h.c0, (hb.cell (p := ⟨B, 1, none⟩) h.lt).trans h.c1, (hb.cell (p := ⟨B, 2, none⟩) h.lt).trans h.c2,
   (hb.frozen (p := ⟨B, 0, none⟩) h.lt).trans h.f0, (hb.frozen (p := ⟨B, 1, none⟩) h.lt).trans h.f1, (hb.frozen (p := ⟨B, 2, none⟩) h.lt).trans h.f2, Nat.lt_of_lt_of_le h.lt hb.size⟩

theorem VC.alloc {W : World} {B x y z : Nat} (h : VC W B x y z) (o : Obj) : VC (W.alloc o) B x y z := h.below ((Below.refl _ _).alloc (Nat.le_refl _) _)

theorem VC.new (W : World) (T : TypeId) (x y z : Nat) : VC (W.alloc (.cells #[.float .f32 x, .float .f32 y, .float .f32 z] T)) W.heap.size x y z :=
  ⟨by simp [go_sem], by simp [go_sem], by simp [go_sem], by simp [go_sem], by simp [go_sem], by simp [go_sem], by simp⟩

theorem VC.far1 {W : World} {B b i x y z : Nat} (h : VC W B x y z) (hne : b ≠ B) (v : Value) : VC (W.setCell ⟨b, i, none⟩ v) B x y z :=
  ⟨(World.cell?_setCell_far W ⟨b, i, none⟩ ⟨B, 0, none⟩ v hne).trans h.c0, (World.cell?_setCell_far W ⟨b, i, none⟩ ⟨B, 1, none⟩ v hne).trans h.c1, (World.cell?_setCell_far W ⟨b, i, none⟩ ⟨B, 2, none⟩ v hne).trans h.c2,
   by simp [h.f0], by simp [h.f1], by simp [h.f2], by have := h.lt; simpa using this⟩

theorem VC.far {W : World} {B b x y z : Nat} (h : VC W B x y z) (hne : b ≠ B) (p q r s : Value) : VC ((((W.setCell ⟨b, 0, none⟩ p).setCell ⟨b, 1, none⟩ q).setCell ⟨b, 2, none⟩ r).setCell ⟨b, 3, none⟩ s) B x y z :=
  (((h.far1 hne p).far1 hne q).far1 hne r).far1 hne s

/-- Behind a region the world is told by what matters of it. -/
theorem world_cut {K : Act → World → Prop} {Q : Exit → Act → World → Prop} {a : Act} {W w : World} {T R : Nat} {M : Tb} (h1 : TC W T M) (h2 : VC W R 0 0 0) (h3 : Below w.heap.size w W)
    (k : ∀ W', TC W' T M → VC W' R 0 0 0 → Below w.heap.size w W' → Exit.then K Q .normal a W') : Exit.then K Q .normal a W := k W h1 h2 h3

end Go.Proofs.Ytlglbinalocilaa
