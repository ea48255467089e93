/- Walks: memory, numbers and what is none. -/
import Derived.Test.YtfplcckfljemeaaW1
import Derived.RegionTactic
import Derived.LoopTactic
import Derived.Below
import Derived.Lib.Hide
import Derived.Deep.QuietTactic
import Derived.BigQuiet
namespace Go.Proofs.Ytfplcckfljemeaa
open Go.RowKit

@[go_sem] theorem run_store_float (P : Program) (w : World) (a : Addr) (m : Mode) (k : FloatKind) (n : Nat) : (store a (.float k n) m).run P w = stored P w a (.float k n) m := run_store P w a _ m rfl

@[go_sem] theorem run_store_complex (P : Program) (w : World) (a : Addr) (m : Mode) (k : FloatKind) (x y : Nat) : (store a (.complex k x y) m).run P w = stored P w a (.complex k x y) m := run_store P w a _ m rfl

@[go_sem] theorem run_neg_float (P : Program) (w : World) (k : FloatKind) (b : Nat) : (Op.unary .neg (.float k b)).run P w = .ok (.float k (Op.negFloat k b)) w := rfl

@[go_sem] theorem run_neg_complex (P : Program) (w : World) (k : FloatKind) (a b : Nat) : (Op.unary .neg (.complex k a b)).run P w = .ok (.complex k (Op.negFloat k a) (Op.negFloat k b)) w := rfl

/-- x - x: 0 of a number, else what is not a number. -/
theorem less_any (x : Nat) (w : World) (t : TypeId) (hx : x < 4294967296) :
    ∃ z n, (binOp .sub t (.float .f32 x) (.float .f32 x)).run Try.prog w = .ok (.float .f32 z) (w.drewN n) ∧ (FloatKind.f32.format.order z 0 == some .eq) = fin x := by
  cases h : fin x
  · obtain ⟨b, hn, hop⟩ := run_float_nan (P := Try.prog) w .sub t .f32 x x (.inr (.inl rfl)) (less_none x hx h)
    exact ⟨b, 1, hop, by rw [nan_order hn]; rfl⟩
  · exact ⟨0, 0, run_float_arith w .sub t .f32 _ _ _ (less_self x hx h), by decide +kernel⟩

theorem bcell {W w1 : World} (hb : Below W.heap.size W w1) : (∀ b o, b < W.heap.size → w1.cell? ⟨b, o, none⟩ = W.cell? ⟨b, o, none⟩) ∧ (∀ b o, b < W.heap.size → w1.frozen? ⟨b, o, none⟩ = W.frozen? ⟨b, o, none⟩) :=
  ⟨fun b o h => hb.cell (p := ⟨b, o, none⟩) h, fun b o h => hb.frozen (p := ⟨b, o, none⟩) h⟩

/-- A call that leaves the world alone, in a quiet walk that began behind draws. -/
theorem still_call {f : FuncId} {args : Array Value} {v : Value} (c : ∀ W : World, Calls Try.prog f args W fun e w' => e = .returned v ∧ W = w') (w : World) (a n : Nat) :
    Calls Try.prog f args (w.drewN (a + n)) fun e w' => e = .returned v ∧ ∃ m, w' = w.drewN (a + m) := by
  refine (c (w.drewN (a + n))).mono ?_
  rintro e w' ⟨he, rfl⟩
  exact ⟨he, n, rfl⟩

theorem below_step {B : Nat} {a W w' : World} (h : Below W.heap.size W w') (h1 : Below B a W) (h2 : B ≤ W.heap.size) : Below B a w' := h1.trans (h.mono h2)

/-- A call that makes memory of its own, behind others and behind draws. -/
theorem below_call {B : Nat} {a W w' : World} {n : Nat} (h : Below (W.drewN n).heap.size (W.drewN n) w') (h1 : Below B a W) (h2 : B ≤ a.heap.size) : Below B a w' :=
  below_step h (below_drewN h1 n) (Nat.le_trans h2 h1.size)
end Go.Proofs.Ytfplcckfljemeaa
