/- Walks: powers of two. Walks: numbers by their bits, finite numbers. Walks: memory, numbers and what is none. Float32 operations whatever comes: what a word is worth, or that it is no number; each operation by what its operands are worth. -/
import Derived.Test.YtaghfffbhgpalaaWA
import Derived.RegionTactic
import Derived.LoopTactic
import Derived.Below
import Derived.Lib.Hide
import Derived.Deep.QuietTactic
import Derived.BigQuiet
namespace Go.Proofs.Ytaghfffbhgpalaa
open Go.RowKit

end Go.Proofs.Ytaghfffbhgpalaa

namespace Go.Proofs.Ytaghfffbhgpalaa
open Go.RowKit

theorem run_f32bits (b : Nat) (w : World) : (callFunc 55 #[.float .f32 b]).run Try.prog w = .ok (.value (.int .u32 b)) w := by
  rw [run_callFunc_extern (e := Extern.MathFloatBits.float32bits) Try.func55 (by kernel_rfl) (by kernel_rfl) (by kernel_rfl) (by kernel_rfl)]
  rfl

theorem andNot_sign (x : Nat) (hx : x < 4294967296) : bits .andNot .u32 (x : Int) 2147483648 = (mag x : Int) := by
  have h := Go.u32_andNot_nat x 2147483648 hx (by omega)
  rw [show ((2147483648 : Nat) : Int) = 2147483648 from rfl] at h
  rw [h, show (4294967295 - 2147483648 : Nat) = 2 ^ 31 - 1 from rfl, Nat.and_two_pow_sub_one_eq_mod]; rfl

/-- The bits of a float32 without its sign. -/
theorem bits_any (x : Nat) (w : World) (hx : x < 4294967296) :
    Calls Try.prog 42 #[.float .f32 x] w fun e w' => e = .returned (.int .i64 (mag x)) ∧ w = w' := by
  have hr := run_f32bits x
  have hb := andNot_sign x hx
  have hm := mag_lt x
  go_enter Try.func42, Try.ntmps42
  go_wp2
  go_ret
  exact ⟨rfl, rfl⟩

theorem isNumber_any (x : Nat) (w : World) (hx : x < 4294967296) :
    Calls Try.prog 26 #[.float .f32 x] w fun e w' => e = .returned (.bool (fin x)) ∧ w = w' := by
  have hd : decide ((mag x : Int) ≤ 2139095039) = fin x := by
    unfold fin; exact decide_eq_decide.2 (by omega)
  go_enter Try.func26, Try.ntmps26
  go_wp2_with (go_at_call 42; refine (bits_any _ _ hx).mono ?_; rintro e w' ⟨rfl, rfl⟩)
  go_ret
  exact ⟨rfl, rfl⟩


/-- 'x - x == 0' of a finite one. -/
theorem fine_yes (x : Nat) (w : World) (hx : x < 4294967296) (h : fin x = true) :
    Calls Try.prog 22 #[.float .f32 x] w fun e w' => e = .returned (.bool true) ∧ w = w' := by
  have hs := less_self x hx h
  have hop : ∀ t w, (binOp .sub t (.float .f32 x) (.float .f32 x)).run Try.prog w = .ok (.float .f32 0) w := fun t w => run_float_arith w .sub t .f32 _ _ _ hs
  have ho : (FloatKind.f32.format.order 0 0 == some .eq) = true := by decide +kernel
  go_enter Try.func22, Try.ntmps22
  go_wp2_with (simp only [hop])
  go_ret
  exact ⟨rfl, rfl⟩

theorem fine_no (x : Nat) (w : World) (hx : x < 4294967296) (h : fin x = false) :
    Calls Try.prog 22 #[.float .f32 x] w fun e w' => e = .returned (.bool false) ∧ w.drewN 1 = w' := by
  obtain ⟨b, hn, hop⟩ := run_float_nan (P := Try.prog) w .sub 22 .f32 x x (.inr (.inl rfl)) (less_none x hx h)
  have ho : (FloatKind.f32.format.order b 0 == some .eq) = false := by rw [nan_order hn]; rfl
  clear hn
  go_enter Try.func22, Try.ntmps22
  go_wp2_with (simp only [hop])
  go_ret
  exact ⟨rfl, rfl⟩

end Go.Proofs.Ytaghfffbhgpalaa

namespace Go.Proofs.Ytaghfffbhgpalaa
open Go.RowKit

@[go_sem] theorem run_store_float (P : Program) (w : World) (a : Addr) (m : Mode) (k : FloatKind) (n : Nat) : (store a (.float k n) m).run P w = stored P w a (.float k n) m := run_store P w a _ m rfl

@[go_sem] theorem run_store_complex (P : Program) (w : World) (a : Addr) (m : Mode) (k : FloatKind) (x y : Nat) : (store a (.complex k x y) m).run P w = stored P w a (.complex k x y) m := run_store P w a _ m rfl

@[go_sem] theorem run_neg_float (P : Program) (w : World) (k : FloatKind) (b : Nat) : (Op.unary .neg (.float k b)).run P w = .ok (.float k (Op.negFloat k b)) w := rfl

@[go_sem] theorem run_neg_complex (P : Program) (w : World) (k : FloatKind) (a b : Nat) : (Op.unary .neg (.complex k a b)).run P w = .ok (.complex k (Op.negFloat k a) (Op.negFloat k b)) w := rfl

/-- x - x: 0 of a number, else what is not a number. -/
theorem less_any (x : Nat) (w : World) (t : TypeId) (hx : x < 4294967296) :
    ∃ z n, (binOp .sub t (.float .f32 x) (.float .f32 x)).run Try.prog w = .ok (.float .f32 z) (w.drewN n) ∧ (FloatKind.f32.format.order z 0 == some .eq) = fin x := by
  cases h : fin x
  · obtain ⟨b, hn, hop⟩ := run_float_nan (P := Try.prog) w .sub t .f32 x x (.inr (.inl rfl)) (less_none x hx h)
    exact ⟨b, 1, hop, by rw [nan_order hn]; rfl⟩
  · exact ⟨0, 0, run_float_arith w .sub t .f32 _ _ _ (less_self x hx h), by decide +kernel⟩

theorem bcell {W w1 : World} (hb : Below W.heap.size W w1) : (∀ b o, b < W.heap.size → w1.cell? ⟨b, o, none⟩ = W.cell? ⟨b, o, none⟩) ∧ (∀ b o, b < W.heap.size → w1.frozen? ⟨b, o, none⟩ = W.frozen? ⟨b, o, none⟩) :=
  ⟨fun b o h => hb.cell (p := ⟨b, o, none⟩) h, fun b o h => hb.frozen (p := ⟨b, o, none⟩) h⟩

theorem fine_any (x : Nat) (w : World) (hx : x < 4294967296) :
    Calls Try.prog 22 #[.float .f32 x] w fun e w' => e = .returned (.bool (fin x)) ∧ ∃ n, w.drewN n = w' := by
  cases h : fin x
  · exact (fine_no x w hx h).mono fun e w' ⟨a, b⟩ => ⟨a, 1, b⟩
  · exact (fine_yes x w hx h).mono fun e w' ⟨a, b⟩ => ⟨a, 0, b⟩

/-- A call that leaves the world alone, in a quiet walk that began behind draws. -/
theorem still_call {f : FuncId} {args : Array Value} {v : Value} (c : ∀ W : World, Calls Try.prog f args W fun e w' => e = .returned v ∧ W = w') (w : World) (a n : Nat) :
    Calls Try.prog f args (w.drewN (a + n)) fun e w' => e = .returned v ∧ ∃ m, w' = w.drewN (a + m) := by
  refine (c (w.drewN (a + n))).mono ?_
  rintro e w' ⟨he, rfl⟩
  exact ⟨he, n, rfl⟩

theorem below_step {B : Nat} {a W w' : World} (h : Below W.heap.size W w') (h1 : Below B a W) (h2 : B ≤ W.heap.size) : Below B a w' := h1.trans (h.mono h2)

/-- A call that makes memory of its own, behind others and behind draws. -/
theorem below_call {B : Nat} {a W w' : World} {n : Nat} (h : Below (W.drewN n).heap.size (W.drewN n) w') (h1 : Below B a W) (h2 : B ≤ a.heap.size) : Below B a w' :=
  below_step h (below_drewN h1 n) (Nat.le_trans h2 h1.size)

end Go.Proofs.Ytaghfffbhgpalaa

namespace Go.Proofs.Ytaghfffbhgpalaa
open Go.RowKit

/-- A word, and what it is worth: that word, or what is not a number. -/
def Fw (o : Option Nat) (b : Nat) : Prop := b < 4294967296 ∧ match o with
  | some v => b = v
  | none => isNaN .f32 b

def opO (op : BinOp) : Option Nat → Option Nat → Option Nat
  | some x, some y => floatBits op .f32 x y
  | _, _ => none

/-- A finite number, if that is what it is worth. -/
def finO : Option Nat → Bool
  | some v => fin v
  | none => false

theorem fw_some {x : Nat} (h : x < 4294967296) : Fw (some x) x := ⟨h, rfl⟩

theorem nan_fin {b : Nat} (hb : b < 4294967296) (h : isNaN .f32 b) : fin b = false := by
  cases hf : fin b
  · rfl
  · exfalso
    obtain ⟨s, t, h⟩ := h
    obtain ⟨s', m, e, hr, _, _⟩ := fin_fit b hb hf
    have : Ieee.single.read b = .nan s t := h
    rw [hr] at this
    cases this

theorem fw_fin {o : Option Nat} {b : Nat} (h : Fw o b) : fin b = finO o := by
  obtain ⟨hb, h⟩ := h
  cases o with
  | none => exact nan_fin hb h
  | some v => cases h; rfl

theorem nan_left {op : BinOp} {x y : Nat} (hop : op = .add ∨ op = .sub ∨ op = .mul ∨ op = .quo) (h : isNaN .f32 x) : floatBits op .f32 x y = none := by
  obtain ⟨s, t, h⟩ := h
  have h : Ieee.single.read x = .nan s t := h
  rcases hop with rfl | rfl | rfl | rfl
  · show Ieee.single.add x y = none
    unfold Ieee.Format.add; rw [h]; rfl
  · show Ieee.single.sub x y = none
    unfold Ieee.Format.sub; rw [h]; rfl
  · show Ieee.single.mul x y = none
    unfold Ieee.Format.mul; rw [h]; rfl
  · show Ieee.single.div x y = none
    unfold Ieee.Format.div; rw [h]; rfl

theorem nan_right {op : BinOp} {x y : Nat} (hop : op = .add ∨ op = .sub ∨ op = .mul ∨ op = .quo) (h : isNaN .f32 y) : floatBits op .f32 x y = none := by
  obtain ⟨s, t, h⟩ := h
  have h : Ieee.single.read y = .nan s t := h
  rcases hop with rfl | rfl | rfl | rfl
  · show Ieee.single.add x y = none
    unfold Ieee.Format.add; rw [h]; cases Ieee.single.read x <;> rfl
  · show Ieee.single.sub x y = none
    unfold Ieee.Format.sub; rw [h]; cases Ieee.single.read x <;> rfl
  · show Ieee.single.mul x y = none
    unfold Ieee.Format.mul; rw [h]; cases Ieee.single.read x <;> rfl
  · show Ieee.single.div x y = none
    unfold Ieee.Format.div; rw [h]; cases Ieee.single.read x <;> rfl

theorem nan_lt (t : Nat) : (t % 2) * 2 ^ 31 + 0x7f800000 + 1 + (t / 2) % (2 ^ 23 - 1) < 4294967296 := by
  have : (t / 2) % (2 ^ 23 - 1) < 8388607 := Nat.mod_lt _ (by omega)
  generalize (t / 2) % (2 ^ 23 - 1) = z at *
  omega

theorem write_lt (d : Ieee.Datum) : Ieee.single.write d < 4294967296 ∨ ∃ s t, d = .nan s t := by
  cases d with
  | nan s t => exact .inr ⟨s, t, rfl⟩
  | infinity s =>
    left
    show Ieee.single.word s 2139095040 < 4294967296
    unfold Ieee.Format.word
    rw [Flt.s_sw]
    cases s <;> simp
  | number s m e => left; exact (Ieee.Format.nearest_lt Ieee.single s m e : _)

theorem floatBits_lt {op : BinOp} {x y r : Nat} (h : floatBits op .f32 x y = some r) : r < 4294967296 := by
  have := floatBits_wf h
  simpa [Lit.wf] using this

/-- One operation, whatever comes. -/
theorem op_run {P : Program} (w : World) (op : BinOp) (t : TypeId) {o p : Option Nat} {x y : Nat} (hop : op = .add ∨ op = .sub ∨ op = .mul ∨ op = .quo) (hx : Fw o x) (hy : Fw p y) :
    ∃ b n, (binOp op t (.float .f32 x) (.float .f32 y)).run P w = .ok (.float .f32 b) (w.drewN n) ∧ Fw (opO op o p) b := by
  cases hr : floatBits op .f32 x y with
  | some r =>
    refine ⟨r, 0, run_float_arith w op t .f32 x y r hr, floatBits_lt hr, ?_⟩
    cases o with
    | none => rw [nan_left hop hx.2] at hr; cases hr
    | some v =>
      cases p with
      | none => rw [nan_right hop hy.2] at hr; cases hr
      | some u =>
        obtain ⟨_, rfl⟩ := hx
        obtain ⟨_, rfl⟩ := hy
        show match floatBits op .f32 _ _ with
          | some v => r = v
          | none => isNaN .f32 r
        rw [hr]
  | none =>
    refine ⟨(Question.nanBits .f32 x y).cut (w.tape w.drawn (.nanBits .f32 x y)), 1, ?_, ⟨nan_lt _, ?_⟩⟩
    · unfold floatBits at hr
      rcases hop with rfl | rfl | rfl | rfl <;> simp only at hr <;> simp [binOp, Op.floatArith, hr, Question.forced] <;> rfl
    · have hn : isNaN .f32 ((Question.nanBits .f32 x y).cut (w.tape w.drawn (.nanBits .f32 x y))) := nan32 _
      cases o with
      | none => exact hn
      | some v =>
        cases p with
        | none => exact hn
        | some u =>
          obtain ⟨_, rfl⟩ := hx
          obtain ⟨_, rfl⟩ := hy
          show match floatBits op .f32 _ _ with
            | some v => _ = v
            | none => isNaN .f32 _
          rw [hr]
          exact hn

end Go.Proofs.Ytaghfffbhgpalaa
