/- Float32 operations whatever comes: what a word is worth, or that it is no number; each operation by what its operands are worth. -/
import Derived.Test.YtibmaflcfmphgaaMem
namespace Go.Proofs.Ytibmaflcfmphgaa
open Go.RowKit

/-- A word, and what it is worth: that word, or what is not a number. -/
def Fw (o : Option Nat) (b : Nat) : Prop := b < 4294967296 ∧ match o with
  | some v => b = v
  | none => isNaN .f32 b

def opO (op : BinOp) : Option Nat → Option Nat → Option Nat
  | some x, some y => floatBits op .f32 x y
  | _, _ => none

/-- A finite number, if that is what it is worth. -/
def finO : Option Nat → Bool
  | some v => fin v
  | none => false

theorem fw_some {x : Nat} (h : x < 4294967296) : Fw (some x) x := ⟨h, rfl⟩

theorem nan_fin {b : Nat} (hb : b < 4294967296) (h : isNaN .f32 b) : fin b = false := by
  cases hf : fin b
  · rfl
  · exfalso
    obtain ⟨s, t, h⟩ := h
    obtain ⟨s', m, e, hr, _, _⟩ := fin_fit b hb hf
    have : Ieee.single.read b = .nan s t := h
    rw [hr] at this
    cases this

theorem fw_fin {o : Option Nat} {b : Nat} (h : Fw o b) : fin b = finO o := by
  obtain ⟨hb, h⟩ := h
  cases o with
  | none => exact nan_fin hb h
  | some v => cases h; rfl

theorem nan_left {op : BinOp} {x y : Nat} (hop : op = .add ∨ op = .sub ∨ op = .mul ∨ op = .quo) (h : isNaN .f32 x) : floatBits op .f32 x y = none := by
  obtain ⟨s, t, h⟩ := h
  have h : Ieee.single.read x = .nan s t := h
  rcases hop with rfl | rfl | rfl | rfl
  · show Ieee.single.add x y = none
    unfold Ieee.Format.add; rw [h]; rfl
  · show Ieee.single.sub x y = none
    unfold Ieee.Format.sub; rw [h]; rfl
  · show Ieee.single.mul x y = none
    unfold Ieee.Format.mul; rw [h]; rfl
  · show Ieee.single.div x y = none
    unfold Ieee.Format.div; rw [h]; rfl

theorem nan_right {op : BinOp} {x y : Nat} (hop : op = .add ∨ op = .sub ∨ op = .mul ∨ op = .quo) (h : isNaN .f32 y) : floatBits op .f32 x y = none := by
  obtain ⟨s, t, h⟩ := h
  have h : Ieee.single.read y = .nan s t := h
  rcases hop with rfl | rfl | rfl | rfl
  · show Ieee.single.add x y = none
    unfold Ieee.Format.add; rw [h]; cases Ieee.single.read x <;> rfl
  · show Ieee.single.sub x y = none
    unfold Ieee.Format.sub; rw [h]; cases Ieee.single.read x <;> rfl
  · show Ieee.single.mul x y = none
    unfold Ieee.Format.mul; rw [h]; cases Ieee.single.read x <;> rfl
  · show Ieee.single.div x y = none
    unfold Ieee.Format.div; rw [h]; cases Ieee.single.read x <;> rfl

theorem nan_lt (t : Nat) : (t % 2) * 2 ^ 31 + 0x7f800000 + 1 + (t / 2) % (2 ^ 23 - 1) < 4294967296 := by
  have : (t / 2) % (2 ^ 23 - 1) < 8388607 := Nat.mod_lt _ (by omega)
  generalize (t / 2) % (2 ^ 23 - 1) = z at *
  omega

theorem write_lt (d : Ieee.Datum) : Ieee.single.write d < 4294967296 ∨ ∃ s t, d = .nan s t := by
  cases d with
  | nan s t => exact .inr ⟨s, t, rfl⟩
  | infinity s =>
    left
    show Ieee.single.word s 2139095040 < 4294967296
    unfold Ieee.Format.word
    rw [Flt.s_sw]
    cases s <;> simp
  | number s m e => left; exact (Ieee.Format.nearest_lt Ieee.single s m e : _)

theorem floatBits_lt {op : BinOp} {x y r : Nat} (h : floatBits op .f32 x y = some r) : r < 4294967296 := by
  have := floatBits_wf h
  simpa [Lit.wf] using this

/-- One operation, whatever comes. -/
theorem op_run {P : Program} (w : World) (op : BinOp) (t : TypeId) {o p : Option Nat} {x y : Nat} (hop : op = .add ∨ op = .sub ∨ op = .mul ∨ op = .quo) (hx : Fw o x) (hy : Fw p y) :
    ∃ b n, (binOp op t (.float .f32 x) (.float .f32 y)).run P w = .ok (.float .f32 b) (w.drewN n) ∧ Fw (opO op o p) b := by
  cases hr : floatBits op .f32 x y with
  | some r =>
    refine ⟨r, 0, run_float_arith w op t .f32 x y r hr, floatBits_lt hr, ?_⟩
    cases o with
    | none => rw [nan_left hop hx.2] at hr; cases hr
    | some v =>
      cases p with
      | none => rw [nan_right hop hy.2] at hr; cases hr
      | some u =>
        obtain ⟨_, rfl⟩ := hx
        obtain ⟨_, rfl⟩ := hy
        show match floatBits op .f32 _ _ with
          | some v => r = v
          | none => isNaN .f32 r
        rw [hr]
  | none =>
    refine ⟨(Question.nanBits .f32 x y).cut (w.tape w.drawn (.nanBits .f32 x y)), 1, ?_, ⟨nan_lt _, ?_⟩⟩
    · unfold floatBits at hr
      rcases hop with rfl | rfl | rfl | rfl <;> simp only at hr <;> simp [binOp, Op.floatArith, hr, Question.forced] <;> rfl
    · have hn : isNaN .f32 ((Question.nanBits .f32 x y).cut (w.tape w.drawn (.nanBits .f32 x y))) := nan32 _
      cases o with
      | none => exact hn
      | some v =>
        cases p with
        | none => exact hn
        | some u =>
          obtain ⟨_, rfl⟩ := hx
          obtain ⟨_, rfl⟩ := hy
          show match floatBits op .f32 _ _ with
            | some v => _ = v
            | none => isNaN .f32 _
          rw [hr]
          exact hn
end Go.Proofs.Ytibmaflcfmphgaa
