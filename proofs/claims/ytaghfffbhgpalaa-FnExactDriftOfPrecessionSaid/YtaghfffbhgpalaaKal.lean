/- Float32 operations whatever comes: what a word is worth, or that it is no number; each operation by what its operands are worth. Walks: vectors of three float32. Arrays held against each other: element by element. -/
import Derived.Test.YtaghfffbhgpalaaKaf
import Derived.Test.YtaghfffbhgpalaaKae
import Derived.RegionTactic
import Derived.LoopTactic
import Derived.Below
namespace Go.Proofs.Ytaghfffbhgpalaa
open Go.RowKit

/-- A word, and what it is worth: that word, or what is not a number. -/
def Fw (o : Option Nat) (b : Nat) : Prop := b < 4294967296 ∧ match o with
  | some v => b = v
  | none => isNaN .f32 b

def opO (op : BinOp) : Option Nat → Option Nat → Option Nat
  | some x, some y => floatBits op .f32 x y
  | _, _ => none

/-- A finite number, if that is what it is worth. -/
def finO : Option Nat → Bool
  | some v => fin v
  | none => false

theorem fw_some {x : Nat} (h : x < 4294967296) : Fw (some x) x := ⟨h, rfl⟩

theorem nan_fin {b : Nat} (hb : b < 4294967296) (h : isNaN .f32 b) : fin b = false := by
  cases hf : fin b
  · rfl
  · exfalso
    obtain ⟨s, t, h⟩ := h
    obtain ⟨s', m, e, hr, _, _⟩ := fin_fit b hb hf
    have : Ieee.single.read b = .nan s t := h
    rw [hr] at this
    cases this

theorem fw_fin {o : Option Nat} {b : Nat} (h : Fw o b) : fin b = finO o := by
  obtain ⟨hb, h⟩ := h
  cases o with
  | none => exact nan_fin hb h
  | some v => cases h; rfl

theorem nan_left {op : BinOp} {x y : Nat} (hop : op = .add ∨ op = .sub ∨ op = .mul ∨ op = .quo) (h : isNaN .f32 x) : floatBits op .f32 x y = none := by
  obtain ⟨s, t, h⟩ := h
  have h : Ieee.single.read x = .nan s t := h
  rcases hop with rfl | rfl | rfl | rfl
  · show Ieee.single.add x y = none
    unfold Ieee.Format.add; rw [h]; rfl
  · show Ieee.single.sub x y = none
    unfold Ieee.Format.sub; rw [h]; rfl
  · show Ieee.single.mul x y = none
    unfold Ieee.Format.mul; rw [h]; rfl
  · show Ieee.single.div x y = none
    unfold Ieee.Format.div; rw [h]; rfl

theorem nan_right {op : BinOp} {x y : Nat} (hop : op = .add ∨ op = .sub ∨ op = .mul ∨ op = .quo) (h : isNaN .f32 y) : floatBits op .f32 x y = none := by
  obtain ⟨s, t, h⟩ := h
  have h : Ieee.single.read y = .nan s t := h
  rcases hop with rfl | rfl | rfl | rfl
  · show Ieee.single.add x y = none
    unfold Ieee.Format.add; rw [h]; cases Ieee.single.read x <;> rfl
  · show Ieee.single.sub x y = none
    unfold Ieee.Format.sub; rw [h]; cases Ieee.single.read x <;> rfl
  · show Ieee.single.mul x y = none
    unfold Ieee.Format.mul; rw [h]; cases Ieee.single.read x <;> rfl
  · show Ieee.single.div x y = none
    unfold Ieee.Format.div; rw [h]; cases Ieee.single.read x <;> rfl

theorem nan_lt (t : Nat) : (t % 2) * 2 ^ 31 + 0x7f800000 + 1 + (t / 2) % (2 ^ 23 - 1) < 4294967296 := by
  have : (t / 2) % (2 ^ 23 - 1) < 8388607 := Nat.mod_lt _ (by omega)
  generalize (t / 2) % (2 ^ 23 - 1) = z at *
  omega

theorem write_lt (d : Ieee.Datum) : Ieee.single.write d < 4294967296 ∨ ∃ s t, d = .nan s t := by
  cases d with
  | nan s t => exact .inr ⟨s, t, rfl⟩
  | infinity s =>
    left
    show Ieee.single.word s 2139095040 < 4294967296
    unfold Ieee.Format.word
    rw [Flt.s_sw]
    cases s <;> simp
  | number s m e => left; exact (Ieee.Format.nearest_lt Ieee.single s m e : _)

theorem floatBits_lt {op : BinOp} {x y r : Nat} (h : floatBits op .f32 x y = some r) : r < 4294967296 := by
  have := floatBits_wf h
  simpa [Lit.wf] using this

/-- One operation, whatever comes. -/
theorem op_run {P : Program} (w : World) (op : BinOp) (t : TypeId) {o p : Option Nat} {x y : Nat} (hop : op = .add ∨ op = .sub ∨ op = .mul ∨ op = .quo) (hx : Fw o x) (hy : Fw p y) :
    ∃ b n, (binOp op t (.float .f32 x) (.float .f32 y)).run P w = .ok (.float .f32 b) (w.drewN n) ∧ Fw (opO op o p) b := by
  cases hr : floatBits op .f32 x y with
  | some r =>
    refine ⟨r, 0, run_float_arith w op t .f32 x y r hr, floatBits_lt hr, ?_⟩
    cases o with
    | none => rw [nan_left hop hx.2] at hr; cases hr
    | some v =>
      cases p with
      | none => rw [nan_right hop hy.2] at hr; cases hr
      | some u =>
        obtain ⟨_, rfl⟩ := hx
        obtain ⟨_, rfl⟩ := hy
        show match floatBits op .f32 _ _ with
          | some v => r = v
          | none => isNaN .f32 r
        rw [hr]
  | none =>
    refine ⟨(Question.nanBits .f32 x y).cut (w.tape w.drawn (.nanBits .f32 x y)), 1, ?_, ⟨nan_lt _, ?_⟩⟩
    · unfold floatBits at hr
      rcases hop with rfl | rfl | rfl | rfl <;> simp only at hr <;> simp [binOp, Op.floatArith, hr, Question.forced] <;> rfl
    · have hn : isNaN .f32 ((Question.nanBits .f32 x y).cut (w.tape w.drawn (.nanBits .f32 x y))) := nan32 _
      cases o with
      | none => exact hn
      | some v =>
        cases p with
        | none => exact hn
        | some u =>
          obtain ⟨_, rfl⟩ := hx
          obtain ⟨_, rfl⟩ := hy
          show match floatBits op .f32 _ _ with
            | some v => _ = v
            | none => isNaN .f32 _
          rw [hr]
          exact hn

end Go.Proofs.Ytaghfffbhgpalaa

namespace Go.Proofs.Ytaghfffbhgpalaa
open Go.RowKit

set_option maxHeartbeats 400000 in
theorem toVector_any (a b c : Nat) (w : World) :
    Calls Try.prog 6 #[.agg #[.float .f32 a, .float .f32 b, .float .f32 c]] w fun e w' => e = .returned (.agg #[.float .f32 a, .float .f32 b, .float .f32 c]) ∧ Below w.heap.size w w' := by
  go_enter Try.func6, Try.ntmps6
  go_wp2
  generalize hW0 : ((w.alloc (.cells #[.float .f32 a, .float .f32 b, .float .f32 c] 23)).alloc (.cells #[.float .f32 0, .float .f32 0, .float .f32 0] 27)) = W0
  have hs : W0.heap.size = w.heap.size + 1 + 1 := by subst hW0; simp
  go_loopw [4] (fun i wr => (i = .int .i64 0 ∧ wr = W0.alloc (.cells #[.float .f32 0, .float .f32 0, .float .f32 0] 27)) ∨ (i = .int .i64 1 ∧ wr = W0.alloc (.cells #[.float .f32 a, .float .f32 0, .float .f32 0] 27)) ∨
      (i = .int .i64 2 ∧ wr = W0.alloc (.cells #[.float .f32 a, .float .f32 b, .float .f32 0] 27)) ∨ (i = .int .i64 3 ∧ wr = W0.alloc (.cells #[.float .f32 a, .float .f32 b, .float .f32 c] 27))) (fun i _ => 3 - (intOf i).toNat)
  case atStart => exact .inl ⟨rfl, rfl⟩
  case round =>
    clear hs
    subst hW0
    rcases hrel with ⟨rfl, rfl⟩ | ⟨rfl, rfl⟩ | ⟨rfl, rfl⟩ | ⟨rfl, rfl⟩
    · go_wp2
      go_roundw
      case rel => exact .inr (.inl ⟨by go_num, trivial⟩)
      case measure => simp [intOf]
    · go_wp2
      go_roundw
      case rel => exact .inr (.inr (.inl ⟨by go_num, trivial⟩))
      case measure => simp [intOf]
    · go_wp2
      go_roundw
      case rel => exact .inr (.inr (.inr ⟨by go_num, trivial⟩))
      case measure => simp [intOf]
    · go_wp2
      exact bodyPost_ret (v := .agg #[.float .f32 a, .float .f32 b, .float .f32 c]) (by simp [results, Try.results6, go_sem]) rfl ⟨rfl, (((Below.refl _ _).alloc (Nat.le_refl _) _).alloc (by simp) _).alloc (by simp; omega) _⟩

end Go.Proofs.Ytaghfffbhgpalaa

namespace Go.Proofs.Ytaghfffbhgpalaa
open Go.RowKit

def eqElems (d : Nat) (e : TypeId) (n : Nat) (xs ys : Array Value) : List Nat → Sem Bool
  | [] => pure true
  | i :: is => do
    let a ← part e xs (i * n)
    let b ← part e ys (i * n)
    let r ← Op.equalIn d e a b
    if (!r) = true then pure false else eqElems d e n xs ys is

theorem run_equalIn_array {P : Program} (w : World) (d len s : Nat) (t e : TypeId) (xs ys : Array Value) (ht : P.underlying t = some (.array len e)) (hs : (sizeOf e).run P w = .ok s w) :
    (Op.equalIn (d + 1) t (.agg xs) (.agg ys)).run P w = (eqElems d e s xs ys (List.range len)).run P w := by
  simp only [Op.equalIn, Sem.run_bind, run_underlying ht, Result.andThen_ok, hs]
  rw [Std.Legacy.Range.forIn_eq_forIn_range']
  rw [show List.range' [:len].start [:len].size [:len].step = List.range len by simp [List.range_eq_range', Std.Legacy.Range.size]]
  clear ht hs
  generalize List.range len = is
  induction is generalizing w with
  | nil => simp [eqElems]
  | cons i is ih =>
    simp only [List.forIn_cons, eqElems, Sem.run_bind]
    generalize (part e xs (i * s)).run P w = r1
    cases r1 with
    | ok a w1 =>
      simp only [Result.andThen_ok]
      generalize (part e ys (i * s)).run P w1 = r2
      cases r2 with
      | ok b w2 =>
        simp only [Result.andThen_ok]
        generalize (Op.equalIn d e a b).run P w2 = r3
        cases r3 with
        | ok r w3 =>
          cases r
          · simp [Sem.run_ite]
          · simp only [Result.andThen_ok, Bool.not_true, Bool.false_eq_true, if_false, Sem.run_pure, Sem.run_bind]
            exact ih w3
        | halt x w3 => simp [Result.andThen]
      | halt x w2 => simp [Result.andThen]
    | halt x w1 => simp [Result.andThen]

theorem run_equalIn_float {P : Program} (w : World) (d : Nat) (t : TypeId) (k k' : FloatKind) (a b : Nat) (h : P.underlying t = some (.float k')) : (Op.equalIn (d + 1) t (.float k a) (.float k b)).run P w = .ok (k.format.order a b == some .eq) w := by
  simp [Op.equalIn, run_underlying h, Op.floatEq]

theorem run_equalIn_complex {P : Program} (w : World) (d : Nat) (t : TypeId) (k k' : FloatKind) (a b a' b' : Nat) (h : P.underlying t = some (.complex k')) : (Op.equalIn (d + 1) t (.complex k a b) (.complex k a' b')).run P w = .ok ((k.format.order a a' == some .eq) && (k.format.order b b' == some .eq)) w := by
  simp [Op.equalIn, run_underlying h, Op.floatEq]

end Go.Proofs.Ytaghfffbhgpalaa
