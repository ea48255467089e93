/- Walks: vectors of three float32. Arrays held against each other: element by element. Walks: vectors and their sums. InnerOfVectors of the specification: sums of products, whatever comes. -/
import Derived.Test.YtaghfffbhgpalaaKac
import Derived.RegionTactic
import Derived.LoopTactic
import Derived.Below
import Derived.Lib.Hide
namespace Go.Proofs.Ytaghfffbhgpalaa
open Go.RowKit

set_option maxHeartbeats 400000 in
theorem toVector_any (a b c : Nat) (w : World) :
    Calls Try.prog 6 #[.agg #[.float .f32 a, .float .f32 b, .float .f32 c]] w fun e w' => e = .returned (.agg #[.float .f32 a, .float .f32 b, .float .f32 c]) ∧ Below w.heap.size w w' := by
  go_enter Try.func6, Try.ntmps6
  go_wp2
  generalize hW0 : ((w.alloc (.cells #[.float .f32 a, .float .f32 b, .float .f32 c] 23)).alloc (.cells #[.float .f32 0, .float .f32 0, .float .f32 0] 27)) = W0
  have hs : W0.heap.size = w.heap.size + 1 + 1 := by subst hW0; simp
  go_loopw [4] (fun i wr => (i = .int .i64 0 ∧ wr = W0.alloc (.cells #[.float .f32 0, .float .f32 0, .float .f32 0] 27)) ∨ (i = .int .i64 1 ∧ wr = W0.alloc (.cells #[.float .f32 a, .float .f32 0, .float .f32 0] 27)) ∨
      (i = .int .i64 2 ∧ wr = W0.alloc (.cells #[.float .f32 a, .float .f32 b, .float .f32 0] 27)) ∨ (i = .int .i64 3 ∧ wr = W0.alloc (.cells #[.float .f32 a, .float .f32 b, .float .f32 c] 27))) (fun i _ => 3 - (intOf i).toNat)
  case atStart => exact .inl ⟨rfl, rfl⟩
  case round =>
    clear hs
    subst hW0
    rcases hrel with ⟨rfl, rfl⟩ | ⟨rfl, rfl⟩ | ⟨rfl, rfl⟩ | ⟨rfl, rfl⟩
    · go_wp2
      go_roundw
      case rel => exact .inr (.inl ⟨by go_num, trivial⟩)
      case measure => simp [intOf]
    · go_wp2
      go_roundw
      case rel => exact .inr (.inr (.inl ⟨by go_num, trivial⟩))
      case measure => simp [intOf]
    · go_wp2
      go_roundw
      case rel => exact .inr (.inr (.inr ⟨by go_num, trivial⟩))
      case measure => simp [intOf]
    · go_wp2
      exact bodyPost_ret (v := .agg #[.float .f32 a, .float .f32 b, .float .f32 c]) (by simp [results, Try.results6, go_sem]) rfl ⟨rfl, (((Below.refl _ _).alloc (Nat.le_refl _) _).alloc (by simp) _).alloc (by simp; omega) _⟩

end Go.Proofs.Ytaghfffbhgpalaa

namespace Go.Proofs.Ytaghfffbhgpalaa
open Go.RowKit

def eqElems (d : Nat) (e : TypeId) (n : Nat) (xs ys : Array Value) : List Nat → Sem Bool
  | [] => pure true
  | i :: is => do
    let a ← part e xs (i * n)
    let b ← part e ys (i * n)
    let r ← Op.equalIn d e a b
    if (!r) = true then pure false else eqElems d e n xs ys is

theorem run_equalIn_array {P : Program} (w : World) (d len s : Nat) (t e : TypeId) (xs ys : Array Value) (ht : P.underlying t = some (.array len e)) (hs : (sizeOf e).run P w = .ok s w) :
    (Op.equalIn (d + 1) t (.agg xs) (.agg ys)).run P w = (eqElems d e s xs ys (List.range len)).run P w := by
  simp only [Op.equalIn, Sem.run_bind, run_underlying ht, Result.andThen_ok, hs]
  rw [Std.Legacy.Range.forIn_eq_forIn_range']
  rw [show List.range' [:len].start [:len].size [:len].step = List.range len by simp [List.range_eq_range', Std.Legacy.Range.size]]
  clear ht hs
  generalize List.range len = is
  induction is generalizing w with
  | nil => simp [eqElems]
  | cons i is ih =>
    simp only [List.forIn_cons, eqElems, Sem.run_bind]
    generalize (part e xs (i * s)).run P w = r1
    cases r1 with
    | ok a w1 =>
      simp only [Result.andThen_ok]
      generalize (part e ys (i * s)).run P w1 = r2
      cases r2 with
      | ok b w2 =>
        simp only [Result.andThen_ok]
        generalize (Op.equalIn d e a b).run P w2 = r3
        cases r3 with
        | ok r w3 =>
          cases r
          · simp [Sem.run_ite]
          · simp only [Result.andThen_ok, Bool.not_true, Bool.false_eq_true, if_false, Sem.run_pure, Sem.run_bind]
            exact ih w3
        | halt x w3 => simp [Result.andThen]
      | halt x w2 => simp [Result.andThen]
    | halt x w1 => simp [Result.andThen]

theorem run_equalIn_float {P : Program} (w : World) (d : Nat) (t : TypeId) (k k' : FloatKind) (a b : Nat) (h : P.underlying t = some (.float k')) : (Op.equalIn (d + 1) t (.float k a) (.float k b)).run P w = .ok (k.format.order a b == some .eq) w := by
  simp [Op.equalIn, run_underlying h, Op.floatEq]

theorem run_equalIn_complex {P : Program} (w : World) (d : Nat) (t : TypeId) (k k' : FloatKind) (a b a' b' : Nat) (h : P.underlying t = some (.complex k')) : (Op.equalIn (d + 1) t (.complex k a b) (.complex k a' b')).run P w = .ok ((k.format.order a a' == some .eq) && (k.format.order b b' == some .eq)) w := by
  simp [Op.equalIn, run_underlying h, Op.floatEq]

end Go.Proofs.Ytaghfffbhgpalaa

namespace Go.Proofs.Ytaghfffbhgpalaa
open Go.RowKit

/-- Two vectors held against each other. -/
theorem eql_vec (a b c a' b' c' : Nat) (w : World) :
    (binOp .eql 27 (.agg #[.float .f32 a, .float .f32 b, .float .f32 c]) (.agg #[.float .f32 a', .float .f32 b', .float .f32 c'])).run Try.prog w =
      .ok (.bool ((FloatKind.f32.format.order a a' == some .eq) && ((FloatKind.f32.format.order b b' == some .eq) && (FloatKind.f32.format.order c c' == some .eq)))) w := by
  rw [run_eql_struct]
  rw [run_equalIn_array w 9999 3 1 27 22 _ _ Try.underlying27 (by kernel_rfl)]
  have h0 : ∀ (x y z : Nat) (w : World), (part 22 #[.float .f32 x, .float .f32 y, .float .f32 z] (0 * 1)).run Try.prog w = .ok (.float .f32 x) w := fun _ _ _ _ => by kernel_rfl
  have h1 : ∀ (x y z : Nat) (w : World), (part 22 #[.float .f32 x, .float .f32 y, .float .f32 z] (1 * 1)).run Try.prog w = .ok (.float .f32 y) w := fun _ _ _ _ => by kernel_rfl
  have h2 : ∀ (x y z : Nat) (w : World), (part 22 #[.float .f32 x, .float .f32 y, .float .f32 z] (2 * 1)).run Try.prog w = .ok (.float .f32 z) w := fun _ _ _ _ => by kernel_rfl
  have he : ∀ (x y : Nat) (w : World), (Op.equalIn 9999 22 (.float .f32 x) (.float .f32 y)).run Try.prog w = .ok (FloatKind.f32.format.order x y == some .eq) w := fun x y w => run_equalIn_float w 9998 22 .f32 .f32 x y Try.underlying22
  show ((eqElems 9999 22 1 _ _ [0, 1, 2]).run Try.prog w).andThen _ = _
  simp only [eqElems, Sem.run_bind, h0, h1, h2, Result.andThen_ok, he, Sem.run_ite, Sem.run_pure]
  cases (FloatKind.f32.format.order a a' == some .eq) <;> cases (FloatKind.f32.format.order b b' == some .eq) <;> cases (FloatKind.f32.format.order c c' == some .eq) <;> rfl

set_option maxHeartbeats 400000 in
theorem isVector_any (a b c : Nat) (w : World) (ha : a < 4294967296) (hb : b < 4294967296) (hc : c < 4294967296) :
    Calls Try.prog 19 #[.agg #[.float .f32 a, .float .f32 b, .float .f32 c]] w fun e w' => e = .returned (.bool (fin a && fin b && fin c)) ∧ Below w.heap.size w w' := by
  obtain ⟨z0, n0, h0, o0⟩ := less_any a (w.alloc (.cells #[.float .f32 a, .float .f32 b, .float .f32 c] 27)) 22 ha
  obtain ⟨z1, n1, h1, o1⟩ := less_any b ((w.alloc (.cells #[.float .f32 a, .float .f32 b, .float .f32 c] 27)).drewN n0) 22 hb
  obtain ⟨z2, n2, h2, o2⟩ := less_any c ((w.alloc (.cells #[.float .f32 a, .float .f32 b, .float .f32 c] 27)).drewN (n0 + n1)) 22 hc
  have heq := eql_vec z0 z1 z2 0 0 0
  rw [o0, o1, o2] at heq
  clear ha hb hc o0 o1 o2
  generalize fin a = p at *
  generalize fin b = q at *
  generalize fin c = r at *
  go_enter Try.func19, Try.ntmps19
  go_wp2
  go_ret
  exact ⟨by rw [Bool.and_assoc]; rfl, below_drewN ((Below.refl _ _).alloc (Nat.le_refl _) _) _⟩

/-- The vector's result, or the limit. -/
def vecOr (k : Int) (a b c : Nat) : Value := if fin a && fin b && fin c then .tuple #[.agg #[.float .f32 a, .float .f32 b, .float .f32 c], .int .i64 0] else .tuple #[.agg #[.float .f32 0, .float .f32 0, .float .f32 0], .int .i64 k]

set_option maxHeartbeats 400000 in
theorem vectorOrLimit_any (a b c : Nat) (w : World) (ha : a < 4294967296) (hb : b < 4294967296) (hc : c < 4294967296) :
    Calls Try.prog 32 #[.agg #[.float .f32 a, .float .f32 b, .float .f32 c]] w fun e w' => e = .returned (vecOr 3 a b c) ∧ Below w.heap.size w w' := by
  have HV := Lib.hid (fun w => isVector_any a b c w ha hb hc)
  unfold vecOr
  clear ha hb hc
  generalize (fin a && fin b && fin c) = r at *
  cases r
  · go_enter Try.func32, Try.ntmps32
    go_wp2_with fail
    refine (HV.out _).mono ?_
    rintro e w1 ⟨rfl, hb1⟩
    obtain ⟨hc, hf⟩ := bcell hb1
    have hz : w.heap.size + 1 < w1.heap.size := by have := hb1.size; simp at this; omega
    have HB := Lib.hid hb1
    clear hb1
    go_wp2_with fail
    exact bodyPost_ret (v := .tuple #[.agg #[.float .f32 0, .float .f32 0, .float .f32 0], .int .i64 3]) (by simp [results, Try.results32, go_sem, hc, hz]) rfl ⟨rfl, (((((Below.refl _ _).alloc (Nat.le_refl _) _).alloc (by simp) _).trans (HB.out.mono (by simp; omega))).setCell (by simp) _).setCell (by simp) _ |>.setCell (by simp) _⟩
  · go_enter Try.func32, Try.ntmps32
    go_wp2_with fail
    refine (HV.out _).mono ?_
    rintro e w1 ⟨rfl, hb1⟩
    obtain ⟨hc, hf⟩ := bcell hb1
    have hz : w.heap.size + 1 < w1.heap.size := by have := hb1.size; simp at this; omega
    have HB := Lib.hid hb1
    clear hb1
    go_wp2_with fail
    exact bodyPost_ret (v := .tuple #[.agg #[.float .f32 a, .float .f32 b, .float .f32 c], .int .i64 0]) (by simp [results, Try.results32, go_sem, hc, hz]) rfl ⟨rfl, (((((Below.refl _ _).alloc (Nat.le_refl _) _).alloc (by simp) _).trans (HB.out.mono (by simp; omega))).setCell (by simp) _).setCell (by simp) _ |>.setCell (by simp) _⟩

end Go.Proofs.Ytaghfffbhgpalaa

namespace Go.Proofs.Ytaghfffbhgpalaa
open Go.RowKit

/-- What the inner product is worth. -/
def innO (a b c d e f : Nat) : Option Nat := opO .add (opO .add (opO .mul (some a) (some d)) (opO .mul (some b) (some e))) (opO .mul (some c) (some f))

def vec3 (a b c : Nat) : Value := .agg #[.float .f32 a, .float .f32 b, .float .f32 c]

set_option maxHeartbeats 400000 in
theorem l09Inner_ok (a b c d e f : Nat) (w : World) (ha : a < 4294967296) (hb : b < 4294967296) (hc : c < 4294967296) (hd : d < 4294967296) (he : e < 4294967296) (hf : f < 4294967296) :
    Calls Try.prog 33 #[.agg #[.float .f32 a, .float .f32 b, .float .f32 c], .agg #[.float .f32 d, .float .f32 e, .float .f32 f]] w fun x w' => (∃ z, x = .returned (.float .f32 z) ∧ Fw (innO a b c d e f) z) ∧ Below w.heap.size w w' := by
  unfold innO
  generalize hW : (w.alloc (.cells #[.float .f32 a, .float .f32 b, .float .f32 c] 27)).alloc (.cells #[.float .f32 d, .float .f32 e, .float .f32 f] 27) = W
  obtain ⟨z0, n0, h0, o0⟩ := op_run (P := Try.prog) W .mul 22 (by simp) (fw_some ha) (fw_some hd)
  obtain ⟨z1, n1, h1, o1⟩ := op_run (P := Try.prog) (W.drewN n0) .mul 22 (by simp) (fw_some hb) (fw_some he)
  obtain ⟨z2, n2, h2, o2⟩ := op_run (P := Try.prog) (W.drewN (n0 + n1)) .add 22 (by simp) o0 o1
  obtain ⟨z3, n3, h3, o3⟩ := op_run (P := Try.prog) (W.drewN (n0 + n1 + n2)) .mul 22 (by simp) (fw_some hc) (fw_some hf)
  obtain ⟨z4, n4, h4, o4⟩ := op_run (P := Try.prog) (W.drewN (n0 + n1 + n2 + n3)) .add 22 (by simp) o2 o3
  subst hW
  clear ha hb hc hd he hf o0 o1 o2 o3
  go_enter Try.func33, Try.ntmps33
  go_wp2
  go_ret
  exact ⟨⟨_, rfl, o4⟩, below_drewN (((Below.refl _ _).alloc (Nat.le_refl _) _).alloc (by simp) _) _⟩

end Go.Proofs.Ytaghfffbhgpalaa
