/- Walks: vectors and their sums. -/
import Derived.Test.YtlebkkbbjnkjoaaV1
import Derived.Test.YtlebkkbbjnkjoaaArr
import Derived.Lib.Hide
namespace Go.Proofs.Ytlebkkbbjnkjoaa
open Go.RowKit

/-- Two vectors held against each other. -/
theorem eql_vec (a b c a' b' c' : Nat) (w : World) :
    (binOp .eql 30 (.agg #[.float .f32 a, .float .f32 b, .float .f32 c]) (.agg #[.float .f32 a', .float .f32 b', .float .f32 c'])).run Try.prog w =
      .ok (.bool ((FloatKind.f32.format.order a a' == some .eq) && ((FloatKind.f32.format.order b b' == some .eq) && (FloatKind.f32.format.order c c' == some .eq)))) w := by
  rw [run_eql_struct]
  rw [run_equalIn_array w 9999 3 1 30 22 _ _ Try.underlying30 (by kernel_rfl)]
  have h0 : ∀ (x y z : Nat) (w : World), (part 22 #[.float .f32 x, .float .f32 y, .float .f32 z] (0 * 1)).run Try.prog w = .ok (.float .f32 x) w := fun _ _ _ _ => by kernel_rfl
  have h1 : ∀ (x y z : Nat) (w : World), (part 22 #[.float .f32 x, .float .f32 y, .float .f32 z] (1 * 1)).run Try.prog w = .ok (.float .f32 y) w := fun _ _ _ _ => by kernel_rfl
  have h2 : ∀ (x y z : Nat) (w : World), (part 22 #[.float .f32 x, .float .f32 y, .float .f32 z] (2 * 1)).run Try.prog w = .ok (.float .f32 z) w := fun _ _ _ _ => by kernel_rfl
  have he : ∀ (x y : Nat) (w : World), (Op.equalIn 9999 22 (.float .f32 x) (.float .f32 y)).run Try.prog w = .ok (FloatKind.f32.format.order x y == some .eq) w := fun x y w => run_equalIn_float w 9998 22 .f32 .f32 x y Try.underlying22
  show ((eqElems 9999 22 1 _ _ [0, 1, 2]).run Try.prog w).andThen _ = _
  simp only [eqElems, Sem.run_bind, h0, h1, h2, Result.andThen_ok, he, Sem.run_ite, Sem.run_pure]
  cases (FloatKind.f32.format.order a a' == some .eq) <;> cases (FloatKind.f32.format.order b b' == some .eq) <;> cases (FloatKind.f32.format.order c c' == some .eq) <;> rfl

set_option maxHeartbeats 400000 in
theorem isVector_any (a b c : Nat) (w : World) (ha : a < 4294967296) (hb : b < 4294967296) (hc : c < 4294967296) :
    Calls Try.prog 49 #[.agg #[.float .f32 a, .float .f32 b, .float .f32 c]] w fun e w' => e = .returned (.bool (fin a && fin b && fin c)) ∧ Below w.heap.size w w' := by
  obtain ⟨z0, n0, h0, o0⟩ := less_any a (w.alloc (.cells #[.float .f32 a, .float .f32 b, .float .f32 c] 30)) 22 ha
  obtain ⟨z1, n1, h1, o1⟩ := less_any b ((w.alloc (.cells #[.float .f32 a, .float .f32 b, .float .f32 c] 30)).drewN n0) 22 hb
  obtain ⟨z2, n2, h2, o2⟩ := less_any c ((w.alloc (.cells #[.float .f32 a, .float .f32 b, .float .f32 c] 30)).drewN (n0 + n1)) 22 hc
  have heq := eql_vec z0 z1 z2 0 0 0
  rw [o0, o1, o2] at heq
  clear ha hb hc o0 o1 o2
  generalize fin a = p at *
  generalize fin b = q at *
  generalize fin c = r at *
  go_enter Try.func49, Try.ntmps49
  go_wp2
  go_ret
  exact ⟨by rw [Bool.and_assoc]; rfl, below_drewN ((Below.refl _ _).alloc (Nat.le_refl _) _) _⟩

/-- The vector's result, or the limit. -/
def vecOr (k : Int) (a b c : Nat) : Value := if fin a && fin b && fin c then .tuple #[.agg #[.float .f32 a, .float .f32 b, .float .f32 c], .int .i64 0] else .tuple #[.agg #[.float .f32 0, .float .f32 0, .float .f32 0], .int .i64 k]

set_option maxHeartbeats 400000 in
theorem vectorOrLimit_any (a b c : Nat) (w : World) (ha : a < 4294967296) (hb : b < 4294967296) (hc : c < 4294967296) :
    Calls Try.prog 78 #[.agg #[.float .f32 a, .float .f32 b, .float .f32 c]] w fun e w' => e = .returned (vecOr 3 a b c) ∧ Below w.heap.size w w' := by
  have HV := Lib.hid (fun w => isVector_any a b c w ha hb hc)
  unfold vecOr
  clear ha hb hc
  generalize (fin a && fin b && fin c) = r at *
  cases r
  · go_enter Try.func78, Try.ntmps78
    go_wp2_with fail
    refine (HV.out _).mono ?_
    rintro e w1 ⟨rfl, hb1⟩
    obtain ⟨hc, hf⟩ := bcell hb1
    have hz : w.heap.size + 1 < w1.heap.size := by have := hb1.size; simp at this; omega
    have HB := Lib.hid hb1
    clear hb1
    go_wp2_with fail
    exact bodyPost_ret (v := .tuple #[.agg #[.float .f32 0, .float .f32 0, .float .f32 0], .int .i64 3]) (by simp [results, Try.results78, go_sem, hc, hz]) rfl ⟨rfl, (((((Below.refl _ _).alloc (Nat.le_refl _) _).alloc (by simp) _).trans (HB.out.mono (by simp; omega))).setCell (by simp) _).setCell (by simp) _ |>.setCell (by simp) _⟩
  · go_enter Try.func78, Try.ntmps78
    go_wp2_with fail
    refine (HV.out _).mono ?_
    rintro e w1 ⟨rfl, hb1⟩
    obtain ⟨hc, hf⟩ := bcell hb1
    have hz : w.heap.size + 1 < w1.heap.size := by have := hb1.size; simp at this; omega
    have HB := Lib.hid hb1
    clear hb1
    go_wp2_with fail
    exact bodyPost_ret (v := .tuple #[.agg #[.float .f32 a, .float .f32 b, .float .f32 c], .int .i64 0]) (by simp [results, Try.results78, go_sem, hc, hz]) rfl ⟨rfl, (((((Below.refl _ _).alloc (Nat.le_refl _) _).alloc (by simp) _).trans (HB.out.mono (by simp; omega))).setCell (by simp) _).setCell (by simp) _ |>.setCell (by simp) _⟩
end Go.Proofs.Ytlebkkbbjnkjoaa
