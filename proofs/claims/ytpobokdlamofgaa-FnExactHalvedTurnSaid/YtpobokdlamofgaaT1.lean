/- Walks: four numbers, copied and looked at. -/
import Derived.Test.YtpobokdlamofgaaMem
import Derived.Test.YtpobokdlamofgaaArr
namespace Go.Proofs.Ytpobokdlamofgaa
open Go.RowKit

set_option maxHeartbeats 400000 in
theorem toParts_any (a b c d : Nat) (w : World) :
    Calls Try.prog 48 #[.agg #[.float .f32 a, .float .f32 b, .float .f32 c, .float .f32 d]] w fun e w' => e = .returned (.agg #[.float .f32 a, .float .f32 b, .float .f32 c, .float .f32 d]) ∧ Below w.heap.size w w' := by
  go_enter Try.func48, Try.ntmps48
  go_wp2
  generalize hW0 : ((w.alloc (.cells #[.float .f32 a, .float .f32 b, .float .f32 c, .float .f32 d] 36)).alloc (.cells #[.float .f32 0, .float .f32 0, .float .f32 0, .float .f32 0] 37)) = W0
  have hs : W0.heap.size = w.heap.size + 1 + 1 := by subst hW0; simp
  go_loopw [4] (fun i wr => (i = .int .i64 0 ∧ wr = W0.alloc (.cells #[.float .f32 0, .float .f32 0, .float .f32 0, .float .f32 0] 37)) ∨ (i = .int .i64 1 ∧ wr = W0.alloc (.cells #[.float .f32 a, .float .f32 0, .float .f32 0, .float .f32 0] 37)) ∨
      (i = .int .i64 2 ∧ wr = W0.alloc (.cells #[.float .f32 a, .float .f32 b, .float .f32 0, .float .f32 0] 37)) ∨ (i = .int .i64 3 ∧ wr = W0.alloc (.cells #[.float .f32 a, .float .f32 b, .float .f32 c, .float .f32 0] 37)) ∨ (i = .int .i64 4 ∧ wr = W0.alloc (.cells #[.float .f32 a, .float .f32 b, .float .f32 c, .float .f32 d] 37))) (fun i _ => 4 - (intOf i).toNat)
  case atStart => exact .inl ⟨rfl, rfl⟩
  case round =>
    clear hs
    subst hW0
    rcases hrel with ⟨rfl, rfl⟩ | ⟨rfl, rfl⟩ | ⟨rfl, rfl⟩ | ⟨rfl, rfl⟩ | ⟨rfl, rfl⟩
    · go_wp2
      go_roundw
      case rel => exact .inr (.inl ⟨by go_num, trivial⟩)
      case measure => simp [intOf]
    · go_wp2
      go_roundw
      case rel => exact .inr (.inr (.inl ⟨by go_num, trivial⟩))
      case measure => simp [intOf]
    · go_wp2
      go_roundw
      case rel => exact .inr (.inr (.inr (.inl ⟨by go_num, trivial⟩)))
      case measure => simp [intOf]
    · go_wp2
      go_roundw
      case rel => exact .inr (.inr (.inr (.inr ⟨by go_num, trivial⟩)))
      case measure => simp [intOf]
    · go_wp2
      exact bodyPost_ret (v := .agg #[.float .f32 a, .float .f32 b, .float .f32 c, .float .f32 d]) (by simp [results, Try.results48, go_sem]) rfl ⟨rfl, (((Below.refl _ _).alloc (Nat.le_refl _) _).alloc (by simp) _).alloc (by simp; omega) _⟩

/-- Four numbers held against each other. -/
theorem eql_four (a b c d a' b' c' d' : Nat) (w : World) :
    (binOp .eql 37 (.agg #[.float .f32 a, .float .f32 b, .float .f32 c, .float .f32 d]) (.agg #[.float .f32 a', .float .f32 b', .float .f32 c', .float .f32 d'])).run Try.prog w =
      .ok (.bool ((FloatKind.f32.format.order a a' == some .eq) && ((FloatKind.f32.format.order b b' == some .eq) && ((FloatKind.f32.format.order c c' == some .eq) && (FloatKind.f32.format.order d d' == some .eq))))) w := by
  rw [run_eql_struct]
  rw [run_equalIn_array w 9999 4 1 37 35 _ _ Try.underlying37 (by kernel_rfl)]
  have h0 : ∀ (x y z u : Nat) (w : World), (part 35 #[.float .f32 x, .float .f32 y, .float .f32 z, .float .f32 u] (0 * 1)).run Try.prog w = .ok (.float .f32 x) w := fun _ _ _ _ _ => by kernel_rfl
  have h1 : ∀ (x y z u : Nat) (w : World), (part 35 #[.float .f32 x, .float .f32 y, .float .f32 z, .float .f32 u] (1 * 1)).run Try.prog w = .ok (.float .f32 y) w := fun _ _ _ _ _ => by kernel_rfl
  have h2 : ∀ (x y z u : Nat) (w : World), (part 35 #[.float .f32 x, .float .f32 y, .float .f32 z, .float .f32 u] (2 * 1)).run Try.prog w = .ok (.float .f32 z) w := fun _ _ _ _ _ => by kernel_rfl
  have h3 : ∀ (x y z u : Nat) (w : World), (part 35 #[.float .f32 x, .float .f32 y, .float .f32 z, .float .f32 u] (3 * 1)).run Try.prog w = .ok (.float .f32 u) w := fun _ _ _ _ _ => by kernel_rfl
  have he : ∀ (x y : Nat) (w : World), (Op.equalIn 9999 35 (.float .f32 x) (.float .f32 y)).run Try.prog w = .ok (FloatKind.f32.format.order x y == some .eq) w := fun x y w => run_equalIn_float w 9998 35 .f32 .f32 x y Try.underlying35
  show ((eqElems 9999 35 1 _ _ [0, 1, 2, 3]).run Try.prog w).andThen _ = _
  simp only [eqElems, Sem.run_bind, h0, h1, h2, h3, Result.andThen_ok, he, Sem.run_ite, Sem.run_pure]
  cases (FloatKind.f32.format.order a a' == some .eq) <;> cases (FloatKind.f32.format.order b b' == some .eq) <;> cases (FloatKind.f32.format.order c c' == some .eq) <;> cases (FloatKind.f32.format.order d d' == some .eq) <;> rfl

set_option maxHeartbeats 400000 in
theorem areParts_any (a b c d : Nat) (w : World) (ha : a < 4294967296) (hb : b < 4294967296) (hc : c < 4294967296) (hd : d < 4294967296) :
    Calls Try.prog 62 #[.agg #[.float .f32 a, .float .f32 b, .float .f32 c, .float .f32 d]] w fun e w' => e = .returned (.bool (fin a && (fin b && (fin c && fin d)))) ∧ Below w.heap.size w w' := by
  obtain ⟨z0, n0, h0, o0⟩ := less_any a (w.alloc (.cells #[.float .f32 a, .float .f32 b, .float .f32 c, .float .f32 d] 37)) 35 ha
  obtain ⟨z1, n1, h1, o1⟩ := less_any b ((w.alloc (.cells #[.float .f32 a, .float .f32 b, .float .f32 c, .float .f32 d] 37)).drewN n0) 35 hb
  obtain ⟨z2, n2, h2, o2⟩ := less_any c ((w.alloc (.cells #[.float .f32 a, .float .f32 b, .float .f32 c, .float .f32 d] 37)).drewN (n0 + n1)) 35 hc
  obtain ⟨z3, n3, h3, o3⟩ := less_any d ((w.alloc (.cells #[.float .f32 a, .float .f32 b, .float .f32 c, .float .f32 d] 37)).drewN (n0 + n1 + n2)) 35 hd
  have heq := eql_four z0 z1 z2 z3 0 0 0 0
  rw [o0, o1, o2, o3] at heq
  clear ha hb hc hd o0 o1 o2 o3
  generalize fin a = p at *
  generalize fin b = q at *
  generalize fin c = r at *
  generalize fin d = s at *
  go_enter Try.func62, Try.ntmps62
  go_wp2
  go_ret
  exact ⟨rfl, below_drewN ((Below.refl _ _).alloc (Nat.le_refl _) _) _⟩
end Go.Proofs.Ytpobokdlamofgaa
