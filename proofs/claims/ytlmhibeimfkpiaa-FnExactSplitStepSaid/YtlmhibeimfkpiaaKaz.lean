/- Walks: four numbers, copied and looked at. Walks: tables of parts. Walks: the table of parts (see T2m), beside areParts. Walks: tables held against each other. -/
import Derived.Test.YtlmhibeimfkpiaaKac
import Derived.Test.YtlmhibeimfkpiaaKad
import Derived.Test.YtlmhibeimfkpiaaKag
import Derived.Laws.ComplexArith
namespace Go.Proofs.Ytlmhibeimfkpiaa
open Go.RowKit

/-- Four numbers held against each other. -/
theorem eql_four (a b c d a' b' c' d' : Nat) (w : World) :
    (binOp .eql 88 (.agg #[.float .f32 a, .float .f32 b, .float .f32 c, .float .f32 d]) (.agg #[.float .f32 a', .float .f32 b', .float .f32 c', .float .f32 d'])).run Try.prog w =
      .ok (.bool ((FloatKind.f32.format.order a a' == some .eq) && ((FloatKind.f32.format.order b b' == some .eq) && ((FloatKind.f32.format.order c c' == some .eq) && (FloatKind.f32.format.order d d' == some .eq))))) w := by
  rw [run_eql_struct]
  rw [run_equalIn_array w 9999 4 1 88 22 _ _ Try.underlying88 (by kernel_rfl)]
  have h0 : ∀ (x y z u : Nat) (w : World), (part 22 #[.float .f32 x, .float .f32 y, .float .f32 z, .float .f32 u] (0 * 1)).run Try.prog w = .ok (.float .f32 x) w := fun _ _ _ _ _ => by kernel_rfl
  have h1 : ∀ (x y z u : Nat) (w : World), (part 22 #[.float .f32 x, .float .f32 y, .float .f32 z, .float .f32 u] (1 * 1)).run Try.prog w = .ok (.float .f32 y) w := fun _ _ _ _ _ => by kernel_rfl
  have h2 : ∀ (x y z u : Nat) (w : World), (part 22 #[.float .f32 x, .float .f32 y, .float .f32 z, .float .f32 u] (2 * 1)).run Try.prog w = .ok (.float .f32 z) w := fun _ _ _ _ _ => by kernel_rfl
  have h3 : ∀ (x y z u : Nat) (w : World), (part 22 #[.float .f32 x, .float .f32 y, .float .f32 z, .float .f32 u] (3 * 1)).run Try.prog w = .ok (.float .f32 u) w := fun _ _ _ _ _ => by kernel_rfl
  have he : ∀ (x y : Nat) (w : World), (Op.equalIn 9999 22 (.float .f32 x) (.float .f32 y)).run Try.prog w = .ok (FloatKind.f32.format.order x y == some .eq) w := fun x y w => run_equalIn_float w 9998 22 .f32 .f32 x y Try.underlying22
  show ((eqElems 9999 22 1 _ _ [0, 1, 2, 3]).run Try.prog w).andThen _ = _
  simp only [eqElems, Sem.run_bind, h0, h1, h2, h3, Result.andThen_ok, he, Sem.run_ite, Sem.run_pure]
  cases (FloatKind.f32.format.order a a' == some .eq) <;> cases (FloatKind.f32.format.order b b' == some .eq) <;> cases (FloatKind.f32.format.order c c' == some .eq) <;> cases (FloatKind.f32.format.order d d' == some .eq) <;> rfl

end Go.Proofs.Ytlmhibeimfkpiaa

namespace Go.Proofs.Ytlmhibeimfkpiaa
open Go.RowKit

def noTable : Value := .agg #[.complex .f32 0 0, .complex .f32 0 0, .complex .f32 0 0, .complex .f32 0 0]

/-- The table of parts, as a value. -/
def tableOf (a b c d : Nat) : Value := .agg #[.complex .f32 a (Op.negFloat .f32 d), .complex .f32 (Op.negFloat .f32 c) (Op.negFloat .f32 b), .complex .f32 c (Op.negFloat .f32 b), .complex .f32 a d]

set_option maxHeartbeats 1000000 in
theorem turnOfParts_any (a b c d : Nat) (w : World) :
    Calls Try.prog 71 #[.agg #[.float .f32 a, .float .f32 b, .float .f32 c, .float .f32 d]] w fun e w' => e = .returned (tableOf a b c d) ∧ Below w.heap.size w w' := by
  unfold tableOf
  go_enter Try.func71, Try.ntmps71
  go_wp2
  go_quiet (fail)
  go_wp2
  refine bodyPost_ret (v := .agg #[.complex .f32 a (Op.negFloat .f32 d), .complex .f32 (Op.negFloat .f32 c) (Op.negFloat .f32 b), .complex .f32 c (Op.negFloat .f32 b), .complex .f32 a d]) (by simp [results, Try.results71, go_sem]) rfl ⟨rfl, ?_⟩
  all_goals repeat first
    | exact Below.refl _ _
    | refine Below.setCell ?_ ?_ _
    | refine Below.alloc ?_ ?_ _
    | refine below_drewN ?_ _
  all_goals first | omega | (simp; done) | (simp; omega)

set_option maxHeartbeats 1000000 in
theorem l03Table_any (a b c d : Nat) (w : World) :
    Calls Try.prog 65 #[.float .f32 a, .float .f32 b, .float .f32 c, .float .f32 d] w fun e w' => e = .returned (tableOf a b c d) ∧ Below w.heap.size w w' := by
  unfold tableOf
  go_enter Try.func65, Try.ntmps65
  go_wp2
  refine bodyPost_ret (v := .agg #[.complex .f32 a (Op.negFloat .f32 d), .complex .f32 (Op.negFloat .f32 c) (Op.negFloat .f32 b), .complex .f32 c (Op.negFloat .f32 b), .complex .f32 a d]) (by simp [results, Try.results65, go_sem]) rfl ⟨rfl, ?_⟩
  all_goals repeat first
    | exact Below.refl _ _
    | refine Below.setCell ?_ ?_ _
    | refine Below.alloc ?_ ?_ _
    | refine below_drewN ?_ _
  all_goals first | omega | (simp; done) | (simp; omega)

theorem neg_facts (x : Nat) (hx : x < 4294967296) : Op.negFloat .f32 x < 4294967296 ∧ fin (Op.negFloat .f32 x) = fin x := by
  have h1 := word_split x hx
  have h2 := mag_lt x
  have h3 : Op.negFloat .f32 x = Ieee.single.word (!(x / 2147483648 % 2 == 1)) (mag x) := by
    conv => lhs; rw [h1]
    exact Flt.flip_word Ieee.single _ (mag x) (by rw [Flt.s_sw]; exact h2)
  rw [h3]
  have h4 : mag (Ieee.single.word (!(x / 2147483648 % 2 == 1)) (mag x)) = mag x := by
    generalize (!(x / 2147483648 % 2 == 1)) = s
    generalize hm : mag x = m at *
    unfold mag Ieee.Format.word
    rw [Flt.s_sw]
    cases s <;> simp <;> omega
  constructor
  · generalize (!(x / 2147483648 % 2 == 1)) = s
    unfold Ieee.Format.word
    rw [Flt.s_sw]
    cases s <;> simp <;> omega
  · unfold fin
    rw [h4]

end Go.Proofs.Ytlmhibeimfkpiaa



namespace Go.Proofs.Ytlmhibeimfkpiaa
open Go.RowKit

theorem sameComplex_any (x y : Nat) (hx : ∀ w, Calls Try.prog 26 #[.float .f64 x, .float .f64 x] w fun e w' => e = .returned (.bool true) ∧ w = w') (hy : ∀ w, Calls Try.prog 26 #[.float .f64 y, .float .f64 y] w fun e w' => e = .returned (.bool true) ∧ w = w') (w : World) :
    Calls Try.prog 72 #[.complex .f64 x y, .complex .f64 x y] w fun e w' => e = .returned (.bool true) ∧ w = w' := by
  have HX := Lib.hid hx
  have HY := Lib.hid hy
  clear hx hy
  go_enter Try.func72, Try.ntmps72
  go_wp2_with fail
  refine (HX.out _).mono ?_
  rintro e w' ⟨rfl, rfl⟩
  go_wp2_with fail
  refine (HY.out _).mono ?_
  rintro e w' ⟨rfl, rfl⟩
  go_wp2_with fail
  go_ret
  exact ⟨rfl, rfl⟩

theorem same_pair (a b : Nat) (ha : a < 4294967296) (hb : b < 4294967296) (fa : fin a = true) (fb : fin b = true) :
    ∃ x y, (∀ w, (convert 30 90 (.complex .f32 a b)).run Try.prog w = .ok (.complex .f64 x y) w) ∧ ∀ w, Calls Try.prog 72 #[.complex .f64 x y, .complex .f64 x y] w fun e w' => e = .returned (.bool true) ∧ w = w' := by
  obtain ⟨x, hx, sx⟩ := wide_same a ha fa
  obtain ⟨y, hy, sy⟩ := wide_same b hb fb
  refine ⟨x, y, fun w => ?_, sameComplex_any x y sx sy⟩
  exact run_convert_complex w 30 90 .f32 .f64 a b x y (by rw [Try.underlying30]; rfl) Try.underlying90 (by unfold cConvBits; rw [hx, hy]; rfl)

def Num (x : Nat) : Prop := x < 4294967296 ∧ fin x = true

set_option maxHeartbeats 1000000 in
theorem eqPair_any (a b c d : Nat) (w : World) (ha : Num a) (hb : Num b) (hc : Num c) (hd : Num d) :
    Calls Try.prog 46 #[.agg #[.complex .f32 a b, .complex .f32 c d], .agg #[.complex .f32 a b, .complex .f32 c d]] w fun e w' => e = .returned (.bool true) ∧ Below w.heap.size w w' := by
  obtain ⟨x0, y0, cv0, sm0⟩ := same_pair a b ha.1 hb.1 ha.2 hb.2
  obtain ⟨x1, y1, cv1, sm1⟩ := same_pair c d hc.1 hd.1 hc.2 hd.2
  have S0 := Lib.hid sm0
  have S1 := Lib.hid sm1
  clear sm0 sm1 ha hb hc hd
  go_enter Try.func46, Try.ntmps46
  go_wp2
  go_loopw [5] (fun i wr => (i = .int .i64 0 ∨ i = .int .i64 1 ∨ i = .int .i64 2) ∧ ∃ n, wr = ((w.alloc (.cells #[.complex .f32 a b, .complex .f32 c d] 31)).alloc (.cells #[.complex .f32 a b, .complex .f32 c d] 31)).drewN n) (fun i _ => 2 - (intOf i).toNat)
  case atStart => exact ⟨.inl rfl, 0, rfl⟩
  case round =>
    obtain ⟨rfl | rfl | rfl, n, rfl⟩ := hrel
    · go_wp2_with fail
      go_quiet ((go_at_call 72; exact still_call S0.out _ _ _))
      go_wp2_with fail
      go_roundw
      case rel => exact ⟨.inr (.inl (by go_num)), _, rfl⟩
      case measure => simp [intOf]
    · go_wp2_with fail
      go_quiet ((go_at_call 72; exact still_call S1.out _ _ _))
      go_wp2_with fail
      go_roundw
      case rel => exact ⟨.inr (.inr (by go_num)), _, rfl⟩
      case measure => simp [intOf]
    · go_wp2_with fail
      go_ret
      exact ⟨rfl, below_drewN (((Below.refl _ _).alloc (Nat.le_refl _) _).alloc (by simp) _) _⟩

end Go.Proofs.Ytlmhibeimfkpiaa
