/- Walks: vectors and their sums. InnerOfVectors of the specification: sums of products, whatever comes. InnerOfVectors of the specification, whole. -/
import Derived.Test.YtaghfffbhgpalaaKal
import Derived.Lib.Hide
namespace Go.Proofs.Ytaghfffbhgpalaa
open Go.RowKit

/-- Two vectors held against each other. -/
theorem eql_vec (a b c a' b' c' : Nat) (w : World) :
    (binOp .eql 27 (.agg #[.float .f32 a, .float .f32 b, .float .f32 c]) (.agg #[.float .f32 a', .float .f32 b', .float .f32 c'])).run Try.prog w =
      .ok (.bool ((FloatKind.f32.format.order a a' == some .eq) && ((FloatKind.f32.format.order b b' == some .eq) && (FloatKind.f32.format.order c c' == some .eq)))) w := by
  rw [run_eql_struct]
  rw [run_equalIn_array w 9999 3 1 27 22 _ _ Try.underlying27 (by kernel_rfl)]
  have h0 : ∀ (x y z : Nat) (w : World), (part 22 #[.float .f32 x, .float .f32 y, .float .f32 z] (0 * 1)).run Try.prog w = .ok (.float .f32 x) w := fun _ _ _ _ => by kernel_rfl
  have h1 : ∀ (x y z : Nat) (w : World), (part 22 #[.float .f32 x, .float .f32 y, .float .f32 z] (1 * 1)).run Try.prog w = .ok (.float .f32 y) w := fun _ _ _ _ => by kernel_rfl
  have h2 : ∀ (x y z : Nat) (w : World), (part 22 #[.float .f32 x, .float .f32 y, .float .f32 z] (2 * 1)).run Try.prog w = .ok (.float .f32 z) w := fun _ _ _ _ => by kernel_rfl
  have he : ∀ (x y : Nat) (w : World), (Op.equalIn 9999 22 (.float .f32 x) (.float .f32 y)).run Try.prog w = .ok (FloatKind.f32.format.order x y == some .eq) w := fun x y w => run_equalIn_float w 9998 22 .f32 .f32 x y Try.underlying22
  show ((eqElems 9999 22 1 _ _ [0, 1, 2]).run Try.prog w).andThen _ = _
  simp only [eqElems, Sem.run_bind, h0, h1, h2, Result.andThen_ok, he, Sem.run_ite, Sem.run_pure]
  cases (FloatKind.f32.format.order a a' == some .eq) <;> cases (FloatKind.f32.format.order b b' == some .eq) <;> cases (FloatKind.f32.format.order c c' == some .eq) <;> rfl

set_option maxHeartbeats 400000 in
theorem isVector_any (a b c : Nat) (w : World) (ha : a < 4294967296) (hb : b < 4294967296) (hc : c < 4294967296) :
    Calls Try.prog 19 #[.agg #[.float .f32 a, .float .f32 b, .float .f32 c]] w fun e w' => e = .returned (.bool (fin a && fin b && fin c)) ∧ Below w.heap.size w w' := by
  obtain ⟨z0, n0, h0, o0⟩ := less_any a (w.alloc (.cells #[.float .f32 a, .float .f32 b, .float .f32 c] 27)) 22 ha
  obtain ⟨z1, n1, h1, o1⟩ := less_any b ((w.alloc (.cells #[.float .f32 a, .float .f32 b, .float .f32 c] 27)).drewN n0) 22 hb
  obtain ⟨z2, n2, h2, o2⟩ := less_any c ((w.alloc (.cells #[.float .f32 a, .float .f32 b, .float .f32 c] 27)).drewN (n0 + n1)) 22 hc
  have heq := eql_vec z0 z1 z2 0 0 0
  rw [o0, o1, o2] at heq
  clear ha hb hc o0 o1 o2
  generalize fin a = p at *
  generalize fin b = q at *
  generalize fin c = r at *
  go_enter Try.func19, Try.ntmps19
  go_wp2
  go_ret
  exact ⟨by rw [Bool.and_assoc]; rfl, below_drewN ((Below.refl _ _).alloc (Nat.le_refl _) _) _⟩

/-- The vector's result, or the limit. -/
def vecOr (k : Int) (a b c : Nat) : Value := if fin a && fin b && fin c then .tuple #[.agg #[.float .f32 a, .float .f32 b, .float .f32 c], .int .i64 0] else .tuple #[.agg #[.float .f32 0, .float .f32 0, .float .f32 0], .int .i64 k]

set_option maxHeartbeats 400000 in
theorem vectorOrLimit_any (a b c : Nat) (w : World) (ha : a < 4294967296) (hb : b < 4294967296) (hc : c < 4294967296) :
    Calls Try.prog 32 #[.agg #[.float .f32 a, .float .f32 b, .float .f32 c]] w fun e w' => e = .returned (vecOr 3 a b c) ∧ Below w.heap.size w w' := by
  have HV := Lib.hid (fun w => isVector_any a b c w ha hb hc)
  unfold vecOr
  clear ha hb hc
  generalize (fin a && fin b && fin c) = r at *
  cases r
  · go_enter Try.func32, Try.ntmps32
    go_wp2_with fail
    refine (HV.out _).mono ?_
    rintro e w1 ⟨rfl, hb1⟩
    obtain ⟨hc, hf⟩ := bcell hb1
    have hz : w.heap.size + 1 < w1.heap.size := by have := hb1.size; simp at this; omega
    have HB := Lib.hid hb1
    clear hb1
    go_wp2_with fail
    exact bodyPost_ret (v := .tuple #[.agg #[.float .f32 0, .float .f32 0, .float .f32 0], .int .i64 3]) (by simp [results, Try.results32, go_sem, hc, hz]) rfl ⟨rfl, (((((Below.refl _ _).alloc (Nat.le_refl _) _).alloc (by simp) _).trans (HB.out.mono (by simp; omega))).setCell (by simp) _).setCell (by simp) _ |>.setCell (by simp) _⟩
  · go_enter Try.func32, Try.ntmps32
    go_wp2_with fail
    refine (HV.out _).mono ?_
    rintro e w1 ⟨rfl, hb1⟩
    obtain ⟨hc, hf⟩ := bcell hb1
    have hz : w.heap.size + 1 < w1.heap.size := by have := hb1.size; simp at this; omega
    have HB := Lib.hid hb1
    clear hb1
    go_wp2_with fail
    exact bodyPost_ret (v := .tuple #[.agg #[.float .f32 a, .float .f32 b, .float .f32 c], .int .i64 0]) (by simp [results, Try.results32, go_sem, hc, hz]) rfl ⟨rfl, (((((Below.refl _ _).alloc (Nat.le_refl _) _).alloc (by simp) _).trans (HB.out.mono (by simp; omega))).setCell (by simp) _).setCell (by simp) _ |>.setCell (by simp) _⟩

end Go.Proofs.Ytaghfffbhgpalaa

namespace Go.Proofs.Ytaghfffbhgpalaa
open Go.RowKit

/-- What the inner product is worth. -/
def innO (a b c d e f : Nat) : Option Nat := opO .add (opO .add (opO .mul (some a) (some d)) (opO .mul (some b) (some e))) (opO .mul (some c) (some f))

def vec3 (a b c : Nat) : Value := .agg #[.float .f32 a, .float .f32 b, .float .f32 c]

set_option maxHeartbeats 400000 in
theorem l09Inner_ok (a b c d e f : Nat) (w : World) (ha : a < 4294967296) (hb : b < 4294967296) (hc : c < 4294967296) (hd : d < 4294967296) (he : e < 4294967296) (hf : f < 4294967296) :
    Calls Try.prog 33 #[.agg #[.float .f32 a, .float .f32 b, .float .f32 c], .agg #[.float .f32 d, .float .f32 e, .float .f32 f]] w fun x w' => (∃ z, x = .returned (.float .f32 z) ∧ Fw (innO a b c d e f) z) ∧ Below w.heap.size w w' := by
  unfold innO
  generalize hW : (w.alloc (.cells #[.float .f32 a, .float .f32 b, .float .f32 c] 27)).alloc (.cells #[.float .f32 d, .float .f32 e, .float .f32 f] 27) = W
  obtain ⟨z0, n0, h0, o0⟩ := op_run (P := Try.prog) W .mul 22 (by simp) (fw_some ha) (fw_some hd)
  obtain ⟨z1, n1, h1, o1⟩ := op_run (P := Try.prog) (W.drewN n0) .mul 22 (by simp) (fw_some hb) (fw_some he)
  obtain ⟨z2, n2, h2, o2⟩ := op_run (P := Try.prog) (W.drewN (n0 + n1)) .add 22 (by simp) o0 o1
  obtain ⟨z3, n3, h3, o3⟩ := op_run (P := Try.prog) (W.drewN (n0 + n1 + n2)) .mul 22 (by simp) (fw_some hc) (fw_some hf)
  obtain ⟨z4, n4, h4, o4⟩ := op_run (P := Try.prog) (W.drewN (n0 + n1 + n2 + n3)) .add 22 (by simp) o2 o3
  subst hW
  clear ha hb hc hd he hf o0 o1 o2 o3
  go_enter Try.func33, Try.ntmps33
  go_wp2
  go_ret
  exact ⟨⟨_, rfl, o4⟩, below_drewN (((Below.refl _ _).alloc (Nat.le_refl _) _).alloc (by simp) _) _⟩

end Go.Proofs.Ytaghfffbhgpalaa

namespace Go.Proofs.Ytaghfffbhgpalaa
open Go.RowKit

set_option maxHeartbeats 400000 in
theorem l09Is_any (a b c : Nat) (w : World) (ha : a < 4294967296) (hb : b < 4294967296) (hc : c < 4294967296) :
    Calls Try.prog 16 #[.agg #[.float .f32 a, .float .f32 b, .float .f32 c]] w fun e w' => e = .returned (.bool (fin a && fin b && fin c)) ∧ Below w.heap.size w w' := by
  have H0 := Lib.hid (fun w => fine_any a w ha)
  have H1 := Lib.hid (fun w => fine_any b w hb)
  have H2 := Lib.hid (fun w => fine_any c w hc)
  clear ha hb hc
  generalize fin a = p at *
  generalize fin b = q at *
  generalize fin c = r at *
  cases p
  · go_enter Try.func16, Try.ntmps16
    go_wp2_with fail
    refine (H0.out _).mono ?_
    rintro e w1 ⟨rfl, n0, rfl⟩
    go_wp2_with fail
    go_ret
    exact ⟨rfl, below_drewN ((Below.refl _ _).alloc (Nat.le_refl _) _) _⟩
  cases q
  · go_enter Try.func16, Try.ntmps16
    go_wp2_with fail
    refine (H0.out _).mono ?_
    rintro e w1 ⟨rfl, n0, rfl⟩
    go_wp2_with fail
    refine (H1.out _).mono ?_
    rintro e w1 ⟨rfl, n1, rfl⟩
    go_wp2_with fail
    go_ret
    exact ⟨rfl, below_drewN ((Below.refl _ _).alloc (Nat.le_refl _) _) _⟩
  · go_enter Try.func16, Try.ntmps16
    go_wp2_with fail
    refine (H0.out _).mono ?_
    rintro e w1 ⟨rfl, n0, rfl⟩
    go_wp2_with fail
    refine (H1.out _).mono ?_
    rintro e w1 ⟨rfl, n1, rfl⟩
    go_wp2_with fail
    refine (H2.out _).mono ?_
    rintro e w1 ⟨rfl, n2, rfl⟩
    go_wp2_with fail
    go_ret
    exact ⟨rfl, below_drewN ((Below.refl _ _).alloc (Nat.le_refl _) _) _⟩

/-- A number with no code, or zero and the limit. -/
def numOr : Option Nat → Value
  | some v => if fin v then .tuple #[.float .f32 v, .int .i64 0] else .tuple #[.float .f32 0, .int .i64 3]
  | none => .tuple #[.float .f32 0, .int .i64 3]

theorem numOr_of {o : Option Nat} {x : Nat} (h : Fw o x) : numOr o = if fin x then .tuple #[.float .f32 x, .int .i64 0] else .tuple #[.float .f32 0, .int .i64 3] := by
  have hf := fw_fin h
  cases o with
  | none => rw [hf]; rfl
  | some v => obtain ⟨_, rfl⟩ := h; rfl

/-- What InnerOfVectors answers. -/
def innRes (a b c a' b' c' : Nat) : Value := if (fin a && fin b && fin c) && (fin a' && fin b' && fin c') then numOr (innO a b c a' b' c') else .tuple #[.float .f32 0, .int .i64 1]

theorem numOr_form (o : Option Nat) (h : ∀ v, o = some v → v < 4294967296) : ∃ (x : Nat) (k : Int), numOr o = .tuple #[.float .f32 x, .int .i64 k] ∧ x < 4294967296 ∧ fin x = true := by
  cases o with
  | none => exact ⟨0, 3, rfl, by omega, by decide +kernel⟩
  | some v =>
    unfold numOr
    dsimp only
    split
    · rename_i hf
      exact ⟨v, 0, rfl, h v rfl, hf⟩
    · exact ⟨0, 3, rfl, by omega, by decide +kernel⟩

theorem opO_lt {op : BinOp} {o p : Option Nat} {v : Nat} (h : opO op o p = some v) : v < 4294967296 := by
  cases o with
  | none => cases h
  | some x =>
    cases p with
    | none => cases h
    | some y => exact floatBits_lt h

end Go.Proofs.Ytaghfffbhgpalaa
