/- InnerOfVectors of the specification, whole. -/
import Derived.Test.YtaghfffbhgpalaaKad
namespace Go.Proofs.Ytaghfffbhgpalaa
open Go.RowKit

set_option maxHeartbeats 400000 in
theorem l09Is_any (a b c : Nat) (w : World) (ha : a < 4294967296) (hb : b < 4294967296) (hc : c < 4294967296) :
    Calls Try.prog 16 #[.agg #[.float .f32 a, .float .f32 b, .float .f32 c]] w fun e w' => e = .returned (.bool (fin a && fin b && fin c)) ∧ Below w.heap.size w w' := by
  have H0 := Lib.hid (fun w => fine_any a w ha)
  have H1 := Lib.hid (fun w => fine_any b w hb)
  have H2 := Lib.hid (fun w => fine_any c w hc)
  clear ha hb hc
  generalize fin a = p at *
  generalize fin b = q at *
  generalize fin c = r at *
  cases p
  · go_enter Try.func16, Try.ntmps16
    go_wp2_with fail
    refine (H0.out _).mono ?_
    rintro e w1 ⟨rfl, n0, rfl⟩
    go_wp2_with fail
    go_ret
    exact ⟨rfl, below_drewN ((Below.refl _ _).alloc (Nat.le_refl _) _) _⟩
  cases q
  · go_enter Try.func16, Try.ntmps16
    go_wp2_with fail
    refine (H0.out _).mono ?_
    rintro e w1 ⟨rfl, n0, rfl⟩
    go_wp2_with fail
    refine (H1.out _).mono ?_
    rintro e w1 ⟨rfl, n1, rfl⟩
    go_wp2_with fail
    go_ret
    exact ⟨rfl, below_drewN ((Below.refl _ _).alloc (Nat.le_refl _) _) _⟩
  · go_enter Try.func16, Try.ntmps16
    go_wp2_with fail
    refine (H0.out _).mono ?_
    rintro e w1 ⟨rfl, n0, rfl⟩
    go_wp2_with fail
    refine (H1.out _).mono ?_
    rintro e w1 ⟨rfl, n1, rfl⟩
    go_wp2_with fail
    refine (H2.out _).mono ?_
    rintro e w1 ⟨rfl, n2, rfl⟩
    go_wp2_with fail
    go_ret
    exact ⟨rfl, below_drewN ((Below.refl _ _).alloc (Nat.le_refl _) _) _⟩

/-- A number with no code, or zero and the limit. -/
def numOr : Option Nat → Value
  | some v => if fin v then .tuple #[.float .f32 v, .int .i64 0] else .tuple #[.float .f32 0, .int .i64 3]
  | none => .tuple #[.float .f32 0, .int .i64 3]

theorem numOr_of {o : Option Nat} {x : Nat} (h : Fw o x) : numOr o = if fin x then .tuple #[.float .f32 x, .int .i64 0] else .tuple #[.float .f32 0, .int .i64 3] := by
  have hf := fw_fin h
  cases o with
  | none => rw [hf]; rfl
  | some v => obtain ⟨_, rfl⟩ := h; rfl

/-- What InnerOfVectors answers. -/
def innRes (a b c a' b' c' : Nat) : Value := if (fin a && fin b && fin c) && (fin a' && fin b' && fin c') then numOr (innO a b c a' b' c') else .tuple #[.float .f32 0, .int .i64 1]

theorem numOr_form (o : Option Nat) (h : ∀ v, o = some v → v < 4294967296) : ∃ (x : Nat) (k : Int), numOr o = .tuple #[.float .f32 x, .int .i64 k] ∧ x < 4294967296 ∧ fin x = true := by
  cases o with
  | none => exact ⟨0, 3, rfl, by omega, by decide +kernel⟩
  | some v =>
    unfold numOr
    dsimp only
    split
    · rename_i hf
      exact ⟨v, 0, rfl, h v rfl, hf⟩
    · exact ⟨0, 3, rfl, by omega, by decide +kernel⟩

theorem opO_lt {op : BinOp} {o p : Option Nat} {v : Nat} (h : opO op o p = some v) : v < 4294967296 := by
  cases o with
  | none => cases h
  | some x =>
    cases p with
    | none => cases h
    | some y => exact floatBits_lt h

end Go.Proofs.Ytaghfffbhgpalaa
