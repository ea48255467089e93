/- CrossOfVectors of the specification: its parts. Walks: vectors and their sums: the specification; sums of both. -/
import Derived.Test.YtaghfffbhgpalaaKam
namespace Go.Proofs.Ytaghfffbhgpalaa
open Go.RowKit

/-- What a part of the cross product is worth. -/
def partO (a b c d : Nat) : Option Nat := opO .sub (opO .mul (some a) (some b)) (opO .mul (some c) (some d))

/-- A vector with no code, or the limit. -/
def vecO (o p q : Option Nat) : Value := if finO o && finO p && finO q then .tuple #[.agg #[.float .f32 (o.getD 0), .float .f32 (p.getD 0), .float .f32 (q.getD 0)], .int .i64 0] else .tuple #[.agg #[.float .f32 0, .float .f32 0, .float .f32 0], .int .i64 3]

theorem fw_get {o : Option Nat} {x : Nat} (h : Fw o x) (hf : finO o = true) : o.getD 0 = x := by
  cases o with
  | none => cases hf
  | some v => exact h.2.symm

theorem vecO_of {o p q : Option Nat} {x y z : Nat} (ho : Fw o x) (hp : Fw p y) (hq : Fw q z) : vecOr 3 x y z = vecO o p q := by
  unfold vecOr vecO
  rw [fw_fin ho, fw_fin hp, fw_fin hq]
  split
  · rename_i h
    simp only [Bool.and_eq_true] at h
    rw [fw_get ho h.1.1, fw_get hp h.1.2, fw_get hq h.2]
  · rfl

theorem finO_lt {op : BinOp} {o p : Option Nat} (h : finO (opO op o p) = true) : (opO op o p).getD 0 < 4294967296 ∧ fin ((opO op o p).getD 0) = true := by
  cases hv : opO op o p with
  | none => rw [hv] at h; cases h
  | some v => rw [hv] at h; exact ⟨opO_lt hv, h⟩

end Go.Proofs.Ytaghfffbhgpalaa

namespace Go.Proofs.Ytaghfffbhgpalaa
open Go.RowKit

/-- The sum of two finite float32. -/
def sumF (x y : Nat) : Nat := (floatBits .add .f32 x y).getD 0

theorem sumF_ok (x y : Nat) (hx : x < 4294967296) (hy : y < 4294967296) (h1 : fin x = true) (h2 : fin y = true) : floatBits .add .f32 x y = some (sumF x y) ∧ sumF x y < 4294967296 := by
  obtain ⟨s, m, e, _, hf, rfl⟩ := fin_fit x hx h1
  obtain ⟨t, n, j, _, hg, rfl⟩ := fin_fit y hy h2
  have hb1 : min e j ≤ e := Int.min_le_left _ _
  have hb2 : min e j ≤ j := Int.min_le_right _ _
  have h : floatBits .add .f32 (S s m e) (S t n j) = _ := Flt.add_fit Ieee.single (by decide) s t m n e j (min e j) hf hg hb1 hb2
  unfold sumF
  rw [h]
  exact ⟨rfl, Ieee.Format.nearest_lt Ieee.single _ _ _⟩

/-- What AddVectors hands back. -/
def addRes (a b c a' b' c' : Nat) : Value := if (fin a && fin b && fin c) && (fin a' && fin b' && fin c') then vecOr 3 (sumF a a') (sumF b b') (sumF c c') else .tuple #[.agg #[.float .f32 0, .float .f32 0, .float .f32 0], .int .i64 1]

end Go.Proofs.Ytaghfffbhgpalaa
