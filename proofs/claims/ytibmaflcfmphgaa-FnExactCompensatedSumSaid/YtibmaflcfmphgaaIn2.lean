/- InnerOfVectors of the specification, whole. -/
import Derived.Test.YtibmaflcfmphgaaIn1
namespace Go.Proofs.Ytibmaflcfmphgaa
open Go.RowKit

/-- A number with no code, or zero and the limit. -/
def numOr : Option Nat → Value
  | some v => if fin v then .tuple #[.float .f32 v, .int .i64 0] else .tuple #[.float .f32 0, .int .i64 3]
  | none => .tuple #[.float .f32 0, .int .i64 3]

theorem numOr_of {o : Option Nat} {x : Nat} (h : Fw o x) : numOr o = if fin x then .tuple #[.float .f32 x, .int .i64 0] else .tuple #[.float .f32 0, .int .i64 3] := by
  have hf := fw_fin h
  cases o with
  | none => rw [hf]; rfl
  | some v => obtain ⟨_, rfl⟩ := h; rfl

theorem l01Number1_any (x : Nat) (w : World) {o : Option Nat} (h : Fw o x) :
    Calls Try.prog 15 #[.float .f32 x] w fun e w' => e = .returned (numOr o) ∧ Below w.heap.size w w' := by
  have H0 := Lib.hid (fun w => fine_any x w h.1)
  rw [numOr_of h]
  clear h
  generalize fin x = p at *
  cases p
  · go_enter Try.func15, Try.ntmps15
    go_wp2_with fail
    refine (H0.out _).mono ?_
    rintro e w1 ⟨rfl, n0, rfl⟩
    go_wp2_with fail
    exact bodyPost_ret (v := .tuple #[.float .f32 0, .int .i64 3]) (by simp [results, Try.results15, go_sem]) rfl ⟨rfl, below_drewN (Below.refl _ _) _⟩
  · go_enter Try.func15, Try.ntmps15
    go_wp2_with fail
    refine (H0.out _).mono ?_
    rintro e w1 ⟨rfl, n0, rfl⟩
    go_wp2_with fail
    exact bodyPost_ret (v := .tuple #[.float .f32 x, .int .i64 0]) (by simp [results, Try.results15, go_sem]) rfl ⟨rfl, below_drewN (Below.refl _ _) _⟩

/-- What InnerOfVectors answers. -/
def innRes (a b c a' b' c' : Nat) : Value := if (fin a && fin b && fin c) && (fin a' && fin b' && fin c') then numOr (innO a b c a' b' c') else .tuple #[.float .f32 0, .int .i64 1]

theorem numOr_form (o : Option Nat) (h : ∀ v, o = some v → v < 4294967296) : ∃ (x : Nat) (k : Int), numOr o = .tuple #[.float .f32 x, .int .i64 k] ∧ x < 4294967296 ∧ fin x = true := by
  cases o with
  | none => exact ⟨0, 3, rfl, by omega, by decide +kernel⟩
  | some v =>
    unfold numOr
    dsimp only
    split
    · rename_i hf
      exact ⟨v, 0, rfl, h v rfl, hf⟩
    · exact ⟨0, 3, rfl, by omega, by decide +kernel⟩

theorem opO_lt {op : BinOp} {o p : Option Nat} {v : Nat} (h : opO op o p = some v) : v < 4294967296 := by
  cases o with
  | none => cases h
  | some x =>
    cases p with
    | none => cases h
    | some y => exact floatBits_lt h
