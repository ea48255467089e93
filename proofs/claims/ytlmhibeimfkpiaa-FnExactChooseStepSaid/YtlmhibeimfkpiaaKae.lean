/- InnerOfVectors of the specification, whole. CrossOfVectors of the specification: its parts. Walks: vectors and their sums: the specification; sums of both. -/
import Derived.Test.YtlmhibeimfkpiaaKad
namespace Go.Proofs.Ytlmhibeimfkpiaa
open Go.RowKit

set_option maxHeartbeats 400000 in
theorem l09Is_any (a b c : Nat) (w : World) (ha : a < 4294967296) (hb : b < 4294967296) (hc : c < 4294967296) :
    Calls Try.prog 34 #[.agg #[.float .f32 a, .float .f32 b, .float .f32 c]] w fun e w' => e = .returned (.bool (fin a && fin b && fin c)) ∧ Below w.heap.size w w' := by
  have H0 := Lib.hid (fun w => fine_any a w ha)
  have H1 := Lib.hid (fun w => fine_any b w hb)
  have H2 := Lib.hid (fun w => fine_any c w hc)
  clear ha hb hc
  generalize fin a = p at *
  generalize fin b = q at *
  generalize fin c = r at *
  cases p
  · go_enter Try.func34, Try.ntmps34
    go_wp2_with fail
    refine (H0.out _).mono ?_
    rintro e w1 ⟨rfl, n0, rfl⟩
    go_wp2_with fail
    go_ret
    exact ⟨rfl, below_drewN ((Below.refl _ _).alloc (Nat.le_refl _) _) _⟩
  cases q
  · go_enter Try.func34, Try.ntmps34
    go_wp2_with fail
    refine (H0.out _).mono ?_
    rintro e w1 ⟨rfl, n0, rfl⟩
    go_wp2_with fail
    refine (H1.out _).mono ?_
    rintro e w1 ⟨rfl, n1, rfl⟩
    go_wp2_with fail
    go_ret
    exact ⟨rfl, below_drewN ((Below.refl _ _).alloc (Nat.le_refl _) _) _⟩
  · go_enter Try.func34, Try.ntmps34
    go_wp2_with fail
    refine (H0.out _).mono ?_
    rintro e w1 ⟨rfl, n0, rfl⟩
    go_wp2_with fail
    refine (H1.out _).mono ?_
    rintro e w1 ⟨rfl, n1, rfl⟩
    go_wp2_with fail
    refine (H2.out _).mono ?_
    rintro e w1 ⟨rfl, n2, rfl⟩
    go_wp2_with fail
    go_ret
    exact ⟨rfl, below_drewN ((Below.refl _ _).alloc (Nat.le_refl _) _) _⟩

/-- A number with no code, or zero and the limit. -/
def numOr : Option Nat → Value
  | some v => if fin v then .tuple #[.float .f32 v, .int .i64 0] else .tuple #[.float .f32 0, .int .i64 3]
  | none => .tuple #[.float .f32 0, .int .i64 3]

theorem numOr_of {o : Option Nat} {x : Nat} (h : Fw o x) : numOr o = if fin x then .tuple #[.float .f32 x, .int .i64 0] else .tuple #[.float .f32 0, .int .i64 3] := by
  have hf := fw_fin h
  cases o with
  | none => rw [hf]; rfl
  | some v => obtain ⟨_, rfl⟩ := h; rfl

/-- What InnerOfVectors answers. -/
def innRes (a b c a' b' c' : Nat) : Value := if (fin a && fin b && fin c) && (fin a' && fin b' && fin c') then numOr (innO a b c a' b' c') else .tuple #[.float .f32 0, .int .i64 1]

theorem numOr_form (o : Option Nat) (h : ∀ v, o = some v → v < 4294967296) : ∃ (x : Nat) (k : Int), numOr o = .tuple #[.float .f32 x, .int .i64 k] ∧ x < 4294967296 ∧ fin x = true := by
  cases o with
  | none => exact ⟨0, 3, rfl, by omega, by decide +kernel⟩
  | some v =>
    unfold numOr
    dsimp only
    split
    · rename_i hf
      exact ⟨v, 0, rfl, h v rfl, hf⟩
    · exact ⟨0, 3, rfl, by omega, by decide +kernel⟩

theorem opO_lt {op : BinOp} {o p : Option Nat} {v : Nat} (h : opO op o p = some v) : v < 4294967296 := by
  cases o with
  | none => cases h
  | some x =>
    cases p with
    | none => cases h
    | some y => exact floatBits_lt h

end Go.Proofs.Ytlmhibeimfkpiaa

namespace Go.Proofs.Ytlmhibeimfkpiaa
open Go.RowKit

/-- What a part of the cross product is worth. -/
def partO (a b c d : Nat) : Option Nat := opO .sub (opO .mul (some a) (some b)) (opO .mul (some c) (some d))

set_option maxHeartbeats 400000 in
theorem l09Part_ok (a b c d : Nat) (w : World) (ha : a < 4294967296) (hb : b < 4294967296) (hc : c < 4294967296) (hd : d < 4294967296) :
    Calls Try.prog 36 #[.float .f32 a, .float .f32 b, .float .f32 c, .float .f32 d] w fun x w' => (∃ z, x = .returned (.float .f32 z) ∧ Fw (partO a b c d) z) ∧ ∃ n, w.drewN n = w' := by
  unfold partO
  obtain ⟨z0, n0, h0, o0⟩ := op_run (P := Try.prog) w .mul 22 (by simp) (fw_some ha) (fw_some hb)
  obtain ⟨z1, n1, h1, o1⟩ := op_run (P := Try.prog) (w.drewN n0) .mul 22 (by simp) (fw_some hc) (fw_some hd)
  obtain ⟨z2, n2, h2, o2⟩ := op_run (P := Try.prog) (w.drewN (n0 + n1)) .sub 22 (by simp) o0 o1
  clear ha hb hc hd o0 o1
  go_enter Try.func36, Try.ntmps36
  go_wp2
  go_ret
  exact ⟨⟨_, rfl, o2⟩, _, rfl⟩

/-- A vector with no code, or the limit. -/
def vecO (o p q : Option Nat) : Value := if finO o && finO p && finO q then .tuple #[.agg #[.float .f32 (o.getD 0), .float .f32 (p.getD 0), .float .f32 (q.getD 0)], .int .i64 0] else .tuple #[.agg #[.float .f32 0, .float .f32 0, .float .f32 0], .int .i64 3]

theorem fw_get {o : Option Nat} {x : Nat} (h : Fw o x) (hf : finO o = true) : o.getD 0 = x := by
  cases o with
  | none => cases hf
  | some v => exact h.2.symm

theorem vecO_of {o p q : Option Nat} {x y z : Nat} (ho : Fw o x) (hp : Fw p y) (hq : Fw q z) : vecOr 3 x y z = vecO o p q := by
  unfold vecOr vecO
  rw [fw_fin ho, fw_fin hp, fw_fin hq]
  split
  · rename_i h
    simp only [Bool.and_eq_true] at h
    rw [fw_get ho h.1.1, fw_get hp h.1.2, fw_get hq h.2]
  · rfl

theorem finO_lt {op : BinOp} {o p : Option Nat} (h : finO (opO op o p) = true) : (opO op o p).getD 0 < 4294967296 ∧ fin ((opO op o p).getD 0) = true := by
  cases hv : opO op o p with
  | none => rw [hv] at h; cases h
  | some v => rw [hv] at h; exact ⟨opO_lt hv, h⟩

set_option maxHeartbeats 400000 in
theorem l09Told_any (a b c : Nat) (w : World) (ha : a < 4294967296) (hb : b < 4294967296) (hc : c < 4294967296) :
    Calls Try.prog 35 #[.agg #[.float .f32 a, .float .f32 b, .float .f32 c]] w fun e w' => e = .returned (vecOr 3 a b c) ∧ Below w.heap.size w w' := by
  have HV := Lib.hid (fun w => l09Is_any a b c w ha hb hc)
  unfold vecOr
  clear ha hb hc
  generalize (fin a && fin b && fin c) = r at *
  cases r
  · go_enter Try.func35, Try.ntmps35
    go_wp2_with fail
    refine (HV.out _).mono ?_
    rintro e w1 ⟨rfl, hb1⟩
    obtain ⟨hc, hf⟩ := bcell hb1
    have hz : w.heap.size + 1 < w1.heap.size := by have := hb1.size; simp at this; omega
    have HB := Lib.hid hb1
    clear hb1
    go_wp2_with fail
    exact bodyPost_ret (v := .tuple #[.agg #[.float .f32 0, .float .f32 0, .float .f32 0], .int .i64 3]) (by simp [results, Try.results35, go_sem, hc, hz]) rfl ⟨rfl, (((((Below.refl _ _).alloc (Nat.le_refl _) _).alloc (by simp) _).trans (HB.out.mono (by simp; omega))).setCell (by simp) _).setCell (by simp) _ |>.setCell (by simp) _⟩
  · go_enter Try.func35, Try.ntmps35
    go_wp2_with fail
    refine (HV.out _).mono ?_
    rintro e w1 ⟨rfl, hb1⟩
    obtain ⟨hc, hf⟩ := bcell hb1
    have hz : w.heap.size + 1 < w1.heap.size := by have := hb1.size; simp at this; omega
    have HB := Lib.hid hb1
    clear hb1
    go_wp2_with fail
    exact bodyPost_ret (v := .tuple #[.agg #[.float .f32 a, .float .f32 b, .float .f32 c], .int .i64 0]) (by simp [results, Try.results35, go_sem, hc, hz]) rfl ⟨rfl, (((((Below.refl _ _).alloc (Nat.le_refl _) _).alloc (by simp) _).trans (HB.out.mono (by simp; omega))).setCell (by simp) _).setCell (by simp) _ |>.setCell (by simp) _⟩

end Go.Proofs.Ytlmhibeimfkpiaa

namespace Go.Proofs.Ytlmhibeimfkpiaa
open Go.RowKit

/-- The sum of two finite float32. -/
def sumF (x y : Nat) : Nat := (floatBits .add .f32 x y).getD 0

theorem sumF_ok (x y : Nat) (hx : x < 4294967296) (hy : y < 4294967296) (h1 : fin x = true) (h2 : fin y = true) : floatBits .add .f32 x y = some (sumF x y) ∧ sumF x y < 4294967296 := by
  obtain ⟨s, m, e, _, hf, rfl⟩ := fin_fit x hx h1
  obtain ⟨t, n, j, _, hg, rfl⟩ := fin_fit y hy h2
  have hb1 : min e j ≤ e := Int.min_le_left _ _
  have hb2 : min e j ≤ j := Int.min_le_right _ _
  have h : floatBits .add .f32 (S s m e) (S t n j) = _ := Flt.add_fit Ieee.single (by decide) s t m n e j (min e j) hf hg hb1 hb2
  unfold sumF
  rw [h]
  exact ⟨rfl, Ieee.Format.nearest_lt Ieee.single _ _ _⟩

/-- What AddVectors hands back. -/
def addRes (a b c a' b' c' : Nat) : Value := if (fin a && fin b && fin c) && (fin a' && fin b' && fin c') then vecOr 3 (sumF a a') (sumF b b') (sumF c c') else .tuple #[.agg #[.float .f32 0, .float .f32 0, .float .f32 0], .int .i64 1]

end Go.Proofs.Ytlmhibeimfkpiaa
