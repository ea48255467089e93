/- Walks: vectors and their sums: the specification; sums of both. -/
import Derived.Test.YtlebkkbbjnkjoaaV2
namespace Go.Proofs.Ytlebkkbbjnkjoaa
open Go.RowKit

set_option maxHeartbeats 400000 in
theorem l02Fine_any (a b c : Nat) (w : World) (ha : a < 4294967296) (hb : b < 4294967296) (hc : c < 4294967296) :
    Calls Try.prog 46 #[.agg #[.float .f32 a, .float .f32 b, .float .f32 c]] w fun e w' => e = .returned (.bool (fin a && fin b && fin c)) ∧ Below w.heap.size w w' := by
  have H0 := Lib.hid (fun w => fine_any a w ha)
  have H1 := Lib.hid (fun w => fine_any b w hb)
  have H2 := Lib.hid (fun w => fine_any c w hc)
  clear ha hb hc
  generalize fin a = p at *
  generalize fin b = q at *
  generalize fin c = r at *
  cases p
  · go_enter Try.func46, Try.ntmps46
    go_wp2_with fail
    refine (H0.out _).mono ?_
    rintro e w1 ⟨rfl, n0, rfl⟩
    go_wp2_with fail
    go_ret
    exact ⟨rfl, below_drewN ((Below.refl _ _).alloc (Nat.le_refl _) _) _⟩
  cases q
  · go_enter Try.func46, Try.ntmps46
    go_wp2_with fail
    refine (H0.out _).mono ?_
    rintro e w1 ⟨rfl, n0, rfl⟩
    go_wp2_with fail
    refine (H1.out _).mono ?_
    rintro e w1 ⟨rfl, n1, rfl⟩
    go_wp2_with fail
    go_ret
    exact ⟨rfl, below_drewN ((Below.refl _ _).alloc (Nat.le_refl _) _) _⟩
  · go_enter Try.func46, Try.ntmps46
    go_wp2_with fail
    refine (H0.out _).mono ?_
    rintro e w1 ⟨rfl, n0, rfl⟩
    go_wp2_with fail
    refine (H1.out _).mono ?_
    rintro e w1 ⟨rfl, n1, rfl⟩
    go_wp2_with fail
    refine (H2.out _).mono ?_
    rintro e w1 ⟨rfl, n2, rfl⟩
    go_wp2_with fail
    go_ret
    exact ⟨rfl, below_drewN ((Below.refl _ _).alloc (Nat.le_refl _) _) _⟩

set_option maxHeartbeats 400000 in
theorem l02Shown_any (a b c : Nat) (w : World) (ha : a < 4294967296) (hb : b < 4294967296) (hc : c < 4294967296) :
    Calls Try.prog 79 #[.agg #[.float .f32 a, .float .f32 b, .float .f32 c]] w fun e w' => e = .returned (vecOr 3 a b c) ∧ Below w.heap.size w w' := by
  have HV := Lib.hid (fun w => l02Fine_any a b c w ha hb hc)
  unfold vecOr
  clear ha hb hc
  generalize (fin a && fin b && fin c) = r at *
  cases r
  · go_enter Try.func79, Try.ntmps79
    go_wp2_with fail
    refine (HV.out _).mono ?_
    rintro e w1 ⟨rfl, hb1⟩
    obtain ⟨hc, hf⟩ := bcell hb1
    have hz : w.heap.size + 1 < w1.heap.size := by have := hb1.size; simp at this; omega
    have HB := Lib.hid hb1
    clear hb1
    go_wp2_with fail
    exact bodyPost_ret (v := .tuple #[.agg #[.float .f32 0, .float .f32 0, .float .f32 0], .int .i64 3]) (by simp [results, Try.results79, go_sem, hc, hz]) rfl ⟨rfl, (((((Below.refl _ _).alloc (Nat.le_refl _) _).alloc (by simp) _).trans (HB.out.mono (by simp; omega))).setCell (by simp) _).setCell (by simp) _ |>.setCell (by simp) _⟩
  · go_enter Try.func79, Try.ntmps79
    go_wp2_with fail
    refine (HV.out _).mono ?_
    rintro e w1 ⟨rfl, hb1⟩
    obtain ⟨hc, hf⟩ := bcell hb1
    have hz : w.heap.size + 1 < w1.heap.size := by have := hb1.size; simp at this; omega
    have HB := Lib.hid hb1
    clear hb1
    go_wp2_with fail
    exact bodyPost_ret (v := .tuple #[.agg #[.float .f32 a, .float .f32 b, .float .f32 c], .int .i64 0]) (by simp [results, Try.results79, go_sem, hc, hz]) rfl ⟨rfl, (((((Below.refl _ _).alloc (Nat.le_refl _) _).alloc (by simp) _).trans (HB.out.mono (by simp; omega))).setCell (by simp) _).setCell (by simp) _ |>.setCell (by simp) _⟩

/-- The sum of two finite float32. -/
def sumF (x y : Nat) : Nat := (floatBits .add .f32 x y).getD 0

theorem sumF_ok (x y : Nat) (hx : x < 4294967296) (hy : y < 4294967296) (h1 : fin x = true) (h2 : fin y = true) : floatBits .add .f32 x y = some (sumF x y) ∧ sumF x y < 4294967296 := by
  obtain ⟨s, m, e, _, hf, rfl⟩ := fin_fit x hx h1
  obtain ⟨t, n, j, _, hg, rfl⟩ := fin_fit y hy h2
  have hb1 : min e j ≤ e := Int.min_le_left _ _
  have hb2 : min e j ≤ j := Int.min_le_right _ _
  have h : floatBits .add .f32 (S s m e) (S t n j) = _ := Flt.add_fit Ieee.single (by decide) s t m n e j (min e j) hf hg hb1 hb2
  unfold sumF
  rw [h]
  exact ⟨rfl, Ieee.Format.nearest_lt Ieee.single _ _ _⟩

/-- What AddVectors hands back. -/
def addRes (a b c a' b' c' : Nat) : Value := if (fin a && fin b && fin c) && (fin a' && fin b' && fin c') then vecOr 3 (sumF a a') (sumF b b') (sumF c c') else .tuple #[.agg #[.float .f32 0, .float .f32 0, .float .f32 0], .int .i64 1]
end Go.Proofs.Ytlebkkbbjnkjoaa
