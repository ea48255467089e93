/- Walks: sums of vectors. -/
import Derived.Test.YtcikohbcndppkaaV3
namespace Go.Proofs.Ytcikohbcndppkaa
open Go.RowKit

theorem vecOr_form (a b c : Nat) : ∃ (x y z : Nat) (k : Int), vecOr 3 a b c = .tuple #[.agg #[.float .f32 x, .float .f32 y, .float .f32 z], .int .i64 k] := by
  unfold vecOr
  split
  · exact ⟨_, _, _, _, rfl⟩
  · exact ⟨_, _, _, _, rfl⟩

set_option maxHeartbeats 1000000 in
theorem implAdd (a b c a' b' c' : Nat) (w : World) (ha : a < 4294967296) (hb : b < 4294967296) (hc : c < 4294967296) (ha' : a' < 4294967296) (hb' : b' < 4294967296) (hc' : c' < 4294967296) :
    Calls Try.prog 20 #[.agg #[.float .f32 a, .float .f32 b, .float .f32 c], .agg #[.float .f32 a', .float .f32 b', .float .f32 c']] w fun e w' => e = .returned (addRes a b c a' b' c') ∧ Below w.heap.size w w' := by
  have HV := Lib.hid (fun w => isVector_any a b c w ha hb hc)
  have HW := Lib.hid (fun w => isVector_any a' b' c' w ha' hb' hc')
  unfold addRes
  by_cases hp : (fin a && fin b && fin c) = true
  · by_cases hq : (fin a' && fin b' && fin c') = true
    · rw [hp] at HV
      rw [hq] at HW
      rw [hp, hq]
      simp only [Bool.and_eq_true] at hp hq
      obtain ⟨s0, l0⟩ := sumF_ok a a' ha ha' hp.1.1 hq.1.1
      obtain ⟨s1, l1⟩ := sumF_ok b b' hb hb' hp.1.2 hq.1.2
      obtain ⟨s2, l2⟩ := sumF_ok c c' hc hc' hp.2 hq.2
      have HL := Lib.hid (fun w => vectorOrLimit_any (sumF a a') (sumF b b') (sumF c c') w l0 l1 l2)
      obtain ⟨x, y, z, k, hform⟩ := vecOr_form (sumF a a') (sumF b b') (sumF c c')
      rw [hform] at HL
      rw [if_pos (show (true && true) = true from rfl), hform]
      have A0 : ∀ t w, (binOp .add t (.float .f32 a) (.float .f32 a')).run Try.prog w = .ok (.float .f32 (sumF a a')) w := fun t w => run_float_arith w .add t .f32 _ _ _ s0
      have A1 : ∀ t w, (binOp .add t (.float .f32 b) (.float .f32 b')).run Try.prog w = .ok (.float .f32 (sumF b b')) w := fun t w => run_float_arith w .add t .f32 _ _ _ s1
      have A2 : ∀ t w, (binOp .add t (.float .f32 c) (.float .f32 c')).run Try.prog w = .ok (.float .f32 (sumF c c')) w := fun t w => run_float_arith w .add t .f32 _ _ _ s2
      clear hp hq s0 s1 s2 l0 l1 l2 hform ha hb hc ha' hb' hc'
      generalize sumF a a' = u0 at *
      generalize sumF b b' = u1 at *
      generalize sumF c c' = u2 at *
      go_enter Try.func20, Try.ntmps20
      go_wp2_with fail
      refine (HV.out _).mono ?_
      rintro e w1 ⟨rfl, hb1⟩
      obtain ⟨hc1, hf1⟩ := bcell hb1
      have hz1 : w.heap.size + 1 + 1 < w1.heap.size := by have := hb1.size; simp at this; omega
      have hz1a : w.heap.size < w1.heap.size := by omega
      have hz1b : w.heap.size + 1 < w1.heap.size := by omega
      have HB1 := Lib.hid hb1
      clear hb1
      go_wp2_with fail
      refine (HW.out _).mono ?_
      rintro e w2 ⟨rfl, hb2⟩
      obtain ⟨hc2, hf2⟩ := bcell hb2
      have hz2 : w.heap.size + 1 + 1 < w2.heap.size := by have := hb2.size; omega
      have hz2a : w.heap.size < w2.heap.size := by omega
      have hz2b : w.heap.size + 1 < w2.heap.size := by omega
      have HB2 := Lib.hid hb2
      clear hb2
      go_wp2_with fail
      refine (HL.out _).mono ?_
      rintro e w3 ⟨rfl, hb3⟩
      obtain ⟨hc3, hf3⟩ := bcell hb3
      have hz3 : w.heap.size + 1 + 1 < w3.heap.size := by have := hb3.size; omega
      have hz3a : w.heap.size < w3.heap.size := by omega
      have hz3b : w.heap.size + 1 < w3.heap.size := by omega
      have HB3 := Lib.hid hb3
      clear hb3
      go_wp2_with fail
      have hsz : w.heap.size ≤ w1.heap.size := by omega
      have hsz2 : w.heap.size ≤ w2.heap.size := by omega
      exact bodyPost_ret (v := .tuple #[.agg #[.float .f32 x, .float .f32 y, .float .f32 z], .int .i64 k]) (by simp [results, Try.results20, go_sem, hc1, hc2, hc3, hz1, hz2, hz3, hz1a, hz1b, hz2a, hz2b, hz3a, hz3b]) rfl ⟨rfl, (((((((Below.refl _ _).alloc (Nat.le_refl _) _).alloc (by simp) _).alloc (by simp; omega) _).trans (HB1.out.mono (by simp; omega))).trans (HB2.out.mono hsz)).trans (HB3.out.mono hsz2)).setCell (by simp; omega) _ |>.setCell (by simp; omega) _ |>.setCell (by simp; omega) _⟩
    · have hq : (fin a' && fin b' && fin c') = false := by simpa using hq
      rw [hp] at HV
      rw [hq] at HW
      rw [hp, hq]
      clear hp hq ha hb hc ha' hb' hc'
      go_enter Try.func20, Try.ntmps20
      go_wp2_with fail
      refine (HV.out _).mono ?_
      rintro e w1 ⟨rfl, hb1⟩
      obtain ⟨hc1, hf1⟩ := bcell hb1
      have hz1 : w.heap.size + 1 + 1 < w1.heap.size := by have := hb1.size; simp at this; omega
      have hz1a : w.heap.size < w1.heap.size := by omega
      have hz1b : w.heap.size + 1 < w1.heap.size := by omega
      have HB1 := Lib.hid hb1
      clear hb1
      go_wp2_with fail
      refine (HW.out _).mono ?_
      rintro e w2 ⟨rfl, hb2⟩
      obtain ⟨hc2, hf2⟩ := bcell hb2
      have hz2 : w.heap.size + 1 + 1 < w2.heap.size := by have := hb2.size; omega
      have hz2a : w.heap.size < w2.heap.size := by omega
      have hz2b : w.heap.size + 1 < w2.heap.size := by omega
      have HB2 := Lib.hid hb2
      clear hb2
      go_wp2_with fail
      have hsz : w.heap.size ≤ w1.heap.size := by omega
      exact bodyPost_ret (v := .tuple #[.agg #[.float .f32 0, .float .f32 0, .float .f32 0], .int .i64 1]) (by simp [results, Try.results20, go_sem, hc1, hc2, hz1, hz2, hz1a, hz1b, hz2a, hz2b]) rfl ⟨rfl, ((((((Below.refl _ _).alloc (Nat.le_refl _) _).alloc (by simp) _).alloc (by simp; omega) _).trans (HB1.out.mono (by simp; omega))).trans (HB2.out.mono hsz)).setCell (by simp; omega) _ |>.setCell (by simp; omega) _ |>.setCell (by simp; omega) _⟩
  · have hp : (fin a && fin b && fin c) = false := by simpa using hp
    rw [hp] at HV
    rw [hp]
    clear hp HW ha hb hc ha' hb' hc'
    go_enter Try.func20, Try.ntmps20
    go_wp2_with fail
    refine (HV.out _).mono ?_
    rintro e w1 ⟨rfl, hb1⟩
    obtain ⟨hc1, hf1⟩ := bcell hb1
    have hz1 : w.heap.size + 1 + 1 < w1.heap.size := by have := hb1.size; simp at this; omega
    have hz1a : w.heap.size < w1.heap.size := by omega
    have hz1b : w.heap.size + 1 < w1.heap.size := by omega
    have HB1 := Lib.hid hb1
    clear hb1
    go_wp2_with fail
    exact bodyPost_ret (v := .tuple #[.agg #[.float .f32 0, .float .f32 0, .float .f32 0], .int .i64 1]) (by simp [results, Try.results20, go_sem, hc1, hz1, hz1a, hz1b]) rfl ⟨rfl, (((((Below.refl _ _).alloc (Nat.le_refl _) _).alloc (by simp) _).alloc (by simp; omega) _).trans (HB1.out.mono (by simp; omega))).setCell (by simp; omega) _ |>.setCell (by simp; omega) _ |>.setCell (by simp; omega) _⟩

set_option maxHeartbeats 1000000 in
theorem specAdd (a b c a' b' c' : Nat) (w : World) (ha : a < 4294967296) (hb : b < 4294967296) (hc : c < 4294967296) (ha' : a' < 4294967296) (hb' : b' < 4294967296) (hc' : c' < 4294967296) :
    Calls Try.prog 21 #[.agg #[.float .f32 a, .float .f32 b, .float .f32 c], .agg #[.float .f32 a', .float .f32 b', .float .f32 c']] w fun e w' => e = .returned (addRes a b c a' b' c') ∧ Below w.heap.size w w' := by
  have HV := Lib.hid (fun w => l02Fine_any a b c w ha hb hc)
  have HW := Lib.hid (fun w => l02Fine_any a' b' c' w ha' hb' hc')
  unfold addRes
  by_cases hp : (fin a && fin b && fin c) = true
  · by_cases hq : (fin a' && fin b' && fin c') = true
    · rw [hp] at HV
      rw [hq] at HW
      rw [hp, hq]
      simp only [Bool.and_eq_true] at hp hq
      obtain ⟨s0, l0⟩ := sumF_ok a a' ha ha' hp.1.1 hq.1.1
      obtain ⟨s1, l1⟩ := sumF_ok b b' hb hb' hp.1.2 hq.1.2
      obtain ⟨s2, l2⟩ := sumF_ok c c' hc hc' hp.2 hq.2
      have HL := Lib.hid (fun w => l02Shown_any (sumF a a') (sumF b b') (sumF c c') w l0 l1 l2)
      obtain ⟨x, y, z, k, hform⟩ := vecOr_form (sumF a a') (sumF b b') (sumF c c')
      rw [hform] at HL
      rw [if_pos (show (true && true) = true from rfl), hform]
      have A0 : ∀ t w, (binOp .add t (.float .f32 a) (.float .f32 a')).run Try.prog w = .ok (.float .f32 (sumF a a')) w := fun t w => run_float_arith w .add t .f32 _ _ _ s0
      have A1 : ∀ t w, (binOp .add t (.float .f32 b) (.float .f32 b')).run Try.prog w = .ok (.float .f32 (sumF b b')) w := fun t w => run_float_arith w .add t .f32 _ _ _ s1
      have A2 : ∀ t w, (binOp .add t (.float .f32 c) (.float .f32 c')).run Try.prog w = .ok (.float .f32 (sumF c c')) w := fun t w => run_float_arith w .add t .f32 _ _ _ s2
      clear hp hq s0 s1 s2 l0 l1 l2 hform ha hb hc ha' hb' hc'
      generalize sumF a a' = u0 at *
      generalize sumF b b' = u1 at *
      generalize sumF c c' = u2 at *
      go_enter Try.func21, Try.ntmps21
      go_wp2_with fail
      refine (HV.out _).mono ?_
      rintro e w1 ⟨rfl, hb1⟩
      obtain ⟨hc1, hf1⟩ := bcell hb1
      have hz1 : w.heap.size + 1 + 1 < w1.heap.size := by have := hb1.size; simp at this; omega
      have hz1a : w.heap.size < w1.heap.size := by omega
      have hz1b : w.heap.size + 1 < w1.heap.size := by omega
      have HB1 := Lib.hid hb1
      clear hb1
      go_wp2_with fail
      refine (HW.out _).mono ?_
      rintro e w2 ⟨rfl, hb2⟩
      obtain ⟨hc2, hf2⟩ := bcell hb2
      have hz2 : w.heap.size + 1 + 1 < w2.heap.size := by have := hb2.size; omega
      have hz2a : w.heap.size < w2.heap.size := by omega
      have hz2b : w.heap.size + 1 < w2.heap.size := by omega
      have HB2 := Lib.hid hb2
      clear hb2
      go_wp2_with fail
      refine (HL.out _).mono ?_
      rintro e w3 ⟨rfl, hb3⟩
      obtain ⟨hc3, hf3⟩ := bcell hb3
      have hz3 : w.heap.size + 1 + 1 < w3.heap.size := by have := hb3.size; omega
      have hz3a : w.heap.size < w3.heap.size := by omega
      have hz3b : w.heap.size + 1 < w3.heap.size := by omega
      have HB3 := Lib.hid hb3
      clear hb3
      go_wp2_with fail
      have hsz : w.heap.size ≤ w1.heap.size := by omega
      have hsz2 : w.heap.size ≤ w2.heap.size := by omega
      exact bodyPost_ret (v := .tuple #[.agg #[.float .f32 x, .float .f32 y, .float .f32 z], .int .i64 k]) (by simp [results, Try.results21, go_sem, hc1, hc2, hc3, hz1, hz2, hz3, hz1a, hz1b, hz2a, hz2b, hz3a, hz3b]) rfl ⟨rfl, (((((((Below.refl _ _).alloc (Nat.le_refl _) _).alloc (by simp) _).alloc (by simp; omega) _).trans (HB1.out.mono (by simp; omega))).trans (HB2.out.mono hsz)).trans (HB3.out.mono hsz2)).setCell (by simp; omega) _ |>.setCell (by simp; omega) _ |>.setCell (by simp; omega) _⟩
    · have hq : (fin a' && fin b' && fin c') = false := by simpa using hq
      rw [hp] at HV
      rw [hq] at HW
      rw [hp, hq]
      clear hp hq ha hb hc ha' hb' hc'
      go_enter Try.func21, Try.ntmps21
      go_wp2_with fail
      refine (HV.out _).mono ?_
      rintro e w1 ⟨rfl, hb1⟩
      obtain ⟨hc1, hf1⟩ := bcell hb1
      have hz1 : w.heap.size + 1 + 1 < w1.heap.size := by have := hb1.size; simp at this; omega
      have hz1a : w.heap.size < w1.heap.size := by omega
      have hz1b : w.heap.size + 1 < w1.heap.size := by omega
      have HB1 := Lib.hid hb1
      clear hb1
      go_wp2_with fail
      refine (HW.out _).mono ?_
      rintro e w2 ⟨rfl, hb2⟩
      obtain ⟨hc2, hf2⟩ := bcell hb2
      have hz2 : w.heap.size + 1 + 1 < w2.heap.size := by have := hb2.size; omega
      have hz2a : w.heap.size < w2.heap.size := by omega
      have hz2b : w.heap.size + 1 < w2.heap.size := by omega
      have HB2 := Lib.hid hb2
      clear hb2
      go_wp2_with fail
      have hsz : w.heap.size ≤ w1.heap.size := by omega
      exact bodyPost_ret (v := .tuple #[.agg #[.float .f32 0, .float .f32 0, .float .f32 0], .int .i64 1]) (by simp [results, Try.results21, go_sem, hc1, hc2, hz1, hz2, hz1a, hz1b, hz2a, hz2b]) rfl ⟨rfl, ((((((Below.refl _ _).alloc (Nat.le_refl _) _).alloc (by simp) _).alloc (by simp; omega) _).trans (HB1.out.mono (by simp; omega))).trans (HB2.out.mono hsz)).setCell (by simp; omega) _ |>.setCell (by simp; omega) _ |>.setCell (by simp; omega) _⟩
  · have hp : (fin a && fin b && fin c) = false := by simpa using hp
    rw [hp] at HV
    rw [hp]
    clear hp HW ha hb hc ha' hb' hc'
    go_enter Try.func21, Try.ntmps21
    go_wp2_with fail
    refine (HV.out _).mono ?_
    rintro e w1 ⟨rfl, hb1⟩
    obtain ⟨hc1, hf1⟩ := bcell hb1
    have hz1 : w.heap.size + 1 + 1 < w1.heap.size := by have := hb1.size; simp at this; omega
    have hz1a : w.heap.size < w1.heap.size := by omega
    have hz1b : w.heap.size + 1 < w1.heap.size := by omega
    have HB1 := Lib.hid hb1
    clear hb1
    go_wp2_with fail
    exact bodyPost_ret (v := .tuple #[.agg #[.float .f32 0, .float .f32 0, .float .f32 0], .int .i64 1]) (by simp [results, Try.results21, go_sem, hc1, hz1, hz1a, hz1b]) rfl ⟨rfl, (((((Below.refl _ _).alloc (Nat.le_refl _) _).alloc (by simp) _).alloc (by simp; omega) _).trans (HB1.out.mono (by simp; omega))).setCell (by simp; omega) _ |>.setCell (by simp; omega) _ |>.setCell (by simp; omega) _⟩
end Go.Proofs.Ytcikohbcndppkaa
