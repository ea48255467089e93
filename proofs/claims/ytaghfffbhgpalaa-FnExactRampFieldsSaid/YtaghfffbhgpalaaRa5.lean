/- RampFields of both, whole, and the law's row. -/
import Derived.Test.YtaghfffbhgpalaaRa4
import Derived.Test.YtaghfffbhgpalaaRaF
import Derived.Test.YtaghfffbhgpalaaKbe
namespace Go.Proofs.Ytaghfffbhgpalaa
open Go.RowKit

set_option maxHeartbeats 2000000 in
theorem specRamp_in {a b c a' b' c' n m : Nat} {code : Int} {X : Nat → Nat} (ha : Num a) (hb : Num b) (hc : Num c) (ha' : Num a') (hb' : Num b') (hc' : Num c') (n1 : 1 ≤ n) (n2 : n ≤ 300)
    (HR : GivesR 18 a b c a' b' c' n m X code) : GivesR 5 a b c a' b' c' n m X code := by
  intro w
  have HV := Lib.hid (fun w => l09Is_any a b c w ha.1 hb.1 hc.1)
  have HW := Lib.hid (fun w => l09Is_any a' b' c' w ha'.1 hb'.1 hc'.1)
  rw [ha.2, hb.2, hc.2] at HV
  rw [ha'.2, hb'.2, hc'.2] at HW
  simp only [Bool.and_self] at HV HW
  have HI := Lib.hid (fun w => in_any (n : Int) 1 300 w)
  have hd : decide ((1 : Int) ≤ (n : Int) ∧ (n : Int) ≤ 300) = true := decide_eq_true ⟨by omega, by omega⟩
  rw [hd] at HI
  have HR := Lib.hid HR
  clear ha hb hc ha' hb' hc' hd
  go_enter Try.func5, Try.ntmps5
  go_wp2_with fail
  refine (HV.out _).mono ?_
  rintro e w1 ⟨rfl, hb1⟩
  have T1 := Lib.hid (show Two6 w1 w.heap.size a b c a' b' c' from Two6.below (W := (w.alloc (.cells #[.float .f32 a, .float .f32 b, .float .f32 c] 27)).alloc (.cells #[.float .f32 a', .float .f32 b', .float .f32 c'] 27)) ⟨by simp [go_sem], by simp [go_sem], by simp [go_sem], by simp [go_sem], by simp [go_sem], by simp [go_sem], by simp⟩ hb1)
  have HB1 := Lib.hid (show Below w.heap.size w w1 from below_step hb1 (((Below.refl _ _).alloc (Nat.le_refl _) _).alloc (by simp) _) (by simp; omega))
  clear hb1
  obtain ⟨c0, c1, c2, c3, c4, c5, hl⟩ := T1.out
  go_wp2_with fail
  refine (HW.out _).mono ?_
  rintro e w2 ⟨rfl, hb2⟩
  have T2 := Lib.hid (T1.out.below hb2)
  have HB2 := Lib.hid (below_step hb2 HB1.out HB1.out.size)
  clear hb2 c0 c1 c2 c3 c4 c5 hl T1 HB1
  obtain ⟨c0, c1, c2, c3, c4, c5, hl⟩ := T2.out
  go_wp2_with fail
  refine (HI.out _).mono ?_
  rintro e w3 ⟨rfl, rfl⟩
  go_wp2_with fail
  refine (HR.out _).mono ?_
  rintro e w3 ⟨u, rfl, hb3, ho⟩
  have HB3 := Lib.hid (below_step hb3 HB2.out HB2.out.size)
  have HO := Lib.hid (ownw_lo ho HB2.out.size)
  clear hb3 ho c0 c1 c2 c3 c4 c5 hl
  go_wp2_with fail
  exact bodyPost_ret (v := .tuple #[u, .int .i64 code]) (by simp [results, Try.results5, go_sem]) rfl ⟨_, rfl, HB3.out, HO.out⟩

/-- Vectors, but no number of steps. -/
theorem specRamp_out {a b c a' b' c' : Nat} {n : Int} {X : Nat → Nat} (ha : Num a) (hb : Num b) (hc : Num c) (ha' : Num a') (hb' : Num b') (hc' : Num c') (hn : ¬ (1 ≤ n ∧ n ≤ 300)) :
    GivesR 5 a b c a' b' c' n 0 X 2 := by
  intro w
  have HV := Lib.hid (fun w => l09Is_any a b c w ha.1 hb.1 hc.1)
  have HW := Lib.hid (fun w => l09Is_any a' b' c' w ha'.1 hb'.1 hc'.1)
  rw [ha.2, hb.2, hc.2] at HV
  rw [ha'.2, hb'.2, hc'.2] at HW
  simp only [Bool.and_self] at HV HW
  have HI := Lib.hid (fun w => in_any n 1 300 w)
  have hd : decide ((1 : Int) ≤ n ∧ n ≤ 300) = false := decide_eq_false hn
  rw [hd] at HI
  clear ha hb hc ha' hb' hc' hd hn
  go_enter Try.func5, Try.ntmps5
  go_wp2_with fail
  refine (HV.out _).mono ?_
  rintro e w1 ⟨rfl, hb1⟩
  have T1 := Lib.hid (show Two6 w1 w.heap.size a b c a' b' c' from Two6.below (W := (w.alloc (.cells #[.float .f32 a, .float .f32 b, .float .f32 c] 27)).alloc (.cells #[.float .f32 a', .float .f32 b', .float .f32 c'] 27)) ⟨by simp [go_sem], by simp [go_sem], by simp [go_sem], by simp [go_sem], by simp [go_sem], by simp [go_sem], by simp⟩ hb1)
  have HB1 := Lib.hid (show Below w.heap.size w w1 from below_step hb1 (((Below.refl _ _).alloc (Nat.le_refl _) _).alloc (by simp) _) (by simp; omega))
  clear hb1
  obtain ⟨c0, c1, c2, c3, c4, c5, hl⟩ := T1.out
  go_wp2_with fail
  refine (HW.out _).mono ?_
  rintro e w2 ⟨rfl, hb2⟩
  have HB2 := Lib.hid (below_step hb2 HB1.out HB1.out.size)
  clear hb2 c0 c1 c2 c3 c4 c5 hl T1 HB1
  go_wp2_with fail
  refine (HI.out _).mono ?_
  rintro e w3 ⟨rfl, rfl⟩
  go_wp2_with fail
  exact bodyPost_ret (v := .tuple #[.slice none 0 0, .int .i64 2]) (by simp [results, Try.results5, go_sem]) rfl ⟨_, rfl, HB2.out, own_nilR (Nat.le_refl _)⟩

theorem implRamp_out {a b c a' b' c' : Nat} {n : Int} {X : Nat → Nat} (ha : Num a) (hb : Num b) (hc : Num c) (ha' : Num a') (hb' : Num b') (hc' : Num c') (hn : ¬ (1 ≤ n ∧ n ≤ 300)) :
    GivesR 7 a b c a' b' c' n 0 X 2 := by
  intro w
  have HV := Lib.hid (fun w => isVector_any a b c w ha.1 hb.1 hc.1)
  have HW := Lib.hid (fun w => isVector_any a' b' c' w ha'.1 hb'.1 hc'.1)
  rw [ha.2, hb.2, hc.2] at HV
  rw [ha'.2, hb'.2, hc'.2] at HW
  simp only [Bool.and_self] at HV HW
  clear ha hb hc ha' hb' hc'
  by_cases h1 : n < 1
  · clear hn
    go_enter Try.func7, Try.ntmps7
    go_wp2_with fail
    refine (HV.out _).mono ?_
    rintro e w1 ⟨rfl, hb1⟩
    have T1 := Lib.hid (show Two6 w1 w.heap.size a b c a' b' c' from Two6.below (W := (w.alloc (.cells #[.float .f32 a, .float .f32 b, .float .f32 c] 27)).alloc (.cells #[.float .f32 a', .float .f32 b', .float .f32 c'] 27)) ⟨by simp [go_sem], by simp [go_sem], by simp [go_sem], by simp [go_sem], by simp [go_sem], by simp [go_sem], by simp⟩ hb1)
    have HB1 := Lib.hid (show Below w.heap.size w w1 from below_step hb1 (((Below.refl _ _).alloc (Nat.le_refl _) _).alloc (by simp) _) (by simp; omega))
    clear hb1
    obtain ⟨c0, c1, c2, c3, c4, c5, hl⟩ := T1.out
    go_wp2_with fail
    refine (HW.out _).mono ?_
    rintro e w2 ⟨rfl, hb2⟩
    have HB2 := Lib.hid (below_step hb2 HB1.out HB1.out.size)
    clear hb2 c0 c1 c2 c3 c4 c5 hl T1 HB1
    go_wp2_with fail
    exact bodyPost_ret (v := .tuple #[.slice none 0 0, .int .i64 2]) (by simp [results, Try.results7, go_sem]) rfl ⟨_, rfl, HB2.out, own_nilR (Nat.le_refl _)⟩
  · have h2 : 300 < n := by omega
    clear hn
    go_enter Try.func7, Try.ntmps7
    go_wp2_with fail
    refine (HV.out _).mono ?_
    rintro e w1 ⟨rfl, hb1⟩
    have T1 := Lib.hid (show Two6 w1 w.heap.size a b c a' b' c' from Two6.below (W := (w.alloc (.cells #[.float .f32 a, .float .f32 b, .float .f32 c] 27)).alloc (.cells #[.float .f32 a', .float .f32 b', .float .f32 c'] 27)) ⟨by simp [go_sem], by simp [go_sem], by simp [go_sem], by simp [go_sem], by simp [go_sem], by simp [go_sem], by simp⟩ hb1)
    have HB1 := Lib.hid (show Below w.heap.size w w1 from below_step hb1 (((Below.refl _ _).alloc (Nat.le_refl _) _).alloc (by simp) _) (by simp; omega))
    clear hb1
    obtain ⟨c0, c1, c2, c3, c4, c5, hl⟩ := T1.out
    go_wp2_with fail
    refine (HW.out _).mono ?_
    rintro e w2 ⟨rfl, hb2⟩
    have HB2 := Lib.hid (below_step hb2 HB1.out HB1.out.size)
    clear hb2 c0 c1 c2 c3 c4 c5 hl T1 HB1
    go_wp2_with fail
    exact bodyPost_ret (v := .tuple #[.slice none 0 0, .int .i64 2]) (by simp [results, Try.results7, go_sem]) rfl ⟨_, rfl, HB2.out, own_nilR (Nat.le_refl _)⟩

/-- No two vectors. -/
theorem specRamp_no {a b c a' b' c' : Nat} {n : Int} {X : Nat → Nat} (ha : a < 4294967296) (hb : b < 4294967296) (hc : c < 4294967296) (ha' : a' < 4294967296) (hb' : b' < 4294967296) (hc' : c' < 4294967296) (hn : ((fin a && fin b && fin c) && (fin a' && fin b' && fin c')) = false) :
    GivesR 5 a b c a' b' c' n 0 X 1 := by
  intro w
  have HV := Lib.hid (fun w => l09Is_any a b c w ha hb hc)
  have HW := Lib.hid (fun w => l09Is_any a' b' c' w ha' hb' hc')
  generalize (fin a && fin b && fin c) = p at *
  generalize (fin a' && fin b' && fin c') = q at *
  clear ha hb hc ha' hb' hc'
  cases p
  · clear hn HW
    go_enter Try.func5, Try.ntmps5
    go_wp2_with fail
    refine (HV.out _).mono ?_
    rintro e w1 ⟨rfl, hb1⟩
    have HB1 := Lib.hid (show Below w.heap.size w w1 from below_step hb1 (((Below.refl _ _).alloc (Nat.le_refl _) _).alloc (by simp) _) (by simp; omega))
    clear hb1
    go_wp2_with fail
    exact bodyPost_ret (v := .tuple #[.slice none 0 0, .int .i64 1]) (by simp [results, Try.results5, go_sem]) rfl ⟨_, rfl, HB1.out, own_nilR (Nat.le_refl _)⟩
  · obtain rfl : q = false := by simpa using hn
    clear hn
    go_enter Try.func5, Try.ntmps5
    go_wp2_with fail
    refine (HV.out _).mono ?_
    rintro e w1 ⟨rfl, hb1⟩
    have T1 := Lib.hid (show Two6 w1 w.heap.size a b c a' b' c' from Two6.below (W := (w.alloc (.cells #[.float .f32 a, .float .f32 b, .float .f32 c] 27)).alloc (.cells #[.float .f32 a', .float .f32 b', .float .f32 c'] 27)) ⟨by simp [go_sem], by simp [go_sem], by simp [go_sem], by simp [go_sem], by simp [go_sem], by simp [go_sem], by simp⟩ hb1)
    have HB1 := Lib.hid (show Below w.heap.size w w1 from below_step hb1 (((Below.refl _ _).alloc (Nat.le_refl _) _).alloc (by simp) _) (by simp; omega))
    clear hb1
    obtain ⟨c0, c1, c2, c3, c4, c5, hl⟩ := T1.out
    go_wp2_with fail
    refine (HW.out _).mono ?_
    rintro e w2 ⟨rfl, hb2⟩
    have HB2 := Lib.hid (below_step hb2 HB1.out HB1.out.size)
    clear hb2 c0 c1 c2 c3 c4 c5 hl T1 HB1
    go_wp2_with fail
    exact bodyPost_ret (v := .tuple #[.slice none 0 0, .int .i64 1]) (by simp [results, Try.results5, go_sem]) rfl ⟨_, rfl, HB2.out, own_nilR (Nat.le_refl _)⟩

theorem implRamp_no {a b c a' b' c' : Nat} {n : Int} {X : Nat → Nat} (ha : a < 4294967296) (hb : b < 4294967296) (hc : c < 4294967296) (ha' : a' < 4294967296) (hb' : b' < 4294967296) (hc' : c' < 4294967296) (hn : ((fin a && fin b && fin c) && (fin a' && fin b' && fin c')) = false) :
    GivesR 7 a b c a' b' c' n 0 X 1 := by
  intro w
  have HV := Lib.hid (fun w => isVector_any a b c w ha hb hc)
  have HW := Lib.hid (fun w => isVector_any a' b' c' w ha' hb' hc')
  generalize (fin a && fin b && fin c) = p at *
  generalize (fin a' && fin b' && fin c') = q at *
  clear ha hb hc ha' hb' hc'
  cases p
  · clear hn HW
    go_enter Try.func7, Try.ntmps7
    go_wp2_with fail
    refine (HV.out _).mono ?_
    rintro e w1 ⟨rfl, hb1⟩
    have HB1 := Lib.hid (show Below w.heap.size w w1 from below_step hb1 (((Below.refl _ _).alloc (Nat.le_refl _) _).alloc (by simp) _) (by simp; omega))
    clear hb1
    go_wp2_with fail
    exact bodyPost_ret (v := .tuple #[.slice none 0 0, .int .i64 1]) (by simp [results, Try.results7, go_sem]) rfl ⟨_, rfl, HB1.out, own_nilR (Nat.le_refl _)⟩
  · obtain rfl : q = false := by simpa using hn
    clear hn
    go_enter Try.func7, Try.ntmps7
    go_wp2_with fail
    refine (HV.out _).mono ?_
    rintro e w1 ⟨rfl, hb1⟩
    have T1 := Lib.hid (show Two6 w1 w.heap.size a b c a' b' c' from Two6.below (W := (w.alloc (.cells #[.float .f32 a, .float .f32 b, .float .f32 c] 27)).alloc (.cells #[.float .f32 a', .float .f32 b', .float .f32 c'] 27)) ⟨by simp [go_sem], by simp [go_sem], by simp [go_sem], by simp [go_sem], by simp [go_sem], by simp [go_sem], by simp⟩ hb1)
    have HB1 := Lib.hid (show Below w.heap.size w w1 from below_step hb1 (((Below.refl _ _).alloc (Nat.le_refl _) _).alloc (by simp) _) (by simp; omega))
    clear hb1
    obtain ⟨c0, c1, c2, c3, c4, c5, hl⟩ := T1.out
    go_wp2_with fail
    refine (HW.out _).mono ?_
    rintro e w2 ⟨rfl, hb2⟩
    have HB2 := Lib.hid (below_step hb2 HB1.out HB1.out.size)
    clear hb2 c0 c1 c2 c3 c4 c5 hl T1 HB1
    go_wp2_with fail
    exact bodyPost_ret (v := .tuple #[.slice none 0 0, .int .i64 1]) (by simp [results, Try.results7, go_sem]) rfl ⟨_, rfl, HB2.out, own_nilR (Nat.le_refl _)⟩

theorem ramp_words {a b c a' b' c' n : Nat} (ha : Num a) (hb : Num b) (hc : Num c) (ha' : Num a') (hb' : Num b') (hc' : Num c') (n2 : n ≤ 300) (hg : ∀ i, i < n → rampG (rampX a b c a' b' c' n) i = true) :
    ∀ i, i < 3 * n → rampX a b c a' b' c' n i < 4294967296 ∧ fin (rampX a b c a' b' c' n i) = true := by
  intro i hi
  have hk : i / 3 < n := by omega
  obtain ⟨_, ht, h0⟩ := rampT_ok n2 hk
  obtain ⟨_, _, x, b0⟩ := btw_of ha ha' ht h0
  obtain ⟨_, _, y, b1⟩ := btw_of hb hb' ht h0
  obtain ⟨_, _, z, b2⟩ := btw_of hc hc' ht h0
  have g := hg (i / 3) hk
  unfold rampG at g
  simp only [Bool.and_eq_true] at g
  rcases (show i = 3 * (i / 3) ∨ i = 3 * (i / 3) + 1 ∨ i = 3 * (i / 3) + 2 by omega) with h | h | h
  · rw [h]
    exact ⟨by rw [rampX0, b0.e]; exact b0.lt, g.1.1⟩
  · rw [h]
    exact ⟨by rw [rampX1, b1.e]; exact b1.lt, g.1.2⟩
  · rw [h]
    exact ⟨by rw [rampX2, b2.e]; exact b2.lt, g.2⟩

theorem rampFieldsOk : RampFieldsOk := by
  intro a b c a' b' c' n ha hb hc ha' hb' hc' _
  cases H : ((fin a && fin b && fin c) && (fin a' && fin b' && fin c'))
  · exact ⟨0, fun _ => 0, 1, by omega, fun i hi => absurd hi (by omega), specRamp_no ha hb hc ha' hb' hc' H, implRamp_no ha hb hc ha' hb' hc' H⟩
  · simp only [Bool.and_eq_true] at H
    obtain ⟨⟨⟨fa, fb⟩, fc⟩, ⟨fa', fb'⟩, fc'⟩ := H
    by_cases hn : 1 ≤ n ∧ n ≤ 300
    · obtain ⟨N, rfl⟩ : ∃ N : Nat, n = N := ⟨n.toNat, by omega⟩
      have n1 : 1 ≤ N := by omega
      have n2 : N ≤ 300 := by omega
      by_cases hg : ∀ i, i < N → rampG (rampX a b c a' b' c' N) i = true
      · have hres : ((∀ i, i < N → rampG (rampX a b c a' b' c' N) i = true) → N = N ∧ (0 : Int) = 0) ∧ (¬ (∀ i, i < N → rampG (rampX a b c a' b' c' N) i = true) → N = 0 ∧ (0 : Int) = 3) := ⟨fun _ => ⟨rfl, rfl⟩, fun h => absurd hg h⟩
        exact ⟨N, rampX a b c a' b' c' N, 0, by omega, ramp_words ⟨ha, fa⟩ ⟨hb, fb⟩ ⟨hc, fc⟩ ⟨ha', fa'⟩ ⟨hb', fb'⟩ ⟨hc', fc'⟩ n2 hg,
          specRamp_in ⟨ha, fa⟩ ⟨hb, fb⟩ ⟨hc, fc⟩ ⟨ha', fa'⟩ ⟨hb', fb'⟩ ⟨hc', fc'⟩ n1 n2 (l09Ramp_ok ⟨ha, fa⟩ ⟨hb, fb⟩ ⟨hc, fc⟩ ⟨ha', fa'⟩ ⟨hb', fb'⟩ ⟨hc', fc'⟩ n2 hres),
          implRamp_yes ⟨ha, fa⟩ ⟨hb, fb⟩ ⟨hc, fc⟩ ⟨ha', fa'⟩ ⟨hb', fb'⟩ ⟨hc', fc'⟩ n1 n2 hres⟩
      · have hres : ((∀ i, i < N → rampG (rampX a b c a' b' c' N) i = true) → 0 = N ∧ (3 : Int) = 0) ∧ (¬ (∀ i, i < N → rampG (rampX a b c a' b' c' N) i = true) → (0 : Nat) = 0 ∧ (3 : Int) = 3) := ⟨fun h => absurd h hg, fun _ => ⟨rfl, rfl⟩⟩
        exact ⟨0, rampX a b c a' b' c' N, 3, by omega, fun i hi => absurd hi (by omega),
          specRamp_in ⟨ha, fa⟩ ⟨hb, fb⟩ ⟨hc, fc⟩ ⟨ha', fa'⟩ ⟨hb', fb'⟩ ⟨hc', fc'⟩ n1 n2 (l09Ramp_ok ⟨ha, fa⟩ ⟨hb, fb⟩ ⟨hc, fc⟩ ⟨ha', fa'⟩ ⟨hb', fb'⟩ ⟨hc', fc'⟩ n2 hres),
          implRamp_yes ⟨ha, fa⟩ ⟨hb, fb⟩ ⟨hc, fc⟩ ⟨ha', fa'⟩ ⟨hb', fb'⟩ ⟨hc', fc'⟩ n1 n2 hres⟩
    · exact ⟨0, fun _ => 0, 2, by omega, fun i hi => absurd hi (by omega), specRamp_out ⟨ha, fa⟩ ⟨hb, fb⟩ ⟨hc, fc⟩ ⟨ha', fa'⟩ ⟨hb', fb'⟩ ⟨hc', fc'⟩ hn, implRamp_out ⟨ha, fa⟩ ⟨hb, fb⟩ ⟨hc, fc⟩ ⟨ha', fa'⟩ ⟨hb', fb'⟩ ⟨hc', fc'⟩ hn⟩

theorem rampHolds : Rows.FnExactRampFieldsSaid := RampFields.holds rampFieldsOk

end Go.Proofs.Ytaghfffbhgpalaa
