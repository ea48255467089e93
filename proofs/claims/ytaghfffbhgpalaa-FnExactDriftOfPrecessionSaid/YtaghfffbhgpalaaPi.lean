/- DriftOfPrecession of the program, whole. -/
import Derived.Test.YtaghfffbhgpalaaPh
import Derived.Test.YtaghfffbhgpalaaKam
import Derived.Test.YtaghfffbhgpalaaKae
namespace Go.Proofs.Ytaghfffbhgpalaa
open Go.RowKit

set_option maxRecDepth 100000 in
set_option maxHeartbeats 2000000 in
theorem implD_no {a b c h : Nat} {n : Int} {X : Nat → Nat} (ha : a < 4294967296) (hb : b < 4294967296) (hc : c < 4294967296) (hh : h < 4294967296) (H : ((fin a && fin b && fin c) && fin h) = false) :
    GivesD 12 a b c h n 0 X 1 := by
  intro w
  have HV := Lib.hid (fun w => isVector_any a b c w ha hb hc)
  have HN := Lib.hid (fun w => isNumber_any h w hh)
  generalize (fin a && fin b && fin c) = p at *
  generalize fin h = q at *
  clear ha hb hc hh
  cases p
  · clear H HN
    go_enter Try.func12, Try.ntmps12
    go_wp2_with fail
    refine (HV.out _).mono ?_
    rintro e w1 ⟨rfl, hb1⟩
    have HB1 := Lib.hid (show Below w.heap.size w w1 from below_step hb1 ((((Below.refl _ _).alloc (Nat.le_refl _) _).alloc (by simp) _).alloc (by simp; omega) _) (by simp; omega))
    clear hb1
    go_wp2_with fail
    exact bodyPost_ret (v := .tuple #[.slice none 0 0, .int .i64 1]) (by simp [results, Try.results12, go_sem]) rfl ⟨_, rfl, HB1.out, own_nilP (Nat.le_refl _)⟩
  · obtain rfl : q = false := by simpa using H
    clear H
    go_enter Try.func12, Try.ntmps12
    go_wp2_with fail
    refine (HV.out _).mono ?_
    rintro e w1 ⟨rfl, hb1⟩
    obtain ⟨hc1, hf1⟩ := bcell hb1
    have D1 : w1.cell? ⟨w.heap.size + 1, 0, none⟩ = some (.float .f32 h) := by rw [hc1 _ _ (by first | (simp; done) | (simp; omega))]; simp [go_sem]
    have HB1 := Lib.hid (show Below w.heap.size w w1 from below_step hb1 ((((Below.refl _ _).alloc (Nat.le_refl _) _).alloc (by simp) _).alloc (by simp; omega) _) (by simp; omega))
    clear hb1 hc1 hf1
    go_wp2_with fail
    refine (HN.out _).mono ?_
    rintro e w2 ⟨rfl, rfl⟩
    go_wp2_with fail
    exact bodyPost_ret (v := .tuple #[.slice none 0 0, .int .i64 1]) (by simp [results, Try.results12, go_sem]) rfl ⟨_, rfl, HB1.out, own_nilP (Nat.le_refl _)⟩

set_option maxRecDepth 100000 in
set_option maxHeartbeats 2000000 in
theorem implD_out {a b c h : Nat} {n : Int} {X : Nat → Nat} (ha : Num a) (hb : Num b) (hc : Num c) (hh : Num h) (hn : ¬ (1 ≤ n ∧ n ≤ 300)) :
    GivesD 12 a b c h n 0 X 2 := by
  intro w
  have HV := Lib.hid (fun w => isVector_any a b c w ha.1 hb.1 hc.1)
  have HN := Lib.hid (fun w => isNumber_any h w hh.1)
  rw [ha.2, hb.2, hc.2] at HV
  rw [hh.2] at HN
  simp only [Bool.and_self] at HV
  clear ha hb hc hh
  go_enter Try.func12, Try.ntmps12
  go_wp2_with fail
  refine (HV.out _).mono ?_
  rintro e w1 ⟨rfl, hb1⟩
  obtain ⟨hc1, hf1⟩ := bcell hb1
  have D1 : w1.cell? ⟨w.heap.size + 1, 0, none⟩ = some (.float .f32 h) := by rw [hc1 _ _ (by first | (simp; done) | (simp; omega))]; simp [go_sem]
  have E1 : w1.cell? ⟨w.heap.size + 1 + 1, 0, none⟩ = some (.int .i64 n) := by rw [hc1 _ _ (by first | (simp; done) | (simp; omega))]; simp [go_sem]
  have HB1 := Lib.hid (show Below w.heap.size w w1 from below_step hb1 ((((Below.refl _ _).alloc (Nat.le_refl _) _).alloc (by simp) _).alloc (by simp; omega) _) (by simp; omega))
  clear hb1 hc1 hf1
  go_wp2_with fail
  refine (HN.out _).mono ?_
  rintro e w2 ⟨rfl, rfl⟩
  by_cases h1 : n < 1
  · clear hn
    go_wp2_with fail
    exact bodyPost_ret (v := .tuple #[.slice none 0 0, .int .i64 2]) (by simp [results, Try.results12, go_sem]) rfl ⟨_, rfl, HB1.out, own_nilP (Nat.le_refl _)⟩
  · have h2 : (300 : Int) < n := by omega
    clear hn
    go_wp2_with fail
    exact bodyPost_ret (v := .tuple #[.slice none 0 0, .int .i64 2]) (by simp [results, Try.results12, go_sem]) rfl ⟨_, rfl, HB1.out, own_nilP (Nat.le_refl _)⟩

/-- The door in its place: what it makes is handed on. -/
theorem implD_door {a b c h n m : Nat} {code : Int} {X : Nat → Nat} (ha : Num a) (hb : Num b) (hc : Num c) (hh : Num h) (n1 : 1 ≤ n) (n2 : n ≤ 300)
    (HD0 : ∀ (B D N : Nat) (W : World), SC W a b c h n B D N W → Calls Try.prog 27 #[.func (.func 28) #[] #[.pointer (some ⟨B, 0, none⟩), .pointer (some ⟨D, 0, none⟩), .pointer (some ⟨N, 0, none⟩)]] W fun e w' => ∃ u, e = .returned (.tuple #[u, .int .i64 code]) ∧ Below W.heap.size W w' ∧ OwnV 22 w' u m (fun i => .float .f32 (X i)) W.heap.size w'.heap.size) :
    GivesD 12 a b c h n m X code := by
  intro w
  have HD := Lib.hid HD0
  have HV := Lib.hid (fun w => isVector_any a b c w ha.1 hb.1 hc.1)
  have HN := Lib.hid (fun w => isNumber_any h w hh.1)
  rw [ha.2, hb.2, hc.2] at HV
  rw [hh.2] at HN
  simp only [Bool.and_self] at HV
  have hmf : ∀ (fn : Fn) (first cap : Array Value) (w : World), (Instr.makeFunc fn first cap).run Try.prog w = .ok (.func fn first cap) w := fun _ _ _ _ => rfl
  clear ha hb hc hh HD0
  have hn1 : ¬ ((n : Int) < 1) := by omega
  have hn2 : ¬ ((300 : Int) < (n : Int)) := by omega
  go_enter Try.func12, Try.ntmps12
  go_wp2_with fail
  refine (HV.out _).mono ?_
  rintro e w1 ⟨rfl, hb1⟩
  obtain ⟨hc1, hf1⟩ := bcell hb1
  have hz1 : w.heap.size + 1 + 1 < w1.heap.size := by have := hb1.size; simp at this; omega
  have V1 : VF w1 w.heap.size a b c := ⟨by rw [hc1 _ _ (by first | (simp; done) | (simp; omega))]; simp [go_sem], by rw [hc1 _ _ (by first | (simp; done) | (simp; omega))]; simp [go_sem], by rw [hc1 _ _ (by first | (simp; done) | (simp; omega))]; simp [go_sem], by omega⟩
  have D1 : w1.cell? ⟨w.heap.size + 1, 0, none⟩ = some (.float .f32 h) := by rw [hc1 _ _ (by first | (simp; done) | (simp; omega))]; simp [go_sem]
  have E1 : w1.cell? ⟨w.heap.size + 1 + 1, 0, none⟩ = some (.int .i64 (n : Int)) := by rw [hc1 _ _ (by first | (simp; done) | (simp; omega))]; simp [go_sem]
  have HB1 := Lib.hid (show Below w.heap.size w w1 from below_step hb1 ((((Below.refl _ _).alloc (Nat.le_refl _) _).alloc (by simp) _).alloc (by simp; omega) _) (by simp; omega))
  have HS := Lib.hid (show SC w1 a b c h n w.heap.size (w.heap.size + 1) (w.heap.size + 1 + 1) w1 from ⟨V1, D1, E1, by omega, by omega, Below.refl _ _⟩)
  clear hb1 hc1 hf1 V1
  go_wp2_with fail
  refine (HN.out _).mono ?_
  rintro e w2 ⟨rfl, rfl⟩
  go_wp2_with fail
  refine (HD.out _ _ _ _ HS.out).mono ?_
  rintro e w3 ⟨u, rfl, hb3, ho3⟩
  have HB3 := Lib.hid (below_step hb3 HB1.out HB1.out.size)
  obtain ⟨a', cap', rfl, ho⟩ := ho3
  have HO3 := Lib.hid (ownv_wide (show OwnV 22 w3 _ m (fun i => .float .f32 (X i)) w1.heap.size w3.heap.size from ⟨a', cap', rfl, ho⟩) HB1.out.size)
  clear hb3 ho HD HS D1 E1
  go_wp2_with fail
  exact bodyPost_ret (v := .tuple #[.slice a' m cap', .int .i64 code]) (by simp [results, Try.results12, go_sem]) rfl ⟨_, rfl, HB3.out, HO3.out⟩

theorem sc_under {a b c h B D N : Nat} {n : Int} {W w' : World} (s : SC W a b c h n B D N W) (hb : Below W.heap.size W w') : SC w' a b c h n B D N w' := by
  obtain ⟨h1, h2, h3, h4, h5, _⟩ := sc_step s hb
  exact ⟨h1, h2, h3, h4, h5, Below.refl _ _⟩

theorem implD_lim {a b c h n : Nat} {X : Nat → Nat} (ha : Num a) (hb : Num b) (hc : Num c) (hh : Num h) (n1 : 1 ≤ n) (n2 : n ≤ 300) (H : finO (qO a b c h) = false) :
    GivesD 12 a b c h n 0 X 3 := by
  have HX := fun w => stepWith_any ha hb hc hh w
  unfold stepE at HX
  rw [H] at HX
  refine implD_door ha hb hc hh n1 n2 fun B D N W hS => ?_
  exact doorL_pan W (fun _ => by kernel_rfl) fun w' hb' => powersC_no HX (sc_under hS hb')

theorem implD_in {a b c h n : Nat} (ha : Num a) (hb : Num b) (hc : Num c) (hh : Num h) (n1 : 1 ≤ n) (n2 : n ≤ 300) (H : finO (qO a b c h) = true) :
    GivesD 12 a b c h n n (fun k => driftI (pwI (stepTb a b c h) (k + 1))) 0 := by
  obtain ⟨nw, nx, ny, nz, hN⟩ := nrm_of ha hb hc hh H
  have hT6 := step_tb ha hb hc hh H
  have HX := fun w => stepWith_any ha hb hc hh w
  unfold stepE at HX
  rw [H] at HX
  have HP := fun w => drifts_made (T := stepTb a b c h) (pw := pwI (stepTb a b c h)) n2 rfl (fun k hk w => times_ok (pwI_ok hN hT6 k (by omega)).1 w) (fun k hk w => implDrift_ok (k := 59) (pwI_ok hN hT6 k (by omega)).2 (by omega) w) w
  refine implD_door ha hb hc hh n1 n2 fun B D N W hS => ?_
  exact doorL_ret W (fun _ => by kernel_rfl) fun w' hb' => powersC_yes (T := stepTb a b c h) HX HP (sc_under hS hb')

end Go.Proofs.Ytaghfffbhgpalaa
