/- The law of AddVectors. -/
import Derived.Test.YtcikohbcndppkaaV5
import Derived.Deep.RegionHeld3
import Derived.Deep.DrawnRows
import Derived.Deep.DeepCutAuto
namespace Go.Proofs.Ytcikohbcndppkaa
open Go.RowKit
attribute [local go_sem ↓] Go.wp_at_zero Go.wp_at_succ

theorem bcells6 {W w1 : World} (hb : Below W.heap.size W w1) (B : Nat) (h : B + 1 < W.heap.size) : (∀ b o, b < W.heap.size → w1.cell? ⟨b, o, none⟩ = W.cell? ⟨b, o, none⟩) ∧ (∀ b o, b < W.heap.size → w1.frozen? ⟨b, o, none⟩ = W.frozen? ⟨b, o, none⟩) ∧ B < w1.heap.size ∧ B + 1 < w1.heap.size ∧ B ≤ w1.heap.size ∧ w1.heap.size ≠ B ∧ w1.heap.size ≠ B + 1 ∧ (∀ b, b < W.heap.size → b < w1.heap.size) ∧
    w1.cell? ⟨B, 0, none⟩ = W.cell? ⟨B, 0, none⟩ ∧ w1.cell? ⟨B, 1, none⟩ = W.cell? ⟨B, 1, none⟩ ∧ w1.cell? ⟨B, 2, none⟩ = W.cell? ⟨B, 2, none⟩ ∧ w1.cell? ⟨B + 1, 0, none⟩ = W.cell? ⟨B + 1, 0, none⟩ ∧ w1.cell? ⟨B + 1, 1, none⟩ = W.cell? ⟨B + 1, 1, none⟩ ∧ w1.cell? ⟨B + 1, 2, none⟩ = W.cell? ⟨B + 1, 2, none⟩ := by
  have hc : ∀ b o, b < W.heap.size → w1.cell? ⟨b, o, none⟩ = W.cell? ⟨b, o, none⟩ := fun b o h => hb.cell (p := ⟨b, o, none⟩) h
  have hs := hb.size
  exact ⟨hc, fun b o h => hb.frozen (p := ⟨b, o, none⟩) h, by omega, by omega, by omega, by omega, by omega, fun b h => Nat.lt_of_lt_of_le h hs, hc _ _ (by omega), hc _ _ (by omega), hc _ _ (by omega), hc _ _ h, hc _ _ h, hc _ _ h⟩

theorem bcells9 {W w1 : World} (hb : Below W.heap.size W w1) (B g : Nat) (h : B + 1 < W.heap.size) (h' : g < W.heap.size) : (∀ b o, b < W.heap.size → w1.cell? ⟨b, o, none⟩ = W.cell? ⟨b, o, none⟩) ∧ (∀ b o, b < W.heap.size → w1.frozen? ⟨b, o, none⟩ = W.frozen? ⟨b, o, none⟩) ∧ B < w1.heap.size ∧ B + 1 < w1.heap.size ∧ B ≤ w1.heap.size ∧ w1.heap.size ≠ B ∧ w1.heap.size ≠ B + 1 ∧ (∀ b, b < W.heap.size → b < w1.heap.size) ∧
    w1.cell? ⟨B, 0, none⟩ = W.cell? ⟨B, 0, none⟩ ∧ w1.cell? ⟨B, 1, none⟩ = W.cell? ⟨B, 1, none⟩ ∧ w1.cell? ⟨B, 2, none⟩ = W.cell? ⟨B, 2, none⟩ ∧ w1.cell? ⟨B + 1, 0, none⟩ = W.cell? ⟨B + 1, 0, none⟩ ∧ w1.cell? ⟨B + 1, 1, none⟩ = W.cell? ⟨B + 1, 1, none⟩ ∧ w1.cell? ⟨B + 1, 2, none⟩ = W.cell? ⟨B + 1, 2, none⟩ ∧
    g < w1.heap.size ∧ g ≤ w1.heap.size ∧ w1.heap.size ≠ g ∧ w1.cell? ⟨g, 0, none⟩ = W.cell? ⟨g, 0, none⟩ ∧ w1.cell? ⟨g, 1, none⟩ = W.cell? ⟨g, 1, none⟩ ∧ w1.cell? ⟨g, 2, none⟩ = W.cell? ⟨g, 2, none⟩ := by
  obtain ⟨hc, hf, a1, a2, a3, a4, a5, a6, a7, a8, a9, a10, a11, a12⟩ := bcells6 hb B h
  have hs := hb.size
  exact ⟨hc, hf, a1, a2, a3, a4, a5, a6, a7, a8, a9, a10, a11, a12, by omega, by omega, by omega, hc _ _ h', hc _ _ h', hc _ _ h'⟩

theorem below_step {B : Nat} {a W w' : World} (h : Below W.heap.size W w') (h1 : Below B a W) (h2 : B ≤ W.heap.size) : Below B a w' := h1.trans (h.mono h2)

theorem set3 {w : World} {g x y z : Nat} (h0 : (w.cell? ⟨g, 0, none⟩).isSome = true) (h1 : (w.cell? ⟨g, 1, none⟩).isSome = true) (h2 : (w.cell? ⟨g, 2, none⟩).isSome = true) :
    (((w.setCell ⟨g, 0, none⟩ (.float .f32 x)).setCell ⟨g, 1, none⟩ (.float .f32 y)).setCell ⟨g, 2, none⟩ (.float .f32 z)).cell? ⟨g, 0, none⟩ = some (.float .f32 x) ∧
    (((w.setCell ⟨g, 0, none⟩ (.float .f32 x)).setCell ⟨g, 1, none⟩ (.float .f32 y)).setCell ⟨g, 2, none⟩ (.float .f32 z)).cell? ⟨g, 1, none⟩ = some (.float .f32 y) ∧
    (((w.setCell ⟨g, 0, none⟩ (.float .f32 x)).setCell ⟨g, 1, none⟩ (.float .f32 y)).setCell ⟨g, 2, none⟩ (.float .f32 z)).cell? ⟨g, 2, none⟩ = some (.float .f32 z) := by
  have n01 : (⟨g, 0, none⟩ : Addr) ≠ ⟨g, 1, none⟩ := by simp
  have n02 : (⟨g, 0, none⟩ : Addr) ≠ ⟨g, 2, none⟩ := by simp
  have n12 : (⟨g, 1, none⟩ : Addr) ≠ ⟨g, 2, none⟩ := by simp
  have s0 := World.cell?_setCell_same' w ⟨g, 0, none⟩ (.float .f32 x) h0
  have t1 : ((w.setCell ⟨g, 0, none⟩ (.float .f32 x)).cell? ⟨g, 1, none⟩).isSome = true := by rw [World.cell?_setCell_other (h := n01)]; exact h1
  have s1 := World.cell?_setCell_same' _ ⟨g, 1, none⟩ (.float .f32 y) t1
  have t2 : (((w.setCell ⟨g, 0, none⟩ (.float .f32 x)).setCell ⟨g, 1, none⟩ (.float .f32 y)).cell? ⟨g, 2, none⟩).isSome = true := by rw [World.cell?_setCell_other (h := n12), World.cell?_setCell_other (h := n02)]; exact h2
  have s2 := World.cell?_setCell_same' _ ⟨g, 2, none⟩ (.float .f32 z) t2
  refine ⟨?_, ?_, s2⟩
  · rw [World.cell?_setCell_other (h := n02.symm), World.cell?_setCell_other (h := n01.symm)]; exact s0
  · rw [World.cell?_setCell_other (h := n12.symm)]; exact s1

/-- Behind the first statement: what was answered lies in a variable of its own. -/
def Told (w : World) (a b c a' b' c' x y z : Nat) (j : Int) (s5 s6 : Value) (wx : World) : Prop := ∃ g : Nat, s5 = .pointer (some ⟨g, 0, none⟩) ∧ s6 = .int .i64 j ∧ w.heap.size + 1 < g ∧ g < wx.heap.size ∧
  wx.cell? ⟨g, 0, none⟩ = some (.float .f32 x) ∧ wx.cell? ⟨g, 1, none⟩ = some (.float .f32 y) ∧ wx.cell? ⟨g, 2, none⟩ = some (.float .f32 z) ∧
  wx.cell? ⟨w.heap.size, 0, none⟩ = some (.float .f32 a) ∧ wx.cell? ⟨w.heap.size, 1, none⟩ = some (.float .f32 b) ∧ wx.cell? ⟨w.heap.size, 2, none⟩ = some (.float .f32 c) ∧
  wx.cell? ⟨w.heap.size + 1, 0, none⟩ = some (.float .f32 a') ∧ wx.cell? ⟨w.heap.size + 1, 1, none⟩ = some (.float .f32 b') ∧ wx.cell? ⟨w.heap.size + 1, 2, none⟩ = some (.float .f32 c') ∧ Below w.heap.size w wx

/-- Behind the second one: both answers. -/
def Told2 (w : World) (g x y z : Nat) (j : Int) (s7 s8 : Value) (wx : World) : Prop := ∃ g' : Nat, s7 = .pointer (some ⟨g', 0, none⟩) ∧ s8 = .int .i64 j ∧
  wx.cell? ⟨g', 0, none⟩ = some (.float .f32 x) ∧ wx.cell? ⟨g', 1, none⟩ = some (.float .f32 y) ∧ wx.cell? ⟨g', 2, none⟩ = some (.float .f32 z) ∧
  wx.cell? ⟨g, 0, none⟩ = some (.float .f32 x) ∧ wx.cell? ⟨g, 1, none⟩ = some (.float .f32 y) ∧ wx.cell? ⟨g, 2, none⟩ = some (.float .f32 z) ∧ Below w.heap.size w wx

def VecOk (x y z : Nat) : Prop := x < 4294967296 ∧ y < 4294967296 ∧ z < 4294967296 ∧ fin x = true ∧ fin y = true ∧ fin z = true

theorem vecOr_ok (k : Int) (a b c : Nat) (ha : a < 4294967296) (hb : b < 4294967296) (hc : c < 4294967296) : ∃ (x y z : Nat) (j : Int), vecOr k a b c = .tuple #[.agg #[.float .f32 x, .float .f32 y, .float .f32 z], .int .i64 j] ∧ VecOk x y z := by
  unfold vecOr
  split
  · rename_i h
    simp only [Bool.and_eq_true] at h
    exact ⟨a, b, c, 0, rfl, ha, hb, hc, h.1.1, h.1.2, h.2⟩
  · exact ⟨0, 0, 0, k, rfl, by omega, by omega, by omega, by decide +kernel, by decide +kernel, by decide +kernel⟩

theorem sumF_lt (x y : Nat) (hx : x < 4294967296) (hy : y < 4294967296) (h1 : fin x = true) (h2 : fin y = true) : sumF x y < 4294967296 := (sumF_ok x y hx hy h1 h2).2

theorem addRes_ok (a b c a' b' c' : Nat) (ha : a < 4294967296) (hb : b < 4294967296) (hc : c < 4294967296) (ha' : a' < 4294967296) (hb' : b' < 4294967296) (hc' : c' < 4294967296) :
    ∃ (x y z : Nat) (j : Int), addRes a b c a' b' c' = .tuple #[.agg #[.float .f32 x, .float .f32 y, .float .f32 z], .int .i64 j] ∧ VecOk x y z := by
  unfold addRes
  split
  · rename_i h
    simp only [Bool.and_eq_true] at h
    exact vecOr_ok 3 _ _ _ (sumF_lt _ _ ha ha' h.1.1.1 h.2.1.1) (sumF_lt _ _ hb hb' h.1.1.2 h.2.1.2) (sumF_lt _ _ hc hc' h.1.2 h.2.2)
  · exact ⟨0, 0, 0, 1, rfl, by omega, by omega, by omega, by decide +kernel, by decide +kernel, by decide +kernel⟩

set_option maxRecDepth 100000 in
set_option maxHeartbeats 1000000 in
theorem law_true (a b c a' b' c' : Nat) (w : World) (ha : a < 4294967296) (hb : b < 4294967296) (hc : c < 4294967296) (ha' : a' < 4294967296) (hb' : b' < 4294967296) (hc' : c' < 4294967296) :
    Calls Try.prog 6 #[.agg #[.float .f32 a, .float .f32 b, .float .f32 c], .agg #[.float .f32 a', .float .f32 b', .float .f32 c']] w fun e w' => e = .returned (.bool true) ∧ Below w.heap.size w w' := by
  have HI := Lib.hid (fun w => implAdd a b c a' b' c' w ha hb hc ha' hb' hc')
  have HS := Lib.hid (fun w => specAdd a b c a' b' c' w ha hb hc ha' hb' hc')
  obtain ⟨x, y, z, j, hres, hok⟩ := addRes_ok a b c a' b' c' ha hb hc ha' hb' hc'
  rw [hres] at HI HS
  have HOk := Lib.hid hok
  clear hres hok ha hb hc ha' hb' hc'
  have e0 : w.heap.size < w.heap.size + 1 + 1 := by omega
  have e1 : w.heap.size < w.heap.size + 1 + 1 + 1 := by omega
  have e3 : w.heap.size + 1 + 1 ≠ w.heap.size := by omega
  have e4 : w.heap.size + 1 + 1 ≠ w.heap.size + 1 := by omega
  have e2 : w.heap.size + 1 < w.heap.size + 1 + 1 + 1 := by omega
  go_enter Try.func6, Try.ntmps6
  go_upto_region 1 with fail
  go_cut [5, 6] (fun s5 s6 wx => Told w a b c a' b' c' x y z j s5 s6 wx)
  case first =>
    go_region_held3 (fun w' => w'.cell? ⟨w.heap.size, 0, none⟩ = some (.float .f32 a) ∧ w'.cell? ⟨w.heap.size, 1, none⟩ = some (.float .f32 b) ∧ w'.cell? ⟨w.heap.size, 2, none⟩ = some (.float .f32 c) ∧ w'.cell? ⟨w.heap.size + 1, 0, none⟩ = some (.float .f32 a') ∧ w'.cell? ⟨w.heap.size + 1, 1, none⟩ = some (.float .f32 b') ∧ w'.cell? ⟨w.heap.size + 1, 2, none⟩ = some (.float .f32 c')) (go_keep)
      (first | (go_at_call 21; refine (HS.out _).mono ?_; rintro e w' ⟨rfl, hb⟩; obtain ⟨hc, hf, hz0, hz1, hy0, hn0, hn1, hs, k0, k1, k2, k3, k4, k5⟩ := bcells6 hb w.heap.size (by first | omega | (simp; done) | (simp; omega)); try (have hz2 := hs (w.heap.size + 1 + 1) (by first | assumption | (simp; done) | (simp; omega)))) | (go_at_call 52; refine (toVector_any _ _ _ _).mono ?_; rintro e w' ⟨rfl, hb⟩; obtain ⟨hc, hf, hz0, hz1, hy0, hn0, hn1, hs, k0, k1, k2, k3, k4, k5⟩ := bcells6 hb w.heap.size (by first | omega | (simp; done) | (simp; omega)); try (have hz2 := hs (w.heap.size + 1 + 1) (by first | assumption | (simp; done) | (simp; omega)))))
    all_goals
      go_wp2_with fail
      go_meet
      refine ⟨_, rfl, rfl, ?_, ?_, ?_, ?_, ?_, ?_, ?_, ?_, ?_, ?_, ?_, ?_⟩
      all_goals first
        | (simp [*]; done)
        | (simp; omega)
        | exact (set3 (by simp [*, go_sem]) (by simp [*, go_sem]) (by simp [*, go_sem])).1
        | exact (set3 (by simp [*, go_sem]) (by simp [*, go_sem]) (by simp [*, go_sem])).2.1
        | exact (set3 (by simp [*, go_sem]) (by simp [*, go_sem]) (by simp [*, go_sem])).2.2
        | skip
      all_goals repeat first
        | exact Below.refl _ _
        | refine Below.setCell ?_ ?_ _
        | refine Below.alloc ?_ ?_ _
        | refine below_drewN ?_ _
        | refine Below.drew ?_
        | refine below_step (by assumption) ?_ ?_
      all_goals first | omega | (simp; done) | (simp; omega) | skip
  case rest =>
    obtain ⟨g, rfl, rfl, hg1, hg2, t0, t1, t2, c0, c1, c2, c3, c4, c5, hB⟩ := hcut
    have d0 : wc.heap.size ≠ w.heap.size := by omega
    have d1 : wc.heap.size ≠ w.heap.size + 1 := by omega
    have d2 : wc.heap.size ≠ g := by omega
    have d3 : w.heap.size < wc.heap.size := by omega
    have d4 : w.heap.size + 1 < wc.heap.size := by omega
    have d5 : w.heap.size ≤ wc.heap.size := by omega
    clear e0 e1 e2 e3 e4
    go_upto_region 2 with fail
    go_cut [7, 8] (fun s7 s8 wx => Told2 w g x y z j s7 s8 wx)
    case first =>
      go_region_held3 (fun w' => w'.cell? ⟨w.heap.size, 0, none⟩ = some (.float .f32 a) ∧ w'.cell? ⟨w.heap.size, 1, none⟩ = some (.float .f32 b) ∧ w'.cell? ⟨w.heap.size, 2, none⟩ = some (.float .f32 c) ∧ w'.cell? ⟨w.heap.size + 1, 0, none⟩ = some (.float .f32 a') ∧ w'.cell? ⟨w.heap.size + 1, 1, none⟩ = some (.float .f32 b') ∧ w'.cell? ⟨w.heap.size + 1, 2, none⟩ = some (.float .f32 c')) (go_keep)
        (first | (go_at_call 20; refine (HI.out _).mono ?_; rintro e w' ⟨rfl, hb⟩; obtain ⟨hc, hf, hz0, hz1, hy0, hn0, hn1, hs, k0, k1, k2, k3, k4, k5, q0, q1, q2, q3, q4, q5⟩ := bcells9 hb w.heap.size g (by first | omega | (simp; done) | (simp; omega)) (by first | omega | (simp; done) | (simp; omega)); try (have hz2 := hs wc.heap.size (by first | assumption | (simp; done) | (simp; omega)))) | (go_at_call 52; refine (toVector_any _ _ _ _).mono ?_; rintro e w' ⟨rfl, hb⟩; obtain ⟨hc, hf, hz0, hz1, hy0, hn0, hn1, hs, k0, k1, k2, k3, k4, k5, q0, q1, q2, q3, q4, q5⟩ := bcells9 hb w.heap.size g (by first | omega | (simp; done) | (simp; omega)) (by first | omega | (simp; done) | (simp; omega)); try (have hz2 := hs wc.heap.size (by first | assumption | (simp; done) | (simp; omega)))))
      all_goals
        go_wp2_with fail
        go_meet
        refine ⟨_, rfl, rfl, ?_, ?_, ?_, ?_, ?_, ?_, ?_⟩
        all_goals first
          | (go_keep; done)
          | exact (set3 (by simp [*, go_sem]) (by simp [*, go_sem]) (by simp [*, go_sem])).1
          | exact (set3 (by simp [*, go_sem]) (by simp [*, go_sem]) (by simp [*, go_sem])).2.1
          | exact (set3 (by simp [*, go_sem]) (by simp [*, go_sem]) (by simp [*, go_sem])).2.2
          | skip
        all_goals repeat first
          | assumption
          | exact Below.refl _ _
          | refine Below.setCell ?_ ?_ _
          | refine Below.alloc ?_ ?_ _
          | refine below_step (by assumption) ?_ ?_
          | exact Below.drew hB
          | exact Below.drew (Below.alloc hB (by omega) _)
        all_goals first | omega | (simp; done) | (simp; omega) | skip
    case rest =>
      obtain ⟨g', rfl, rfl, r0, r1, r2, u0, u1, u2, hB'⟩ := hcut
      clear c0 c1 c2 c3 c4 c5 t0 t1 t2 d0 d1 d2 d3 d4 d5
      have HE := Lib.hid (fun w => eqVector_any x y z w HOk.out.1 HOk.out.2.1 HOk.out.2.2.1 HOk.out.2.2.2.1 HOk.out.2.2.2.2.1 HOk.out.2.2.2.2.2)
      go_wp2_with fail
      refine (HE.out _).mono ?_
      rintro e w' ⟨rfl, hb⟩
      go_wp2_with fail
      go_ret
      exact ⟨rfl, below_step hb hB' hB'.size⟩
end Go.Proofs.Ytcikohbcndppkaa
