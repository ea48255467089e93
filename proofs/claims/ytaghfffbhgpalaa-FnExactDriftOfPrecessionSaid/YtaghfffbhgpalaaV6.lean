/- The law of AddVectors. -/
import Derived.Test.YtaghfffbhgpalaaKba
import Derived.Deep.RegionHeld3
import Derived.Deep.DrawnRows
import Derived.Deep.DeepCutAuto
namespace Go.Proofs.Ytaghfffbhgpalaa
open Go.RowKit
attribute [local go_sem ↓] Go.wp_at_zero Go.wp_at_succ

theorem bcells6 {W w1 : World} (hb : Below W.heap.size W w1) (B : Nat) (h : B + 1 < W.heap.size) : (∀ b o, b < W.heap.size → w1.cell? ⟨b, o, none⟩ = W.cell? ⟨b, o, none⟩) ∧ (∀ b o, b < W.heap.size → w1.frozen? ⟨b, o, none⟩ = W.frozen? ⟨b, o, none⟩) ∧ B < w1.heap.size ∧ B + 1 < w1.heap.size ∧ B ≤ w1.heap.size ∧ w1.heap.size ≠ B ∧ w1.heap.size ≠ B + 1 ∧ (∀ b, b < W.heap.size → b < w1.heap.size) ∧
    w1.cell? ⟨B, 0, none⟩ = W.cell? ⟨B, 0, none⟩ ∧ w1.cell? ⟨B, 1, none⟩ = W.cell? ⟨B, 1, none⟩ ∧ w1.cell? ⟨B, 2, none⟩ = W.cell? ⟨B, 2, none⟩ ∧ w1.cell? ⟨B + 1, 0, none⟩ = W.cell? ⟨B + 1, 0, none⟩ ∧ w1.cell? ⟨B + 1, 1, none⟩ = W.cell? ⟨B + 1, 1, none⟩ ∧ w1.cell? ⟨B + 1, 2, none⟩ = W.cell? ⟨B + 1, 2, none⟩ := by
  have hc : ∀ b o, b < W.heap.size → w1.cell? ⟨b, o, none⟩ = W.cell? ⟨b, o, none⟩ := fun b o h => hb.cell (p := ⟨b, o, none⟩) h
  have hs := hb.size
  exact ⟨hc, fun b o h => hb.frozen (p := ⟨b, o, none⟩) h, by omega, by omega, by omega, by omega, by omega, fun b h => Nat.lt_of_lt_of_le h hs, hc _ _ (by omega), hc _ _ (by omega), hc _ _ (by omega), hc _ _ h, hc _ _ h, hc _ _ h⟩

theorem bcells9 {W w1 : World} (hb : Below W.heap.size W w1) (B g : Nat) (h : B + 1 < W.heap.size) (h' : g < W.heap.size) : (∀ b o, b < W.heap.size → w1.cell? ⟨b, o, none⟩ = W.cell? ⟨b, o, none⟩) ∧ (∀ b o, b < W.heap.size → w1.frozen? ⟨b, o, none⟩ = W.frozen? ⟨b, o, none⟩) ∧ B < w1.heap.size ∧ B + 1 < w1.heap.size ∧ B ≤ w1.heap.size ∧ w1.heap.size ≠ B ∧ w1.heap.size ≠ B + 1 ∧ (∀ b, b < W.heap.size → b < w1.heap.size) ∧
    w1.cell? ⟨B, 0, none⟩ = W.cell? ⟨B, 0, none⟩ ∧ w1.cell? ⟨B, 1, none⟩ = W.cell? ⟨B, 1, none⟩ ∧ w1.cell? ⟨B, 2, none⟩ = W.cell? ⟨B, 2, none⟩ ∧ w1.cell? ⟨B + 1, 0, none⟩ = W.cell? ⟨B + 1, 0, none⟩ ∧ w1.cell? ⟨B + 1, 1, none⟩ = W.cell? ⟨B + 1, 1, none⟩ ∧ w1.cell? ⟨B + 1, 2, none⟩ = W.cell? ⟨B + 1, 2, none⟩ ∧
    g < w1.heap.size ∧ g ≤ w1.heap.size ∧ w1.heap.size ≠ g ∧ w1.cell? ⟨g, 0, none⟩ = W.cell? ⟨g, 0, none⟩ ∧ w1.cell? ⟨g, 1, none⟩ = W.cell? ⟨g, 1, none⟩ ∧ w1.cell? ⟨g, 2, none⟩ = W.cell? ⟨g, 2, none⟩ := by
  obtain ⟨hc, hf, a1, a2, a3, a4, a5, a6, a7, a8, a9, a10, a11, a12⟩ := bcells6 hb B h
  have hs := hb.size
  exact ⟨hc, hf, a1, a2, a3, a4, a5, a6, a7, a8, a9, a10, a11, a12, by omega, by omega, by omega, hc _ _ h', hc _ _ h', hc _ _ h'⟩

theorem set3 {w : World} {g x y z : Nat} (h0 : (w.cell? ⟨g, 0, none⟩).isSome = true) (h1 : (w.cell? ⟨g, 1, none⟩).isSome = true) (h2 : (w.cell? ⟨g, 2, none⟩).isSome = true) :
    (((w.setCell ⟨g, 0, none⟩ (.float .f32 x)).setCell ⟨g, 1, none⟩ (.float .f32 y)).setCell ⟨g, 2, none⟩ (.float .f32 z)).cell? ⟨g, 0, none⟩ = some (.float .f32 x) ∧
    (((w.setCell ⟨g, 0, none⟩ (.float .f32 x)).setCell ⟨g, 1, none⟩ (.float .f32 y)).setCell ⟨g, 2, none⟩ (.float .f32 z)).cell? ⟨g, 1, none⟩ = some (.float .f32 y) ∧
    (((w.setCell ⟨g, 0, none⟩ (.float .f32 x)).setCell ⟨g, 1, none⟩ (.float .f32 y)).setCell ⟨g, 2, none⟩ (.float .f32 z)).cell? ⟨g, 2, none⟩ = some (.float .f32 z) := by
  have n01 : (⟨g, 0, none⟩ : Addr) ≠ ⟨g, 1, none⟩ := by simp
  have n02 : (⟨g, 0, none⟩ : Addr) ≠ ⟨g, 2, none⟩ := by simp
  have n12 : (⟨g, 1, none⟩ : Addr) ≠ ⟨g, 2, none⟩ := by simp
  have s0 := World.cell?_setCell_same' w ⟨g, 0, none⟩ (.float .f32 x) h0
  have t1 : ((w.setCell ⟨g, 0, none⟩ (.float .f32 x)).cell? ⟨g, 1, none⟩).isSome = true := by rw [World.cell?_setCell_other (h := n01)]; exact h1
  have s1 := World.cell?_setCell_same' _ ⟨g, 1, none⟩ (.float .f32 y) t1
  have t2 : (((w.setCell ⟨g, 0, none⟩ (.float .f32 x)).setCell ⟨g, 1, none⟩ (.float .f32 y)).cell? ⟨g, 2, none⟩).isSome = true := by rw [World.cell?_setCell_other (h := n12), World.cell?_setCell_other (h := n02)]; exact h2
  have s2 := World.cell?_setCell_same' _ ⟨g, 2, none⟩ (.float .f32 z) t2
  refine ⟨?_, ?_, s2⟩
  · rw [World.cell?_setCell_other (h := n02.symm), World.cell?_setCell_other (h := n01.symm)]; exact s0
  · rw [World.cell?_setCell_other (h := n12.symm)]; exact s1

/-- Behind the first statement: what was answered lies in a variable of its own. -/
def Told (w : World) (a b c a' b' c' x y z : Nat) (j : Int) (s5 s6 : Value) (wx : World) : Prop := ∃ g : Nat, s5 = .pointer (some ⟨g, 0, none⟩) ∧ s6 = .int .i64 j ∧ w.heap.size + 1 < g ∧ g < wx.heap.size ∧
  wx.cell? ⟨g, 0, none⟩ = some (.float .f32 x) ∧ wx.cell? ⟨g, 1, none⟩ = some (.float .f32 y) ∧ wx.cell? ⟨g, 2, none⟩ = some (.float .f32 z) ∧
  wx.cell? ⟨w.heap.size, 0, none⟩ = some (.float .f32 a) ∧ wx.cell? ⟨w.heap.size, 1, none⟩ = some (.float .f32 b) ∧ wx.cell? ⟨w.heap.size, 2, none⟩ = some (.float .f32 c) ∧
  wx.cell? ⟨w.heap.size + 1, 0, none⟩ = some (.float .f32 a') ∧ wx.cell? ⟨w.heap.size + 1, 1, none⟩ = some (.float .f32 b') ∧ wx.cell? ⟨w.heap.size + 1, 2, none⟩ = some (.float .f32 c') ∧ Below w.heap.size w wx

/-- Behind the second one: both answers. -/
def Told2 (w : World) (g x y z : Nat) (j : Int) (s7 s8 : Value) (wx : World) : Prop := ∃ g' : Nat, s7 = .pointer (some ⟨g', 0, none⟩) ∧ s8 = .int .i64 j ∧
  wx.cell? ⟨g', 0, none⟩ = some (.float .f32 x) ∧ wx.cell? ⟨g', 1, none⟩ = some (.float .f32 y) ∧ wx.cell? ⟨g', 2, none⟩ = some (.float .f32 z) ∧
  wx.cell? ⟨g, 0, none⟩ = some (.float .f32 x) ∧ wx.cell? ⟨g, 1, none⟩ = some (.float .f32 y) ∧ wx.cell? ⟨g, 2, none⟩ = some (.float .f32 z) ∧ Below w.heap.size w wx

def VecOk (x y z : Nat) : Prop := x < 4294967296 ∧ y < 4294967296 ∧ z < 4294967296 ∧ fin x = true ∧ fin y = true ∧ fin z = true

theorem vecOr_ok (k : Int) (a b c : Nat) (ha : a < 4294967296) (hb : b < 4294967296) (hc : c < 4294967296) : ∃ (x y z : Nat) (j : Int), vecOr k a b c = .tuple #[.agg #[.float .f32 x, .float .f32 y, .float .f32 z], .int .i64 j] ∧ VecOk x y z := by
  unfold vecOr
  split
  · rename_i h
    simp only [Bool.and_eq_true] at h
    exact ⟨a, b, c, 0, rfl, ha, hb, hc, h.1.1, h.1.2, h.2⟩
  · exact ⟨0, 0, 0, k, rfl, by omega, by omega, by omega, by decide +kernel, by decide +kernel, by decide +kernel⟩

theorem sumF_lt (x y : Nat) (hx : x < 4294967296) (hy : y < 4294967296) (h1 : fin x = true) (h2 : fin y = true) : sumF x y < 4294967296 := (sumF_ok x y hx hy h1 h2).2

theorem addRes_ok (a b c a' b' c' : Nat) (ha : a < 4294967296) (hb : b < 4294967296) (hc : c < 4294967296) (ha' : a' < 4294967296) (hb' : b' < 4294967296) (hc' : c' < 4294967296) :
    ∃ (x y z : Nat) (j : Int), addRes a b c a' b' c' = .tuple #[.agg #[.float .f32 x, .float .f32 y, .float .f32 z], .int .i64 j] ∧ VecOk x y z := by
  unfold addRes
  split
  · rename_i h
    simp only [Bool.and_eq_true] at h
    exact vecOr_ok 3 _ _ _ (sumF_lt _ _ ha ha' h.1.1.1 h.2.1.1) (sumF_lt _ _ hb hb' h.1.1.2 h.2.1.2) (sumF_lt _ _ hc hc' h.1.2 h.2.2)
  · exact ⟨0, 0, 0, 1, rfl, by omega, by omega, by omega, by decide +kernel, by decide +kernel, by decide +kernel⟩

end Go.Proofs.Ytaghfffbhgpalaa
