/- Lists of vectors: read, owned, held against each other. -/
import Derived.Test.YtaghfffbhgpalaaKbu
import Derived.Test.YtaghfffbhgpalaaKbh
import Derived.Test.YtaghfffbhgpalaaKbp
namespace Go.Proofs.Ytaghfffbhgpalaa
open Go.RowKit

/-- A list of m vectors that can be read: 3 m numbers in a row. -/
def RdW (w : World) (v : Value) (m : Nat) (F : Nat → Value) : Prop :=
  ∃ a cap, v = .slice a m cap ∧ (0 < m → ∃ B, a = some ⟨B, 0, none⟩ ∧ B < w.heap.size ∧ ∀ i, i < 3 * m → w.cell? ⟨B, i, none⟩ = some (F i))

/-- A list of m vectors in a block of its own. -/
def OwnW (w : World) (v : Value) (m : Nat) (F : Nat → Value) (lo hi : Nat) : Prop :=
  ∃ a cap, v = .slice a m cap ∧ hi ≤ w.heap.size ∧ (0 < m → ∃ B N f, a = some ⟨B, 0, none⟩ ∧ lo ≤ B ∧ B < hi ∧ 3 * m ≤ N ∧ w.rowIs B 27 N f ∧ ∀ i, i < 3 * m → f i = F i)

theorem ownw_below {w w' : World} {v : Value} {m lo hi : Nat} {F : Nat → Value} (h : OwnW w v m F lo hi) (hb : Below w.heap.size w w') : OwnW w' v m F lo hi := by
  obtain ⟨a, cap, rfl, hh, h⟩ := h
  refine ⟨a, cap, rfl, Nat.le_trans hh hb.size, fun h0 => ?_⟩
  obtain ⟨B, N, f, rfl, h1, h2, h3, h4, h5⟩ := h h0
  exact ⟨B, N, f, rfl, h1, h2, h3, World.rowIs.of_block h4 (hb.block B (World.rowIs.lt h4)), h5⟩

theorem ownw_rd {w : World} {v : Value} {m lo hi : Nat} {F : Nat → Value} (h : OwnW w v m F lo hi) : RdW w v m F := by
  obtain ⟨a, cap, rfl, hh, h⟩ := h
  refine ⟨a, cap, rfl, fun h0 => ?_⟩
  obtain ⟨B, N, f, rfl, h1, h2, h3, h4, h5⟩ := h h0
  exact ⟨B, rfl, by omega, fun i hi => by rw [← h5 i hi]; exact World.rowIs.cell h4 (by omega)⟩

set_option maxRecDepth 100000 in
set_option maxHeartbeats 1000000 in
theorem eqVectorS_ok {w : World} {v v' : Value} {m : Nat} {X : Nat → Nat} (h : RdW w v m (fun i => .float .f32 (X i))) (h' : RdW w v' m (fun i => .float .f32 (X i))) (hm : m ≤ 400) (hX : ∀ i, i < 3 * m → X i < 4294967296 ∧ fin (X i) = true) :
    Calls Try.prog 8 #[v, v'] w fun e w' => e = .returned (.bool true) ∧ Below w.heap.size w w' := by
  obtain ⟨a, cap, rfl, h⟩ := h
  obtain ⟨a', cap', rfl, h'⟩ := h'
  go_enter Try.func8, Try.ntmps8
  go_wp2_with fail
  go_loopw [5] (fun i wr => ∃ k : Nat, i = .int .i64 k ∧ k ≤ m ∧ Below w.heap.size w wr) (fun i _ => m - (intOf i).toNat)
  case atStart => exact ⟨0, rfl, Nat.zero_le _, Below.refl _ _⟩
  case round =>
    obtain ⟨k, rfl, hk, hb⟩ := hrel
    by_cases hlt : k < m
    · obtain ⟨B, rfl, hl, hc⟩ := h (by omega)
      obtain ⟨B', rfl, hl', hc'⟩ := h' (by omega)
      have c0 := (hb.cell (p := ⟨B, k * 3, none⟩) hl).trans (hc (k * 3) (by omega))
      have c1 := (hb.cell (p := ⟨B, k * 3 + 1, none⟩) hl).trans (hc (k * 3 + 1) (by omega))
      have c2 := (hb.cell (p := ⟨B, k * 3 + 2, none⟩) hl).trans (hc (k * 3 + 2) (by omega))
      have d0 := (hb.cell (p := ⟨B', k * 3, none⟩) hl').trans (hc' (k * 3) (by omega))
      have d1 := (hb.cell (p := ⟨B', k * 3 + 1, none⟩) hl').trans (hc' (k * 3 + 1) (by omega))
      have d2 := (hb.cell (p := ⟨B', k * 3 + 2, none⟩) hl').trans (hc' (k * 3 + 2) (by omega))
      have x0 := hX (k * 3) (by omega)
      have x1 := hX (k * 3 + 1) (by omega)
      have x2 := hX (k * 3 + 2) (by omega)
      have HE := Lib.hid (fun w => eqVector_any (X (k * 3)) (X (k * 3 + 1)) (X (k * 3 + 2)) w x0.1 x1.1 x2.1 x0.2 x1.2 x2.2)
      have HB := Lib.hid hb
      have hlt' : (k : Int) < (m : Int) := by omega
      clear hb hc hc' h h' hX x0 x1 x2
      go_wp2_with fail
      refine tail_still 8 (by kernel_rfl) (by kernel_rfl) ?_
      simp only [List.take_succ_cons, List.take_zero, List.drop_succ_cons, List.drop_zero]
      iterate 8 still_step
      refine wpStill_nil ?_
      go_wp2_with fail
      refine (HE.out _).mono ?_
      rintro e w2 ⟨rfl, hb2⟩
      have HB2 := Lib.hid (HB.out.trans (Below.mono (w := wr) (w' := w2) ((Below.refl _ wr).drew.trans hb2) HB.out.size))
      clear hb2
      go_wp2_with fail
      go_roundw
      case rel => exact ⟨k + 1, by go_num, by omega, HB2.out⟩
      case measure => simp [intOf]; omega
    · have he : k = m := by omega
      subst he
      have hlt' : ¬ ((k : Int) < (k : Int)) := by omega
      have HB := Lib.hid hb
      clear hb h h'
      go_wp2_with fail
      go_ret
      exact ⟨rfl, HB.out⟩

end Go.Proofs.Ytaghfffbhgpalaa
