/- Walks: tables held against each other, row by row. -/
import Derived.Test.YtfplcckfljemeaaT3
import Derived.Deep.RegionHeld3
namespace Go.Proofs.Ytfplcckfljemeaa
open Go.RowKit

def Eight (w1 : World) (B : Nat) (v0 v1 v2 v3 : Value) : Prop :=
  w1.cell? ⟨B, 0, none⟩ = some v0 ∧ w1.cell? ⟨B, 1, none⟩ = some v1 ∧ w1.cell? ⟨B, 2, none⟩ = some v2 ∧ w1.cell? ⟨B, 3, none⟩ = some v3 ∧
  w1.cell? ⟨B + 1, 0, none⟩ = some v0 ∧ w1.cell? ⟨B + 1, 1, none⟩ = some v1 ∧ w1.cell? ⟨B + 1, 2, none⟩ = some v2 ∧ w1.cell? ⟨B + 1, 3, none⟩ = some v3

theorem eight_of (w w1 : World) (v0 v1 v2 v3 : Value) (T : TypeId) (hb : Below (w.heap.size + 1 + 1) ((w.alloc (.cells #[v0, v1, v2, v3] T)).alloc (.cells #[v0, v1, v2, v3] T)) w1) : Eight w1 w.heap.size v0 v1 v2 v3 := by
  have h : ∀ b o, b < w.heap.size + 1 + 1 → w1.cell? ⟨b, o, none⟩ = _ := fun b o h => hb.cell (p := ⟨b, o, none⟩) h
  refine ⟨?_, ?_, ?_, ?_, ?_, ?_, ?_, ?_⟩
  all_goals
    rw [h _ _ (by omega)]
    simp [go_sem]

/-- Two tables in new variables. -/
def Tabs (w wr : World) (v0 v1 v2 v3 : Value) : Prop := Below (w.heap.size + 1 + 1) ((w.alloc (.cells #[v0, v1, v2, v3] 26)).alloc (.cells #[v0, v1, v2, v3] 26)) wr

theorem tabs_call {w wr w' : World} {v0 v1 v2 v3 : Value} {n : Nat} (h : Below (wr.drewN n).heap.size (wr.drewN n) w') (h1 : Tabs w wr v0 v1 v2 v3) : Tabs w w' v0 v1 v2 v3 := below_call h h1 (by simp)

theorem tabs_call0 {w wr w' : World} {v0 v1 v2 v3 : Value} (h : Below wr.heap.size wr w') (h1 : Tabs w wr v0 v1 v2 v3) : Tabs w w' v0 v1 v2 v3 := tabs_call (n := 0) h h1

theorem tabs_eight {w wr : World} {v0 v1 v2 v3 : Value} (h : Tabs w wr v0 v1 v2 v3) : Eight wr w.heap.size v0 v1 v2 v3 := eight_of _ _ _ _ _ _ _ h

set_option maxHeartbeats 1000000 in
theorem eqTurn_any (a0 b0 a1 b1 a2 b2 a3 b3 : Nat) (w : World) (h0 : Num a0) (k0 : Num b0) (h1 : Num a1) (k1 : Num b1) (h2 : Num a2) (k2 : Num b2) (h3 : Num a3) (k3 : Num b3) :
    Calls Try.prog 12 #[.agg #[.complex .f32 a0 b0, .complex .f32 a1 b1, .complex .f32 a2 b2, .complex .f32 a3 b3], .agg #[.complex .f32 a0 b0, .complex .f32 a1 b1, .complex .f32 a2 b2, .complex .f32 a3 b3]] w fun e w' => e = .returned (.bool true) ∧ Below w.heap.size w w' := by
  have S0 := Lib.hid (fun w => eqPair_any a0 b0 a1 b1 w h0 k0 h1 k1)
  have S1 := Lib.hid (fun w => eqPair_any a2 b2 a3 b3 w h2 k2 h3 k3)
  clear h0 k0 h1 k1 h2 k2 h3 k3
  go_enter Try.func12, Try.ntmps12
  go_wp2
  go_loopw [5] (fun i wr => (i = .int .i64 0 ∨ i = .int .i64 1 ∨ i = .int .i64 2) ∧ Tabs w wr (.complex .f32 a0 b0) (.complex .f32 a1 b1) (.complex .f32 a2 b2) (.complex .f32 a3 b3)) (fun i _ => 2 - (intOf i).toNat)
  case atStart => exact ⟨.inl rfl, Below.refl _ _⟩
  case round =>
    obtain ⟨hi, hb⟩ := hrel
    obtain ⟨c0, c1, c2, c3, c4, c5, c6, c7⟩ := tabs_eight hb
    have HB := Lib.hid hb
    clear hb
    rcases hi with rfl | rfl | rfl
    · go_wp2_with fail
      go_region_held3 (fun w' => w'.cell? ⟨w.heap.size, 0, none⟩ = some (.complex .f32 a0 b0) ∧ w'.cell? ⟨w.heap.size, 1, none⟩ = some (.complex .f32 a1 b1) ∧ w'.cell? ⟨w.heap.size + 1, 0, none⟩ = some (.complex .f32 a0 b0) ∧ w'.cell? ⟨w.heap.size + 1, 1, none⟩ = some (.complex .f32 a1 b1)) (go_keep)
        ((go_at_call 17; refine (S0.out _).mono ?_; rintro e w' ⟨rfl, hb⟩; have HC := Lib.hid (by first | exact tabs_call0 hb HB.out | exact tabs_call hb HB.out); clear hb; obtain ⟨d0, d1, d2, d3, d4, d5, d6, d7⟩ := tabs_eight HC.out))
      all_goals
        go_wp2_with fail
        go_roundw
        case rel => exact ⟨.inr (.inl (by go_num)), by first | exact HC.out | exact below_drewN HC.out _ | exact HC.out.drew⟩
        case measure => simp [intOf]
    · go_wp2_with fail
      go_region_held3 (fun w' => w'.cell? ⟨w.heap.size, 2, none⟩ = some (.complex .f32 a2 b2) ∧ w'.cell? ⟨w.heap.size, 3, none⟩ = some (.complex .f32 a3 b3) ∧ w'.cell? ⟨w.heap.size + 1, 2, none⟩ = some (.complex .f32 a2 b2) ∧ w'.cell? ⟨w.heap.size + 1, 3, none⟩ = some (.complex .f32 a3 b3)) (go_keep)
        ((go_at_call 17; refine (S1.out _).mono ?_; rintro e w' ⟨rfl, hb⟩; have HC := Lib.hid (by first | exact tabs_call0 hb HB.out | exact tabs_call hb HB.out); clear hb; obtain ⟨d0, d1, d2, d3, d4, d5, d6, d7⟩ := tabs_eight HC.out))
      all_goals
        go_wp2_with fail
        go_roundw
        case rel => exact ⟨.inr (.inr (by go_num)), by first | exact HC.out | exact below_drewN HC.out _ | exact HC.out.drew⟩
        case measure => simp [intOf]
    · go_wp2_with fail
      go_ret
      exact ⟨rfl, ((((Below.refl _ _).alloc (Nat.le_refl _) _).alloc (by simp) _).trans (Below.mono HB.out (by omega)))⟩
end Go.Proofs.Ytfplcckfljemeaa
