/- Walks: drifts of tables, those of the specification. -/
import Derived.Test.YtaghfffbhgpalaaDs
import Derived.Deep.RegionHeld3
namespace Go.Proofs.Ytaghfffbhgpalaa
open Go.RowKit

/-- A table in a new variable. -/
def Tab1 (w wr : World) (v0 v1 v2 v3 : Value) : Prop := Below (w.heap.size + 1) (w.alloc (.cells #[v0, v1, v2, v3] 47)) wr

theorem tab1_call {w wr w' : World} {v0 v1 v2 v3 : Value} {n : Nat} (h : Below (wr.drewN n).heap.size (wr.drewN n) w') (h1 : Tab1 w wr v0 v1 v2 v3) : Tab1 w w' v0 v1 v2 v3 := below_call h h1 (by simp)

theorem tab1_call0 {w wr w' : World} {v0 v1 v2 v3 : Value} (h : Below wr.heap.size wr w') (h1 : Tab1 w wr v0 v1 v2 v3) : Tab1 w w' v0 v1 v2 v3 := tab1_call (n := 0) h h1

theorem tab1_cells {w wr : World} {v0 v1 v2 v3 : Value} (hb : Tab1 w wr v0 v1 v2 v3) :
    wr.cell? ⟨w.heap.size, 0, none⟩ = some v0 ∧ wr.cell? ⟨w.heap.size, 1, none⟩ = some v1 ∧ wr.cell? ⟨w.heap.size, 2, none⟩ = some v2 ∧ wr.cell? ⟨w.heap.size, 3, none⟩ = some v3 := by
  have h : ∀ b o, b < w.heap.size + 1 → wr.cell? ⟨b, o, none⟩ = _ := fun b o h => Below.cell hb (p := ⟨b, o, none⟩) h
  refine ⟨?_, ?_, ?_, ?_⟩
  all_goals
    rw [h _ _ (by omega)]
    simp [go_sem]

theorem tab1_below {w wr : World} {v0 v1 v2 v3 : Value} (hb : Tab1 w wr v0 v1 v2 v3) : Below w.heap.size w wr := ((Below.refl _ _).alloc (Nat.le_refl _) _).trans (Below.mono hb (by omega))

def one32 : Nat := 1065353216

theorem one_vl : Vl one32 (2 ^ 149) ∧ Bd 0 one32 := by
  have e : one32 = S false 1 0 := by decide +kernel
  refine ⟨⟨false, 1, 0, e, fitS_pow 0 (by omega) (by omega), by decide +kernel⟩, ?_⟩
  rw [e]
  exact bd_mk false 1 0 0 0 (by omega) (by omega) (by omega) (by omega) (by decide)

/-- The greater one. -/
def gtW (x y : Nat) : Bool := FloatKind.f32.format.order x y == some .gt
def pick (o x : Nat) : Nat := if gtW x o then x else o

/-- The drift, as the specification reckons it. -/
def driftS (t : Tb) : Nat := pick (pick (sizeS (sm (qOf t) (Op.negFloat .f32 one32))) (sizeS (sm (detS t).re (Op.negFloat .f32 one32)))) (sizeS (detS t).im)

set_option maxRecDepth 100000 in
set_option maxHeartbeats 1000000 in
theorem specDrift_ok {t : Tb} {k : Nat} (h : TB k t) (hk : 2 * k + 3 ≤ 127) (w : World) :
    Calls Try.prog 24 #[t.v] w fun e w' => e = .returned (.tuple #[.float .f32 (driftS t), .int .i64 0]) ∧ Below w.heap.size w w' := by
  have I := Lib.hid (fun w => l03Is_ok (tb_tf h (by omega)) w)
  have N := Lib.hid (fun w => l03Norm_ok h (by omega) w)
  have D := Lib.hid (fun w => l03Determinant_ok h (by omega) w)
  have qb := (q_bd h (by omega)).2
  have db := det_bd h (by omega)
  have F := Lib.hid (fun w => fine_yes (qOf t) w qb.1 (bd_fin qb (by omega)))
  have W := Lib.hid (fun w => l01Whole_ok (cb_cf db (by omega)) w)
  have s1 : ∀ T w', (binOp .sub T (.float .f32 (qOf t)) (.float .f32 1065353216)).run Try.prog w' = .ok (.float .f32 (sm (qOf t) (Op.negFloat .f32 one32))) w' := fun T w' => run_float_arith w' .sub T .f32 _ _ _ (bd_less qb (bd_mono one_vl.2 (by omega)) (by omega)).1
  have s2 : ∀ T w', (binOp .sub T (.float .f32 (detS t).re) (.float .f32 1065353216)).run Try.prog w' = .ok (.float .f32 (sm (detS t).re (Op.negFloat .f32 one32))) w' := fun T w' => run_float_arith w' .sub T .f32 _ _ _ (bd_less db.1 (bd_mono one_vl.2 (by omega)) (by omega)).1
  have Z1 := Lib.hid (fun w => l03Size_any (sm (qOf t) (Op.negFloat .f32 one32)) w)
  have Z2 := Lib.hid (fun w => l03Size_any (sm (detS t).re (Op.negFloat .f32 one32)) w)
  have Z3 := Lib.hid (fun w => l03Size_any (detS t).im w)
  clear qb db h
  unfold driftS
  generalize sizeS (sm (qOf t) (Op.negFloat .f32 one32)) = o at *
  generalize sizeS (sm (detS t).re (Op.negFloat .f32 one32)) = x at *
  generalize sizeS (detS t).im = y at *
  generalize sm (qOf t) (Op.negFloat .f32 one32) = x1 at *
  generalize sm (detS t).re (Op.negFloat .f32 one32) = x2 at *
  generalize qOf t = q at *
  generalize detS t = d at *
  obtain ⟨⟨a0, a1⟩, ⟨a2, a3⟩, ⟨a4, a5⟩, ⟨a6, a7⟩⟩ := t
  obtain ⟨dr, di⟩ := d
  unfold Tb.v at *
  simp only [Cx.v] at *
  obtain ⟨r, hr, hcase⟩ : ∃ r, pick (pick o x) y = r ∧ ((FloatKind.f32.format.order x o == some .gt) = false ∧ (FloatKind.f32.format.order y o == some .gt) = false ∧ r = o ∨
      (FloatKind.f32.format.order x o == some .gt) = false ∧ (FloatKind.f32.format.order y o == some .gt) = true ∧ r = y ∨
      (FloatKind.f32.format.order x o == some .gt) = true ∧ (FloatKind.f32.format.order y x == some .gt) = false ∧ r = x ∨
      (FloatKind.f32.format.order x o == some .gt) = true ∧ (FloatKind.f32.format.order y x == some .gt) = true ∧ r = y) := by
    refine ⟨_, rfl, ?_⟩
    unfold pick
    cases h1 : gtW x o
    · simp only [Bool.false_eq_true, if_false]
      cases h2 : gtW y o
      · exact .inl ⟨h1, h2, by simp⟩
      · exact .inr (.inl ⟨h1, h2, by simp⟩)
    · simp only [if_true]
      cases h2 : gtW y x
      · exact .inr (.inr (.inl ⟨h1, h2, by simp⟩))
      · exact .inr (.inr (.inr ⟨h1, h2, by simp⟩))
  rw [hr]
  clear hr
  rcases hcase with ⟨g1, g2, rfl⟩ | ⟨g1, g2, rfl⟩ | ⟨g1, g2, rfl⟩ | ⟨g1, g2, rfl⟩
  all_goals
    go_enter Try.func24, Try.ntmps24
    go_wp2_with fail
    refine (I.out _).mono ?_
    rintro e w1 ⟨rfl, hb1⟩
    have hb2 : Tab1 w w1 (.complex .f32 a0 a1) (.complex .f32 a2 a3) (.complex .f32 a4 a5) (.complex .f32 a6 a7) := tab1_call0 hb1 (Below.refl _ _)
    obtain ⟨c0, c1, c2, c3⟩ := tab1_cells hb2
    have HB := Lib.hid hb2
    clear hb1 hb2
    go_wp2_with fail
    go_region_held3 (fun w' => w'.cell? ⟨w.heap.size, 0, none⟩ = some (.complex .f32 a0 a1) ∧ w'.cell? ⟨w.heap.size, 1, none⟩ = some (.complex .f32 a2 a3) ∧ w'.cell? ⟨w.heap.size, 2, none⟩ = some (.complex .f32 a4 a5) ∧ w'.cell? ⟨w.heap.size, 3, none⟩ = some (.complex .f32 a6 a7)) (go_keep)
      ((first
        | (go_at_call 36; refine (N.out _).mono ?_; rintro e w' ⟨rfl, hb⟩; have HC := Lib.hid (by first | exact tab1_call0 hb HC.out | exact tab1_call hb HC.out | exact tab1_call0 hb HB.out | exact tab1_call hb HB.out); clear hb; obtain ⟨d0, d1, d2, d3⟩ := tab1_cells HC.out)
        | (go_at_call 37; refine (D.out _).mono ?_; rintro e w' ⟨rfl, hb⟩; have HC := Lib.hid (by first | exact tab1_call0 hb HC.out | exact tab1_call hb HC.out | exact tab1_call0 hb HB.out | exact tab1_call hb HB.out); clear hb; obtain ⟨d0, d1, d2, d3⟩ := tab1_cells HC.out)))
    all_goals
      have HD := Lib.hid (tab1_below HC.out)
      clear HC HB
      go_wp2_with fail
      refine (F.out _).mono ?_
      rintro e w3 ⟨rfl, rfl⟩
      go_wp2_with fail
      refine (W.out _).mono ?_
      rintro e w4 ⟨rfl, rfl⟩
      go_wp2_with (first | simp only [s1, s2] | fail)
      refine (Z1.out _).mono ?_
      rintro e w5 ⟨rfl, rfl⟩
      go_wp2_with (first | simp only [s1, s2] | fail)
      refine (Z2.out _).mono ?_
      rintro e w5 ⟨rfl, rfl⟩
      go_wp2_with (first | simp only [s1, s2] | fail)
      refine (Z3.out _).mono ?_
      rintro e w5 ⟨rfl, rfl⟩
      go_wp2_with (first | simp only [s1, s2] | fail)
      go_ret2
      exact ⟨rfl, by first | exact HD.out | exact below_drewN HD.out _⟩

end Go.Proofs.Ytaghfffbhgpalaa
