/- Walks: drifts of tables, those of the specification. -/
import Derived.Test.YtlebkkbbjnkjoaaDs
import Derived.Deep.RegionHeld3
namespace Go.Proofs.Ytlebkkbbjnkjoaa
open Go.RowKit

/-- A table in a new variable. -/
def Tab1 (w wr : World) (v0 v1 v2 v3 : Value) : Prop := Below (w.heap.size + 1) (w.alloc (.cells #[v0, v1, v2, v3] 27)) wr

theorem tab1_call {w wr w' : World} {v0 v1 v2 v3 : Value} {n : Nat} (h : Below (wr.drewN n).heap.size (wr.drewN n) w') (h1 : Tab1 w wr v0 v1 v2 v3) : Tab1 w w' v0 v1 v2 v3 := below_call h h1 (by simp)

theorem tab1_call0 {w wr w' : World} {v0 v1 v2 v3 : Value} (h : Below wr.heap.size wr w') (h1 : Tab1 w wr v0 v1 v2 v3) : Tab1 w w' v0 v1 v2 v3 := tab1_call (n := 0) h h1

theorem tab1_cells {w wr : World} {v0 v1 v2 v3 : Value} (hb : Tab1 w wr v0 v1 v2 v3) :
    wr.cell? ⟨w.heap.size, 0, none⟩ = some v0 ∧ wr.cell? ⟨w.heap.size, 1, none⟩ = some v1 ∧ wr.cell? ⟨w.heap.size, 2, none⟩ = some v2 ∧ wr.cell? ⟨w.heap.size, 3, none⟩ = some v3 := by
  have h : ∀ b o, b < w.heap.size + 1 → wr.cell? ⟨b, o, none⟩ = _ := fun b o h => Below.cell hb (p := ⟨b, o, none⟩) h
  refine ⟨?_, ?_, ?_, ?_⟩
  all_goals
    rw [h _ _ (by omega)]
    simp [go_sem]

theorem tab1_below {w wr : World} {v0 v1 v2 v3 : Value} (hb : Tab1 w wr v0 v1 v2 v3) : Below w.heap.size w wr := ((Below.refl _ _).alloc (Nat.le_refl _) _).trans (Below.mono hb (by omega))

def one32 : Nat := 1065353216

theorem one_vl : Vl one32 (2 ^ 149) ∧ Bd 0 one32 := by
  have e : one32 = S false 1 0 := by decide +kernel
  refine ⟨⟨false, 1, 0, e, fitS_pow 0 (by omega) (by omega), by decide +kernel⟩, ?_⟩
  rw [e]
  exact bd_mk false 1 0 0 0 (by omega) (by omega) (by omega) (by omega) (by decide)

/-- The greater one. -/
def gtW (x y : Nat) : Bool := FloatKind.f32.format.order x y == some .gt
def pick (o x : Nat) : Nat := if gtW x o then x else o

/-- The drift, as the specification reckons it. -/
def driftS (t : Tb) : Nat := pick (pick (sizeS (sm (qOf t) (Op.negFloat .f32 one32))) (sizeS (sm (detS t).re (Op.negFloat .f32 one32)))) (sizeS (detS t).im)
