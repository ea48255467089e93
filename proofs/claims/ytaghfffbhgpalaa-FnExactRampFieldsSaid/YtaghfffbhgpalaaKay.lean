/- Walks: tables held against each other, row by row. The law of TurnOfParts. -/
import Derived.Test.YtaghfffbhgpalaaKat
import Derived.Test.YtaghfffbhgpalaaT5
import Derived.Deep.RegionHeld3
namespace Go.Proofs.Ytaghfffbhgpalaa
open Go.RowKit

def Eight (w1 : World) (B : Nat) (v0 v1 v2 v3 : Value) : Prop :=
  w1.cell? ⟨B, 0, none⟩ = some v0 ∧ w1.cell? ⟨B, 1, none⟩ = some v1 ∧ w1.cell? ⟨B, 2, none⟩ = some v2 ∧ w1.cell? ⟨B, 3, none⟩ = some v3 ∧
  w1.cell? ⟨B + 1, 0, none⟩ = some v0 ∧ w1.cell? ⟨B + 1, 1, none⟩ = some v1 ∧ w1.cell? ⟨B + 1, 2, none⟩ = some v2 ∧ w1.cell? ⟨B + 1, 3, none⟩ = some v3

theorem eight_of (w w1 : World) (v0 v1 v2 v3 : Value) (T : TypeId) (hb : Below (w.heap.size + 1 + 1) ((w.alloc (.cells #[v0, v1, v2, v3] T)).alloc (.cells #[v0, v1, v2, v3] T)) w1) : Eight w1 w.heap.size v0 v1 v2 v3 := by
  have h : ∀ b o, b < w.heap.size + 1 + 1 → w1.cell? ⟨b, o, none⟩ = _ := fun b o h => hb.cell (p := ⟨b, o, none⟩) h
  refine ⟨?_, ?_, ?_, ?_, ?_, ?_, ?_, ?_⟩
  all_goals
    rw [h _ _ (by omega)]
    simp [go_sem]

/-- Two tables in new variables. -/
def Tabs (w wr : World) (v0 v1 v2 v3 : Value) : Prop := Below (w.heap.size + 1 + 1) ((w.alloc (.cells #[v0, v1, v2, v3] 47)).alloc (.cells #[v0, v1, v2, v3] 47)) wr

theorem tabs_call {w wr w' : World} {v0 v1 v2 v3 : Value} {n : Nat} (h : Below (wr.drewN n).heap.size (wr.drewN n) w') (h1 : Tabs w wr v0 v1 v2 v3) : Tabs w w' v0 v1 v2 v3 := below_call h h1 (by simp)

theorem tabs_call0 {w wr w' : World} {v0 v1 v2 v3 : Value} (h : Below wr.heap.size wr w') (h1 : Tabs w wr v0 v1 v2 v3) : Tabs w w' v0 v1 v2 v3 := tabs_call (n := 0) h h1

theorem tabs_eight {w wr : World} {v0 v1 v2 v3 : Value} (h : Tabs w wr v0 v1 v2 v3) : Eight wr w.heap.size v0 v1 v2 v3 := eight_of _ _ _ _ _ _ _ h

end Go.Proofs.Ytaghfffbhgpalaa

namespace Go.Proofs.Ytaghfffbhgpalaa
open Go.RowKit

/-- A table of numbers, as a value. -/
def Tab (v : Value) (a0 b0 a1 b1 a2 b2 a3 b3 : Nat) : Prop := v = .agg #[.complex .f32 a0 b0, .complex .f32 a1 b1, .complex .f32 a2 b2, .complex .f32 a3 b3] ∧ Num a0 ∧ Num b0 ∧ Num a1 ∧ Num b1 ∧ Num a2 ∧ Num b2 ∧ Num a3 ∧ Num b3

theorem num_zero : Num 0 := ⟨by omega, by decide +kernel⟩

theorem num_neg {x : Nat} (h : Num x) : Num (Op.negFloat .f32 x) := ⟨(neg_facts x h.1).1, by rw [(neg_facts x h.1).2]; exact h.2⟩

theorem tab_table {a b c d : Nat} (ha : Num a) (hb : Num b) (hc : Num c) (hd : Num d) : ∃ a0 b0 a1 b1 a2 b2 a3 b3, Tab (tableOf a b c d) a0 b0 a1 b1 a2 b2 a3 b3 :=
  ⟨_, _, _, _, _, _, _, _, rfl, ha, num_neg hd, num_neg hc, num_neg hb, hc, num_neg hb, ha, hd⟩

theorem tab_none : ∃ a0 b0 a1 b1 a2 b2 a3 b3, Tab noTable a0 b0 a1 b1 a2 b2 a3 b3 :=
  ⟨_, _, _, _, _, _, _, _, rfl, num_zero, num_zero, num_zero, num_zero, num_zero, num_zero, num_zero, num_zero⟩

theorem turnRes_form (a b c d : Nat) (ha : a < 4294967296) (hb : b < 4294967296) (hc : c < 4294967296) (hd : d < 4294967296) : ∃ v j a0 b0 a1 b1 a2 b2 a3 b3, turnRes a b c d = .tuple #[v, .int .i64 j] ∧ Tab v a0 b0 a1 b1 a2 b2 a3 b3 := by
  unfold turnRes
  split
  · rename_i h
    simp only [Bool.and_eq_true] at h
    obtain ⟨a0, b0, a1, b1, a2, b2, a3, b3, ht⟩ := tab_table ⟨ha, h.1⟩ ⟨hb, h.2.1⟩ ⟨hc, h.2.2.1⟩ ⟨hd, h.2.2.2⟩
    exact ⟨_, _, a0, b0, a1, b1, a2, b2, a3, b3, rfl, ht⟩
  · obtain ⟨a0, b0, a1, b1, a2, b2, a3, b3, ht⟩ := tab_none
    exact ⟨_, _, a0, b0, a1, b1, a2, b2, a3, b3, rfl, ht⟩

end Go.Proofs.Ytaghfffbhgpalaa
