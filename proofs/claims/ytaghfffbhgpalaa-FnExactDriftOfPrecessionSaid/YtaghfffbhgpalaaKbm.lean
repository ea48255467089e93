/- Walks: tables held against each other, row by row. The law of TurnOfParts. Walks: StepOfField of the specification. -/
import Derived.Test.YtaghfffbhgpalaaKax
import Derived.Test.YtaghfffbhgpalaaG2
import Derived.Deep.RegionHeld3
namespace Go.Proofs.Ytaghfffbhgpalaa
open Go.RowKit

def Eight (w1 : World) (B : Nat) (v0 v1 v2 v3 : Value) : Prop :=
  w1.cell? ⟨B, 0, none⟩ = some v0 ∧ w1.cell? ⟨B, 1, none⟩ = some v1 ∧ w1.cell? ⟨B, 2, none⟩ = some v2 ∧ w1.cell? ⟨B, 3, none⟩ = some v3 ∧
  w1.cell? ⟨B + 1, 0, none⟩ = some v0 ∧ w1.cell? ⟨B + 1, 1, none⟩ = some v1 ∧ w1.cell? ⟨B + 1, 2, none⟩ = some v2 ∧ w1.cell? ⟨B + 1, 3, none⟩ = some v3

theorem eight_of (w w1 : World) (v0 v1 v2 v3 : Value) (T : TypeId) (hb : Below (w.heap.size + 1 + 1) ((w.alloc (.cells #[v0, v1, v2, v3] T)).alloc (.cells #[v0, v1, v2, v3] T)) w1) : Eight w1 w.heap.size v0 v1 v2 v3 := by
  have h : ∀ b o, b < w.heap.size + 1 + 1 → w1.cell? ⟨b, o, none⟩ = _ := fun b o h => hb.cell (p := ⟨b, o, none⟩) h
  refine ⟨?_, ?_, ?_, ?_, ?_, ?_, ?_, ?_⟩
  all_goals
    rw [h _ _ (by omega)]
    simp [go_sem]

/-- Two tables in new variables. -/
def Tabs (w wr : World) (v0 v1 v2 v3 : Value) : Prop := Below (w.heap.size + 1 + 1) ((w.alloc (.cells #[v0, v1, v2, v3] 47)).alloc (.cells #[v0, v1, v2, v3] 47)) wr

theorem tabs_call {w wr w' : World} {v0 v1 v2 v3 : Value} {n : Nat} (h : Below (wr.drewN n).heap.size (wr.drewN n) w') (h1 : Tabs w wr v0 v1 v2 v3) : Tabs w w' v0 v1 v2 v3 := below_call h h1 (by simp)

theorem tabs_call0 {w wr w' : World} {v0 v1 v2 v3 : Value} (h : Below wr.heap.size wr w') (h1 : Tabs w wr v0 v1 v2 v3) : Tabs w w' v0 v1 v2 v3 := tabs_call (n := 0) h h1

theorem tabs_eight {w wr : World} {v0 v1 v2 v3 : Value} (h : Tabs w wr v0 v1 v2 v3) : Eight wr w.heap.size v0 v1 v2 v3 := eight_of _ _ _ _ _ _ _ h

end Go.Proofs.Ytaghfffbhgpalaa

namespace Go.Proofs.Ytaghfffbhgpalaa
open Go.RowKit

/-- A table of numbers, as a value. -/
def Tab (v : Value) (a0 b0 a1 b1 a2 b2 a3 b3 : Nat) : Prop := v = .agg #[.complex .f32 a0 b0, .complex .f32 a1 b1, .complex .f32 a2 b2, .complex .f32 a3 b3] ∧ Num a0 ∧ Num b0 ∧ Num a1 ∧ Num b1 ∧ Num a2 ∧ Num b2 ∧ Num a3 ∧ Num b3

theorem num_zero : Num 0 := ⟨by omega, by decide +kernel⟩

theorem num_neg {x : Nat} (h : Num x) : Num (Op.negFloat .f32 x) := ⟨(neg_facts x h.1).1, by rw [(neg_facts x h.1).2]; exact h.2⟩

theorem tab_table {a b c d : Nat} (ha : Num a) (hb : Num b) (hc : Num c) (hd : Num d) : ∃ a0 b0 a1 b1 a2 b2 a3 b3, Tab (tableOf a b c d) a0 b0 a1 b1 a2 b2 a3 b3 :=
  ⟨_, _, _, _, _, _, _, _, rfl, ha, num_neg hd, num_neg hc, num_neg hb, hc, num_neg hb, ha, hd⟩

theorem tab_none : ∃ a0 b0 a1 b1 a2 b2 a3 b3, Tab noTable a0 b0 a1 b1 a2 b2 a3 b3 :=
  ⟨_, _, _, _, _, _, _, _, rfl, num_zero, num_zero, num_zero, num_zero, num_zero, num_zero, num_zero, num_zero⟩

theorem turnRes_form (a b c d : Nat) (ha : a < 4294967296) (hb : b < 4294967296) (hc : c < 4294967296) (hd : d < 4294967296) : ∃ v j a0 b0 a1 b1 a2 b2 a3 b3, turnRes a b c d = .tuple #[v, .int .i64 j] ∧ Tab v a0 b0 a1 b1 a2 b2 a3 b3 := by
  unfold turnRes
  split
  · rename_i h
    simp only [Bool.and_eq_true] at h
    obtain ⟨a0, b0, a1, b1, a2, b2, a3, b3, ht⟩ := tab_table ⟨ha, h.1⟩ ⟨hb, h.2.1⟩ ⟨hc, h.2.2.1⟩ ⟨hd, h.2.2.2⟩
    exact ⟨_, _, a0, b0, a1, b1, a2, b2, a3, b3, rfl, ht⟩
  · obtain ⟨a0, b0, a1, b1, a2, b2, a3, b3, ht⟩ := tab_none
    exact ⟨_, _, a0, b0, a1, b1, a2, b2, a3, b3, rfl, ht⟩

end Go.Proofs.Ytaghfffbhgpalaa

namespace Go.Proofs.Ytaghfffbhgpalaa
open Go.RowKit

/-- A step's table, as a value. -/
def stepTab (a b c h : Nat) : Value := tableOf ((wO a b c h).getD 0) ((xO a b c h a).getD 0) ((xO a b c h b).getD 0) ((xO a b c h c).getD 0)

/-- A step of numbers: its table, or the limit. -/
def stepIn (a b c h : Nat) : Value := if finO (qO a b c h) then .tuple #[stepTab a b c h, .int .i64 0] else .tuple #[noTable, .int .i64 3]

/-- What StepOfField answers. -/
def stepRes (a b c h : Nat) : Value := if (fin a && fin b && fin c) && fin h then stepIn a b c h else .tuple #[noTable, .int .i64 1]

theorem stp_tab {a b c h k kk sq q d g f s x y z : Nat} (S : Stp a b c h k kk sq q d g f s x y z) : stepTab a b c h = tableOf s x y z := by
  have e1 : kO h = some k := S.qk
  have e2 : kkO h = some kk := by unfold kkO; rw [e1]; exact S.qkk
  have e4 : qO a b c h = some q := by unfold qO; rw [e2, S.qsq]; exact S.qq
  have e5 : dO a b c h = some d := by unfold dO; rw [e4]; exact S.qd
  have e6 : gO a b c h = some g := by unfold gO; rw [e4]; exact S.qg
  have e7 : fO a b c h = some f := by unfold fO; rw [e5]; exact S.qf
  have e8 : wO a b c h = some s := by unfold wO; rw [e6, e5]; exact S.qw
  have e9 : xO a b c h a = some x := by unfold xO; rw [e7]; exact S.qx
  have ea : xO a b c h b = some y := by unfold xO; rw [e7]; exact S.qy
  have eb : xO a b c h c = some z := by unfold xO; rw [e7]; exact S.qz
  unfold stepTab
  rw [e8, e9, ea, eb]
  rfl

theorem l09Step_any {a b c h : Nat} (ha : Num a) (hb : Num b) (hc : Num c) (hh : Num h) (w : World) :
    Calls Try.prog 23 #[.agg #[.float .f32 a, .float .f32 b, .float .f32 c], .float .f32 h] w fun e w' => e = .returned (stepIn a b c h) ∧ Below w.heap.size w w' := by
  unfold stepIn
  cases H : finO (qO a b c h)
  · exact l09Step_no a b c h w ha.1 hb.1 hc.1 hh.1 hh.2 H
  · obtain ⟨k, kk, sq, q, d, g, f, s, x, y, z, S⟩ := stp_of ha hb hc hh H
    rw [stp_tab S]
    exact l09Step_yes ha hb hc hh S w

theorem stepIn_form {a b c h : Nat} (ha : Num a) (hb : Num b) (hc : Num c) (hh : Num h) : ∃ v j a0 b0 a1 b1 a2 b2 a3 b3, stepIn a b c h = .tuple #[v, .int .i64 j] ∧ Tab v a0 b0 a1 b1 a2 b2 a3 b3 := by
  unfold stepIn
  cases H : finO (qO a b c h)
  · obtain ⟨a0, b0, a1, b1, a2, b2, a3, b3, ht⟩ := tab_none
    exact ⟨_, _, a0, b0, a1, b1, a2, b2, a3, b3, rfl, ht⟩
  · obtain ⟨k, kk, sq, q, d, g, f, s, x, y, z, S⟩ := stp_of ha hb hc hh H
    rw [stp_tab S]
    obtain ⟨a0, b0, a1, b1, a2, b2, a3, b3, ht⟩ := tab_table S.fw S.fx S.fy S.fz
    exact ⟨_, _, a0, b0, a1, b1, a2, b2, a3, b3, rfl, ht⟩

theorem num_of {a b c h : Nat} (H : ((fin a && fin b && fin c) && fin h) = true) : fin a = true ∧ fin b = true ∧ fin c = true ∧ fin h = true := by
  simp only [Bool.and_eq_true] at H
  exact ⟨H.1.1.1, H.1.1.2, H.1.2, H.2⟩

theorem stepRes_form {a b c h : Nat} (ha : a < 4294967296) (hb : b < 4294967296) (hc : c < 4294967296) (hh : h < 4294967296) : ∃ v j a0 b0 a1 b1 a2 b2 a3 b3, stepRes a b c h = .tuple #[v, .int .i64 j] ∧ Tab v a0 b0 a1 b1 a2 b2 a3 b3 := by
  unfold stepRes
  split
  · rename_i H
    obtain ⟨fa, fb, fc, fh⟩ := num_of H
    exact stepIn_form ⟨ha, fa⟩ ⟨hb, fb⟩ ⟨hc, fc⟩ ⟨hh, fh⟩
  · obtain ⟨a0, b0, a1, b1, a2, b2, a3, b3, ht⟩ := tab_none
    exact ⟨_, _, a0, b0, a1, b1, a2, b2, a3, b3, rfl, ht⟩

end Go.Proofs.Ytaghfffbhgpalaa
