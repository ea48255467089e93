/- The law of TurnOfParts. -/
import Derived.Test.YtpobokdlamofgaaT4
import Derived.Test.YtpobokdlamofgaaT5
namespace Go.Proofs.Ytpobokdlamofgaa
open Go.RowKit

/-- A table of numbers, as a value. -/
def Tab (v : Value) (a0 b0 a1 b1 a2 b2 a3 b3 : Nat) : Prop := v = .agg #[.complex .f32 a0 b0, .complex .f32 a1 b1, .complex .f32 a2 b2, .complex .f32 a3 b3] ∧ Num a0 ∧ Num b0 ∧ Num a1 ∧ Num b1 ∧ Num a2 ∧ Num b2 ∧ Num a3 ∧ Num b3

theorem num_zero : Num 0 := ⟨by omega, by decide +kernel⟩

theorem num_neg {x : Nat} (h : Num x) : Num (Op.negFloat .f32 x) := ⟨(neg_facts x h.1).1, by rw [(neg_facts x h.1).2]; exact h.2⟩

theorem tab_table {a b c d : Nat} (ha : Num a) (hb : Num b) (hc : Num c) (hd : Num d) : ∃ a0 b0 a1 b1 a2 b2 a3 b3, Tab (tableOf a b c d) a0 b0 a1 b1 a2 b2 a3 b3 :=
  ⟨_, _, _, _, _, _, _, _, rfl, ha, num_neg hd, num_neg hc, num_neg hb, hc, num_neg hb, ha, hd⟩

theorem tab_none : ∃ a0 b0 a1 b1 a2 b2 a3 b3, Tab noTable a0 b0 a1 b1 a2 b2 a3 b3 :=
  ⟨_, _, _, _, _, _, _, _, rfl, num_zero, num_zero, num_zero, num_zero, num_zero, num_zero, num_zero, num_zero⟩

theorem turnRes_form (a b c d : Nat) (ha : a < 4294967296) (hb : b < 4294967296) (hc : c < 4294967296) (hd : d < 4294967296) : ∃ v j a0 b0 a1 b1 a2 b2 a3 b3, turnRes a b c d = .tuple #[v, .int .i64 j] ∧ Tab v a0 b0 a1 b1 a2 b2 a3 b3 := by
  unfold turnRes
  split
  · rename_i h
    simp only [Bool.and_eq_true] at h
    obtain ⟨a0, b0, a1, b1, a2, b2, a3, b3, ht⟩ := tab_table ⟨ha, h.1⟩ ⟨hb, h.2.1⟩ ⟨hc, h.2.2.1⟩ ⟨hd, h.2.2.2⟩
    exact ⟨_, _, a0, b0, a1, b1, a2, b2, a3, b3, rfl, ht⟩
  · obtain ⟨a0, b0, a1, b1, a2, b2, a3, b3, ht⟩ := tab_none
    exact ⟨_, _, a0, b0, a1, b1, a2, b2, a3, b3, rfl, ht⟩

set_option maxRecDepth 100000 in
set_option maxHeartbeats 1000000 in
theorem law_parts (a b c d : Nat) (w : World) (ha : a < 4294967296) (hb : b < 4294967296) (hc : c < 4294967296) (hd : d < 4294967296) :
    Calls Try.prog 5 #[.agg #[.float .f32 a, .float .f32 b, .float .f32 c, .float .f32 d]] w fun e w' => e = .returned (.bool true) ∧ Below w.heap.size w w' := by
  have HI := Lib.hid (fun w => implTurnOfParts a b c d w ha hb hc hd)
  have HS := Lib.hid (fun w => specTurnOfParts a b c d w ha hb hc hd)
  obtain ⟨v, j, a0, b0, a1, b1, a2, b2, a3, b3, hres, rfl, h0, k0, h1, k1, h2, k2, h3, k3⟩ := turnRes_form a b c d ha hb hc hd
  rw [hres] at HI HS
  have HE := Lib.hid (fun w => eqTurn_any a0 b0 a1 b1 a2 b2 a3 b3 w h0 k0 h1 k1 h2 k2 h3 k3)
  clear hres ha hb hc hd h0 k0 h1 k1 h2 k2 h3 k3
  go_enter Try.func5, Try.ntmps5
  go_wp2_with fail
  refine (toParts_any _ _ _ _ _).mono ?_
  rintro e w1 ⟨rfl, hb1⟩
  obtain ⟨hc1, hf1⟩ := bcell hb1
  have hz1 : w.heap.size < w1.heap.size := by have := hb1.size; simp at this; omega
  have HB1 := Lib.hid hb1
  clear hb1
  go_wp2_with fail
  refine (HS.out _).mono ?_
  rintro e w2 ⟨rfl, hb2⟩
  obtain ⟨hc2, hf2⟩ := bcell hb2
  have hz2 : w.heap.size < w2.heap.size := by have := hb2.size; omega
  have HB2 := Lib.hid hb2
  clear hb2
  go_wp2_with fail
  refine (toParts_any _ _ _ _ _).mono ?_
  rintro e w3 ⟨rfl, hb3⟩
  obtain ⟨hc3, hf3⟩ := bcell hb3
  have hz3 : w.heap.size < w3.heap.size := by have := hb3.size; simp at this; omega
  have hz3a : w2.heap.size < w3.heap.size := by have := hb3.size; simp at this; omega
  have HB3 := Lib.hid hb3
  clear hb3
  go_wp2_with fail
  refine (HI.out _).mono ?_
  rintro e w4 ⟨rfl, hb4⟩
  obtain ⟨hc4, hf4⟩ := bcell hb4
  have hz4 : w2.heap.size < w4.heap.size := by have := hb4.size; omega
  have HB4 := Lib.hid hb4
  clear hb4
  go_wp2_with fail
  refine (HE.out _).mono ?_
  rintro e w5 ⟨rfl, hb5⟩
  have HB5 := Lib.hid hb5
  clear hb5
  go_wp2_with fail
  go_ret
  refine ⟨rfl, ?_⟩
  refine below_step HB5.out ?_ ?_
  all_goals repeat first
    | exact Below.refl _ _
    | refine Below.setCell ?_ ?_ _
    | refine Below.alloc ?_ ?_ _
    | refine below_step HB4.out ?_ ?_
    | refine below_step HB3.out ?_ ?_
    | refine below_step HB2.out ?_ ?_
    | refine below_step HB1.out ?_ ?_
  all_goals first | omega | (simp; done) | (simp; omega)
end Go.Proofs.Ytpobokdlamofgaa
