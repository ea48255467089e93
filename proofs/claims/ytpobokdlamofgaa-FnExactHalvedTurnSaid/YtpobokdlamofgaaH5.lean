/- The law of HalvedTurn. -/
import Derived.Test.YtpobokdlamofgaaH4
import Derived.Test.YtpobokdlamofgaaT6
namespace Go.Proofs.Ytpobokdlamofgaa
open Go.RowKit

theorem half_nums (n : Nat) (h : n ≤ 24) : Num (halved n).1 ∧ Num (halved n).2 := by
  have := List.all_eq_true.1 ends_ok n (List.mem_range.2 (by omega))
  simp only [Bool.and_eq_true, decide_eq_true_eq] at this
  exact ⟨⟨this.1.1.1, this.1.1.2⟩, ⟨this.1.2, this.2⟩⟩

theorem half_tab (i : Int) (n : Nat) (h : n ≤ 24) : ∃ a0 b0 a1 b1 a2 b2 a3 b3, Tab (aboutOf i (halved n).1 (halved n).2) a0 b0 a1 b1 a2 b2 a3 b3 := by
  obtain ⟨hc, hs⟩ := half_nums n h
  unfold aboutOf
  split
  · exact tab_table hc hs num_zero num_zero
  · split
    · exact tab_table hc num_zero hs num_zero
    · exact tab_table hc num_zero num_zero hs

theorem half_both (i k : Int) : ∃ v j a0 b0 a1 b1 a2 b2 a3 b3, Tab v a0 b0 a1 b1 a2 b2 a3 b3 ∧
    (∀ w, Calls Try.prog 24 #[.int .i64 i, .int .i64 k] w fun e w' => e = .returned (.tuple #[v, .int .i64 j]) ∧ Below w.heap.size w w') ∧
    (∀ w, Calls Try.prog 25 #[.int .i64 i, .int .i64 k] w fun e w' => e = .returned (.tuple #[v, .int .i64 j]) ∧ Below w.heap.size w w') := by
  by_cases h : (0 ≤ i ∧ i ≤ 2) ∧ (0 ≤ k ∧ k ≤ 24)
  · obtain ⟨n, rfl⟩ := Int.eq_ofNat_of_zero_le h.2.1
    have hi : i = 0 ∨ i = 1 ∨ i = 2 := by omega
    obtain ⟨a0, b0, a1, b1, a2, b2, a3, b3, ht⟩ := half_tab i n (by omega)
    exact ⟨_, _, a0, b0, a1, b1, a2, b2, a3, b3, ht, fun w => implHalvedYes i n w hi (by omega), fun w => specHalvedYes i n w hi (by omega)⟩
  · obtain ⟨a0, b0, a1, b1, a2, b2, a3, b3, ht⟩ := tab_none
    exact ⟨_, _, a0, b0, a1, b1, a2, b2, a3, b3, ht, fun w => implHalvedNo i k w (by omega), fun w => specHalvedNo i k w (by omega)⟩

set_option maxHeartbeats 1000000 in
theorem law_halved (i k : Int) (w : World) :
    Calls Try.prog 6 #[.int .i64 i, .int .i64 k] w fun e w' => e = .returned (.bool true) ∧ Below w.heap.size w w' := by
  obtain ⟨v, j, a0, b0, a1, b1, a2, b2, a3, b3, ⟨rfl, h0, k0, h1, k1, h2, k2, h3, k3⟩, hI, hS⟩ := half_both i k
  have HI := Lib.hid hI
  have HS := Lib.hid hS
  have HE := Lib.hid (fun w => eqTurn_any a0 b0 a1 b1 a2 b2 a3 b3 w h0 k0 h1 k1 h2 k2 h3 k3)
  clear hI hS h0 k0 h1 k1 h2 k2 h3 k3
  go_enter Try.func6, Try.ntmps6
  go_wp2_with fail
  refine (HS.out _).mono ?_
  rintro e w1 ⟨rfl, hb1⟩
  have HB1 := Lib.hid hb1
  clear hb1
  go_wp2_with fail
  refine (HI.out _).mono ?_
  rintro e w2 ⟨rfl, hb2⟩
  obtain ⟨hc2, hf2⟩ := bcell hb2
  have hz2 : w1.heap.size < w2.heap.size := by have := hb2.size; simp at this; omega
  have HB2 := Lib.hid hb2
  clear hb2
  go_wp2_with fail
  refine (HE.out _).mono ?_
  rintro e w5 ⟨rfl, hb5⟩
  have HB5 := Lib.hid hb5
  clear hb5
  go_wp2_with fail
  go_ret
  refine ⟨rfl, ?_⟩
  refine below_step HB5.out ?_ ?_
  all_goals repeat first
    | exact Below.refl _ _
    | refine Below.setCell ?_ ?_ _
    | refine Below.alloc ?_ ?_ _
    | refine below_step HB2.out ?_ ?_
    | refine below_step HB1.out ?_ ?_
  all_goals first | omega | (simp; done) | (simp; omega) | (have := HB1.out.size; simp; omega) | (have := HB1.out.size; have := HB2.out.size; simp at *; omega)
end Go.Proofs.Ytpobokdlamofgaa
