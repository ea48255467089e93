/- Walks: HalvedTurn of the program and of the specification. -/
import Derived.Test.YtmaohbddmafifaaH3m
namespace Go.Proofs.Ytmaohbddmafifaa
open Go.RowKit

def noHalved : Value := .tuple #[.agg #[.complex .f32 0 0, .complex .f32 0 0, .complex .f32 0 0, .complex .f32 0 0], .int .i64 2]

set_option maxHeartbeats 1000000 in
theorem implHalvedNo (i k : Int) (w : World) (h : i < 0 ∨ 2 < i ∨ k < 0 ∨ 24 < k) :
    Calls Try.prog 91 #[.int .i64 i, .int .i64 k] w fun e w' => e = .returned noHalved ∧ Below w.heap.size w w' := by
  unfold noHalved
  have h' : i < 0 ∨ (0 ≤ i ∧ 3 ≤ i) ∨ (0 ≤ i ∧ i < 3 ∧ k < 0) ∨ (0 ≤ i ∧ i < 3 ∧ 0 ≤ k ∧ 24 < k) := by omega
  clear h
  rcases h' with h | ⟨h1, h2⟩ | ⟨h1, h2, h3⟩ | ⟨h1, h2, h3, h4⟩
  all_goals
    go_enter Try.func91, Try.ntmps91
    go_wp2_with fail
    refine bodyPost_ret (v := .tuple #[.agg #[.complex .f32 0 0, .complex .f32 0 0, .complex .f32 0 0, .complex .f32 0 0], .int .i64 2]) (by simp [results, Try.results91, go_sem]) rfl ⟨rfl, ?_⟩
    all_goals repeat first
      | exact Below.refl _ _
      | refine Below.setCell ?_ ?_ _
      | refine Below.alloc ?_ ?_ _
    all_goals first | omega | (simp; done) | (simp; omega)

set_option maxHeartbeats 1000000 in
def someHalved (i : Int) (n : Nat) : Value := .tuple #[aboutOf i (halved n).1 (halved n).2, .int .i64 0]

set_option maxHeartbeats 1000000 in
set_option maxHeartbeats 1000000 in
theorem implHalvedYes (i : Int) (n : Nat) (w : World) (hi : i = 0 ∨ i = 1 ∨ i = 2) (hn : n ≤ 24) :
    Calls Try.prog 91 #[.int .i64 i, .int .i64 n] w fun e w' => e = .returned (someHalved i n) ∧ Below w.heap.size w w' := by
  unfold someHalved aboutOf
  have HH := Lib.hid (fun w => implHalved n w hn)
  have HT := Lib.hid (fun a b c d w => turnOfParts_any a b c d w)
  unfold tableOf at *
  generalize halved n = cs at *
  have h1 : (0 : Int) ≤ n := by omega
  have h2 : (n : Int) ≤ 24 := by omega
  clear hn
  rcases hi with rfl | rfl | rfl
  · rw [if_pos rfl]
    have e0 : w.heap.size < w.heap.size + 1 + 1 := by omega
    go_enter Try.func91, Try.ntmps91
    go_wp2_with fail
    refine (HH.out _).mono ?_
    rintro e w' ⟨rfl, rfl⟩
    go_wp2_with fail
    refine (HT.out _ _ _ _ _).mono ?_
    rintro e w2 ⟨rfl, hb2⟩
    obtain ⟨hc2, hf2⟩ := bcell hb2
    have hz2 : w.heap.size < w2.heap.size := by have := hb2.size; simp at this; omega
    have HB2 := Lib.hid hb2
    clear hb2
    go_wp2_with fail
    refine bodyPost_ret (v := .tuple #[.agg #[.complex .f32 cs.1 (Op.negFloat .f32 0), .complex .f32 (Op.negFloat .f32 0) (Op.negFloat .f32 cs.2), .complex .f32 0 (Op.negFloat .f32 cs.2), .complex .f32 cs.1 0], .int .i64 0]) (by simp [results, Try.results91, go_sem, hc2, hz2, e0]) rfl ⟨rfl, ?_⟩
    all_goals repeat first
      | exact Below.refl _ _
      | refine Below.setCell ?_ ?_ _
      | refine below_step HB2.out ?_ ?_
      | refine Below.alloc ?_ ?_ _
    all_goals first | omega | (simp; done) | (simp; omega)
  · rw [if_neg (by decide), if_pos rfl]
    have e0 : w.heap.size < w.heap.size + 1 + 1 := by omega
    go_enter Try.func91, Try.ntmps91
    go_wp2_with fail
    refine (HH.out _).mono ?_
    rintro e w' ⟨rfl, rfl⟩
    go_wp2_with fail
    refine (HT.out _ _ _ _ _).mono ?_
    rintro e w2 ⟨rfl, hb2⟩
    obtain ⟨hc2, hf2⟩ := bcell hb2
    have hz2 : w.heap.size < w2.heap.size := by have := hb2.size; simp at this; omega
    have HB2 := Lib.hid hb2
    clear hb2
    go_wp2_with fail
    refine bodyPost_ret (v := .tuple #[.agg #[.complex .f32 cs.1 (Op.negFloat .f32 0), .complex .f32 (Op.negFloat .f32 cs.2) (Op.negFloat .f32 0), .complex .f32 cs.2 (Op.negFloat .f32 0), .complex .f32 cs.1 0], .int .i64 0]) (by simp [results, Try.results91, go_sem, hc2, hz2, e0]) rfl ⟨rfl, ?_⟩
    all_goals repeat first
      | exact Below.refl _ _
      | refine Below.setCell ?_ ?_ _
      | refine below_step HB2.out ?_ ?_
      | refine Below.alloc ?_ ?_ _
    all_goals first | omega | (simp; done) | (simp; omega)
  · rw [if_neg (by decide), if_neg (by decide)]
    have e0 : w.heap.size < w.heap.size + 1 + 1 := by omega
    go_enter Try.func91, Try.ntmps91
    go_wp2_with fail
    refine (HH.out _).mono ?_
    rintro e w' ⟨rfl, rfl⟩
    go_wp2_with fail
    refine (HT.out _ _ _ _ _).mono ?_
    rintro e w2 ⟨rfl, hb2⟩
    obtain ⟨hc2, hf2⟩ := bcell hb2
    have hz2 : w.heap.size < w2.heap.size := by have := hb2.size; simp at this; omega
    have HB2 := Lib.hid hb2
    clear hb2
    go_wp2_with fail
    refine bodyPost_ret (v := .tuple #[.agg #[.complex .f32 cs.1 (Op.negFloat .f32 cs.2), .complex .f32 (Op.negFloat .f32 0) (Op.negFloat .f32 0), .complex .f32 0 (Op.negFloat .f32 0), .complex .f32 cs.1 cs.2], .int .i64 0]) (by simp [results, Try.results91, go_sem, hc2, hz2, e0]) rfl ⟨rfl, ?_⟩
    all_goals repeat first
      | exact Below.refl _ _
      | refine Below.setCell ?_ ?_ _
      | refine below_step HB2.out ?_ ?_
      | refine Below.alloc ?_ ?_ _
    all_goals first | omega | (simp; done) | (simp; omega)
end Go.Proofs.Ytmaohbddmafifaa
