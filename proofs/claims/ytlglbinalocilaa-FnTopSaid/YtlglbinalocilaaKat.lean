/- Walks: the loops that halve. Walks: tables of parts. Walks: a number in a range. Walks: HalvedTurn of the program and of the specification. -/
import Derived.Test.YtlglbinalocilaaKar
import Derived.Test.YtlglbinalocilaaKaf
import Derived.Test.YtlglbinalocilaaKal
import Derived.Test.YtlglbinalocilaaRows
import Derived.WalkKit
import Derived.WalkSpells
import Derived.WalkLawsBesides
namespace Go.Proofs.Ytlglbinalocilaa
open Go.RowKit

theorem step_facts (k : Nat) (h : k < 24) :
    (∀ t w, (binOp .add t (.float .f32 1065353216) (.float .f32 (halved k).1)).run Try.prog w = .ok (.float .f32 (upW (halved k).1)) w) ∧
    (∀ t w, (binOp .quo t (.float .f32 (upW (halved k).1)) (.float .f32 1073741824)).run Try.prog w = .ok (.float .f32 (halfW (halved k).1)) w) ∧
    posW (halfW (halved k).1) = true ∧
    (∀ t w, (binOp .mul t (.float .f32 1073741824) (.float .f32 (halved (k + 1)).1)).run Try.prog w = .ok (.float .f32 (twiceW (halved (k + 1)).1)) w) ∧
    (∀ t w, (binOp .quo t (.float .f32 (halved k).2) (.float .f32 (twiceW (halved (k + 1)).1))).run Try.prog w = .ok (.float .f32 (halved (k + 1)).2) w) := by
  have h := step_of k h
  unfold stepOk at h
  simp only [Bool.and_eq_true, beq_iff_eq] at h
  obtain ⟨⟨⟨⟨h1, h2⟩, h3⟩, h4⟩, h5⟩ := h
  exact ⟨fun t w => run_float_arith w .add t .f32 _ _ _ h1, fun t w => run_float_arith w .quo t .f32 _ _ _ h2, h3, fun t w => run_float_arith w .mul t .f32 _ _ _ h4, fun t w => run_float_arith w .quo t .f32 _ _ _ h5⟩

theorem root_eq (k : Nat) : rootW (halfW (halved k).1) = (halved (k + 1)).1 := rfl

set_option maxHeartbeats 1000000 in
theorem implHalved (n : Nat) (w : World) (hn : n ≤ 24) :
    Calls Try.prog 101 #[.int .i64 n] w fun e w' => e = .returned (.tuple #[.float .f32 (halved n).1, .float .f32 (halved n).2, .int .i64 0]) ∧ w = w' := by
  go_enter Try.func101, Try.ntmps101
  go_wp2
  go_loop [5, 6, 10] (fun c s i => ∃ k : Nat, k ≤ n ∧ c = .float .f32 (halved k).1 ∧ s = .float .f32 (halved k).2 ∧ i = .int .i64 k) (fun _ _ i => n - (intOf i).toNat)
  case atStart => exact ⟨0, by omega, rfl, rfl, rfl⟩
  case round =>
    obtain ⟨k, hk, rfl, rfl, rfl⟩ := hrel
    by_cases hlt : k < n
    · obtain ⟨f1, f2, f3, f4, f5⟩ := step_facts k (by omega)
      have HR := Lib.hid (fun w => implRootW _ w f3)
      rw [root_eq] at HR
      clear f3
      generalize hq : halved (k + 1) = q at *
      have HQ := Lib.hid hq
      clear hq
      go_wp2_with fail
      refine (HR.out _).mono ?_
      rintro e w' ⟨rfl, rfl⟩
      go_wp2_with fail
      go_round
      case rel => exact ⟨k + 1, by omega, by rw [HQ.out], by rw [HQ.out], by go_num⟩
      case measure => simp [intOf]; omega
    · obtain rfl : n = k := by omega
      go_wp2_with fail
      exact bodyPost_ret (v := .tuple #[.float .f32 (halved n).1, .float .f32 (halved n).2, .int .i64 0]) (by simp [results, Try.results101, go_sem]) rfl ⟨rfl, rfl⟩

set_option maxHeartbeats 1000000 in
theorem specHalved (n : Nat) (w : World) (hn : n ≤ 24) :
    Calls Try.prog 78 #[.int .i64 n] w fun e w' => e = .returned (.tuple #[.float .f32 (halved n).1, .float .f32 (halved n).2]) ∧ w = w' := by
  go_enter Try.func78, Try.ntmps78
  go_wp2
  go_loop [4, 5, 0] (fun c s i => ∃ k : Nat, k ≤ n ∧ c = .float .f32 (halved k).1 ∧ s = .float .f32 (halved k).2 ∧ i = .int .i64 ((n : Int) - k)) (fun _ _ i => (intOf i).toNat)
  case atStart => exact ⟨0, by omega, rfl, rfl, by simp⟩
  case round =>
    obtain ⟨k, hk, rfl, rfl, rfl⟩ := hrel
    by_cases hlt : k < n
    · obtain ⟨f1, f2, f3, f4, f5⟩ := step_facts k (by omega)
      have HR := Lib.hid (fun w => specRootW _ w f3)
      rw [root_eq] at HR
      clear f3
      generalize hq : halved (k + 1) = q at *
      have HQ := Lib.hid hq
      clear hq
      have hpos : (0 : Int) < (n : Int) - k := by omega
      go_wp2_with fail
      refine (HR.out _).mono ?_
      rintro e w' ⟨rfl, rfl⟩
      go_wp2_with fail
      go_round
      case rel => exact ⟨k + 1, by omega, by rw [HQ.out], by rw [HQ.out], by congr 1; omega⟩
      case measure => simp [intOf]; omega
    · obtain rfl : n = k := by omega
      have hz : ¬ (0 : Int) < (n : Int) - n := by omega
      go_wp2_with fail
      exact bodyPost_ret (v := .tuple #[.float .f32 (halved n).1, .float .f32 (halved n).2]) (by simp [results, Try.results78, go_sem]) rfl ⟨rfl, rfl⟩

end Go.Proofs.Ytlglbinalocilaa

namespace Go.Proofs.Ytlglbinalocilaa
open Go.RowKit

/-- The table of parts, as a value. -/
def tableOf (a b c d : Nat) : Value := .agg #[.complex .f32 a (Op.negFloat .f32 d), .complex .f32 (Op.negFloat .f32 c) (Op.negFloat .f32 b), .complex .f32 c (Op.negFloat .f32 b), .complex .f32 a d]

set_option maxHeartbeats 1000000 in
theorem turnOfParts_any (a b c d : Nat) (w : World) :
    Calls Try.prog 102 #[.agg #[.float .f32 a, .float .f32 b, .float .f32 c, .float .f32 d]] w fun e w' => e = .returned (tableOf a b c d) ∧ Below w.heap.size w w' := by
  unfold tableOf
  go_enter Try.func102, Try.ntmps102
  go_wp2
  go_quiet (fail)
  go_wp2
  refine bodyPost_ret (v := .agg #[.complex .f32 a (Op.negFloat .f32 d), .complex .f32 (Op.negFloat .f32 c) (Op.negFloat .f32 b), .complex .f32 c (Op.negFloat .f32 b), .complex .f32 a d]) (by simp [results, Try.results102, go_sem]) rfl ⟨rfl, ?_⟩
  all_goals repeat first
    | exact Below.refl _ _
    | refine Below.setCell ?_ ?_ _
    | refine Below.alloc ?_ ?_ _
    | refine below_drewN ?_ _
  all_goals first | omega | (simp; done) | (simp; omega)

set_option maxHeartbeats 1000000 in
theorem l03Table_any (a b c d : Nat) (w : World) :
    Calls Try.prog 75 #[.float .f32 a, .float .f32 b, .float .f32 c, .float .f32 d] w fun e w' => e = .returned (tableOf a b c d) ∧ Below w.heap.size w w' := by
  unfold tableOf
  go_enter Try.func75, Try.ntmps75
  go_wp2
  refine bodyPost_ret (v := .agg #[.complex .f32 a (Op.negFloat .f32 d), .complex .f32 (Op.negFloat .f32 c) (Op.negFloat .f32 b), .complex .f32 c (Op.negFloat .f32 b), .complex .f32 a d]) (by simp [results, Try.results75, go_sem]) rfl ⟨rfl, ?_⟩
  all_goals repeat first
    | exact Below.refl _ _
    | refine Below.setCell ?_ ?_ _
    | refine Below.alloc ?_ ?_ _
    | refine below_drewN ?_ _
  all_goals first | omega | (simp; done) | (simp; omega)

theorem neg_facts (x : Nat) (hx : x < 4294967296) : Op.negFloat .f32 x < 4294967296 ∧ fin (Op.negFloat .f32 x) = fin x := by
  have h1 := word_split x hx
  have h2 := mag_lt x
  have h3 : Op.negFloat .f32 x = Ieee.single.word (!(x / 2147483648 % 2 == 1)) (mag x) := by
    conv => lhs; rw [h1]
    exact Flt.flip_word Ieee.single _ (mag x) (by rw [Flt.s_sw]; exact h2)
  rw [h3]
  have h4 : mag (Ieee.single.word (!(x / 2147483648 % 2 == 1)) (mag x)) = mag x := by
    generalize (!(x / 2147483648 % 2 == 1)) = s
    generalize hm : mag x = m at *
    unfold mag Ieee.Format.word
    rw [Flt.s_sw]
    cases s <;> simp <;> omega
  constructor
  · generalize (!(x / 2147483648 % 2 == 1)) = s
    unfold Ieee.Format.word
    rw [Flt.s_sw]
    cases s <;> simp <;> omega
  · unfold fin
    rw [h4]

end Go.Proofs.Ytlglbinalocilaa

namespace Go.Proofs.Ytlglbinalocilaa
open Go.RowKit

theorem in_any (i a b : Int) (w : World) :
    Calls Try.prog 48 #[.int .i64 i, .int .i64 a, .int .i64 b] w fun e w' => e = .returned (.bool (decide (a ≤ i ∧ i ≤ b))) ∧ w = w' := by
  by_cases h1 : a ≤ i
  · by_cases h2 : i ≤ b
    · have hd : decide (a ≤ i ∧ i ≤ b) = true := decide_eq_true ⟨h1, h2⟩
      rw [hd]
      clear hd
      go_enter Try.func48, Try.ntmps48
      go_wp2
      go_ret
      exact ⟨rfl, rfl⟩
    · have hd : decide (a ≤ i ∧ i ≤ b) = false := decide_eq_false (fun h => h2 h.2)
      rw [hd]
      clear hd
      have h2' : decide (i ≤ b) = false := decide_eq_false h2
      clear h2
      go_enter Try.func48, Try.ntmps48
      go_wp2
      go_ret
      exact ⟨rfl, rfl⟩
  · have hd : decide (a ≤ i ∧ i ≤ b) = false := decide_eq_false (fun h => h1 h.1)
    rw [hd]
    have h1' : i < a := by omega
    clear hd h1
    go_enter Try.func48, Try.ntmps48
    go_wp2
    go_ret
    exact ⟨rfl, rfl⟩

end Go.Proofs.Ytlglbinalocilaa

namespace Go.Proofs.Ytlglbinalocilaa
open Go.RowKit

/-- The turn about an axis. -/
def aboutOf (i : Int) (c s : Nat) : Value := if i = 0 then tableOf c s 0 0 else if i = 1 then tableOf c 0 s 0 else tableOf c 0 0 s

def noTable : Value := .agg #[.complex .f32 0 0, .complex .f32 0 0, .complex .f32 0 0, .complex .f32 0 0]

def halfRes (i k : Int) : Value := if (0 ≤ i ∧ i ≤ 2) ∧ (0 ≤ k ∧ k ≤ 24) then .tuple #[aboutOf i (halved k.toNat).1 (halved k.toNat).2, .int .i64 0] else .tuple #[noTable, .int .i64 2]

set_option maxHeartbeats 1000000 in
theorem about_any (i : Int) (c s : Nat) (w : World) (hi : i = 0 ∨ i = 1 ∨ i = 2) :
    Calls Try.prog 79 #[.int .i64 i, .float .f32 c, .float .f32 s] w fun e w' => e = .returned (aboutOf i c s) ∧ Below w.heap.size w w' := by
  have HT := Lib.hid (fun a b c d w => l03Table_any a b c d w)
  unfold aboutOf
  unfold tableOf at *
  rcases hi with rfl | rfl | rfl
  · rw [if_pos rfl]
    go_enter Try.func79, Try.ntmps79
    go_wp2_with fail
    refine (HT.out _ _ _ _ _).mono ?_
    rintro e w2 ⟨rfl, hb2⟩
    obtain ⟨hc2, hf2⟩ := bcell hb2
    have hz2 : w.heap.size < w2.heap.size := by have := hb2.size; simp at this; omega
    have HB2 := Lib.hid hb2
    clear hb2
    go_wp2_with fail
    refine bodyPost_ret (v := .agg #[.complex .f32 c (Op.negFloat .f32 0), .complex .f32 (Op.negFloat .f32 0) (Op.negFloat .f32 s), .complex .f32 0 (Op.negFloat .f32 s), .complex .f32 c 0]) (by simp [results, Try.results79, go_sem, hc2, hz2]) rfl ⟨rfl, ?_⟩
    all_goals repeat first
      | exact Below.refl _ _
      | refine Below.setCell ?_ ?_ _
      | refine below_step HB2.out ?_ ?_
      | refine Below.alloc ?_ ?_ _
    all_goals first | omega | (simp; done) | (simp; omega)
  · rw [if_neg (by decide), if_pos rfl]
    go_enter Try.func79, Try.ntmps79
    go_wp2_with fail
    refine (HT.out _ _ _ _ _).mono ?_
    rintro e w2 ⟨rfl, hb2⟩
    obtain ⟨hc2, hf2⟩ := bcell hb2
    have hz2 : w.heap.size < w2.heap.size := by have := hb2.size; simp at this; omega
    have HB2 := Lib.hid hb2
    clear hb2
    go_wp2_with fail
    refine bodyPost_ret (v := .agg #[.complex .f32 c (Op.negFloat .f32 0), .complex .f32 (Op.negFloat .f32 s) (Op.negFloat .f32 0), .complex .f32 s (Op.negFloat .f32 0), .complex .f32 c 0]) (by simp [results, Try.results79, go_sem, hc2, hz2]) rfl ⟨rfl, ?_⟩
    all_goals repeat first
      | exact Below.refl _ _
      | refine Below.setCell ?_ ?_ _
      | refine below_step HB2.out ?_ ?_
      | refine Below.alloc ?_ ?_ _
    all_goals first | omega | (simp; done) | (simp; omega)
  · rw [if_neg (by decide), if_neg (by decide)]
    go_enter Try.func79, Try.ntmps79
    go_wp2_with fail
    refine (HT.out _ _ _ _ _).mono ?_
    rintro e w2 ⟨rfl, hb2⟩
    obtain ⟨hc2, hf2⟩ := bcell hb2
    have hz2 : w.heap.size < w2.heap.size := by have := hb2.size; simp at this; omega
    have HB2 := Lib.hid hb2
    clear hb2
    go_wp2_with fail
    refine bodyPost_ret (v := .agg #[.complex .f32 c (Op.negFloat .f32 s), .complex .f32 (Op.negFloat .f32 0) (Op.negFloat .f32 0), .complex .f32 0 (Op.negFloat .f32 0), .complex .f32 c s]) (by simp [results, Try.results79, go_sem, hc2, hz2]) rfl ⟨rfl, ?_⟩
    all_goals repeat first
      | exact Below.refl _ _
      | refine Below.setCell ?_ ?_ _
      | refine below_step HB2.out ?_ ?_
      | refine Below.alloc ?_ ?_ _
    all_goals first | omega | (simp; done) | (simp; omega)

end Go.Proofs.Ytlglbinalocilaa
