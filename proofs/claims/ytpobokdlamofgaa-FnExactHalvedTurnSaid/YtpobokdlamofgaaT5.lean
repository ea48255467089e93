/- Walks: TurnOfParts of the program and of the specification. -/
import Derived.Test.YtpobokdlamofgaaT2
namespace Go.Proofs.Ytpobokdlamofgaa
open Go.RowKit

def noTable : Value := .agg #[.complex .f32 0 0, .complex .f32 0 0, .complex .f32 0 0, .complex .f32 0 0]

/-- What TurnOfParts hands back. -/
def turnRes (a b c d : Nat) : Value := if fin a && (fin b && (fin c && fin d)) then .tuple #[tableOf a b c d, .int .i64 0] else .tuple #[noTable, .int .i64 1]

set_option maxHeartbeats 1000000 in
theorem implTurnOfParts (a b c d : Nat) (w : World) (ha : a < 4294967296) (hb : b < 4294967296) (hc : c < 4294967296) (hd : d < 4294967296) :
    Calls Try.prog 16 #[.agg #[.float .f32 a, .float .f32 b, .float .f32 c, .float .f32 d]] w fun e w' => e = .returned (turnRes a b c d) ∧ Below w.heap.size w w' := by
  have HP := Lib.hid (fun w => areParts_any a b c d w ha hb hc hd)
  have HT := Lib.hid (fun w => turnOfParts_any a b c d w)
  unfold turnRes
  clear ha hb hc hd
  generalize (fin a && (fin b && (fin c && fin d))) = r at *
  unfold tableOf at *
  unfold noTable
  cases r
  · go_enter Try.func16, Try.ntmps16
    go_wp2_with fail
    refine (HP.out _).mono ?_
    rintro e w1 ⟨rfl, hb1⟩
    obtain ⟨hc1, hf1⟩ := bcell hb1
    have hz1 : w.heap.size + 1 < w1.heap.size := by have := hb1.size; simp at this; omega
    have HB1 := Lib.hid hb1
    clear hb1
    go_wp2_with fail
    refine bodyPost_ret (v := .tuple #[.agg #[.complex .f32 0 0, .complex .f32 0 0, .complex .f32 0 0, .complex .f32 0 0], .int .i64 1]) (by simp [results, Try.results16, go_sem, hc1, hz1]) rfl ⟨rfl, ?_⟩
    all_goals repeat first
      | exact Below.refl _ _
      | refine Below.setCell ?_ ?_ _
      | refine below_step HB1.out ?_ ?_
      | refine Below.alloc ?_ ?_ _
    all_goals first | omega | (simp; done) | (simp; omega)
  · go_enter Try.func16, Try.ntmps16
    go_wp2_with fail
    refine (HP.out _).mono ?_
    rintro e w1 ⟨rfl, hb1⟩
    obtain ⟨hc1, hf1⟩ := bcell hb1
    have hz1 : w.heap.size + 1 < w1.heap.size := by have := hb1.size; simp at this; omega
    have hz1a : w.heap.size < w1.heap.size := by omega
    have HB1 := Lib.hid hb1
    clear hb1
    go_wp2_with fail
    refine (HT.out _).mono ?_
    rintro e w2 ⟨rfl, hb2⟩
    obtain ⟨hc2, hf2⟩ := bcell hb2
    have hz2 : w.heap.size + 1 < w2.heap.size := by have := hb2.size; omega
    have HB2 := Lib.hid hb2
    clear hb2
    go_wp2_with fail
    refine bodyPost_ret (v := .tuple #[.agg #[.complex .f32 a (Op.negFloat .f32 d), .complex .f32 (Op.negFloat .f32 c) (Op.negFloat .f32 b), .complex .f32 c (Op.negFloat .f32 b), .complex .f32 a d], .int .i64 0]) (by simp [results, Try.results16, go_sem, hc1, hz1, hc2, hz2]) rfl ⟨rfl, ?_⟩
    all_goals repeat first
      | exact Below.refl _ _
      | refine Below.setCell ?_ ?_ _
      | refine below_step HB2.out ?_ ?_
      | refine below_step HB1.out ?_ ?_
      | refine Below.alloc ?_ ?_ _
    all_goals first | omega | (simp; done) | (simp; omega)

set_option maxHeartbeats 2000000 in
theorem specTurnOfParts (a b c d : Nat) (w : World) (ha : a < 4294967296) (hb : b < 4294967296) (hc : c < 4294967296) (hd : d < 4294967296) :
    Calls Try.prog 17 #[.agg #[.float .f32 a, .float .f32 b, .float .f32 c, .float .f32 d]] w fun e w' => e = .returned (turnRes a b c d) ∧ Below w.heap.size w w' := by
  have H0 := Lib.hid (fun w => fine_any a w ha)
  have H1 := Lib.hid (fun w => fine_any b w hb)
  have H2 := Lib.hid (fun w => fine_any c w hc)
  have H3 := Lib.hid (fun w => fine_any d w hd)
  have HT := Lib.hid (fun w => l03Table_any a b c d w)
  unfold turnRes
  clear ha hb hc hd
  unfold tableOf at *
  unfold noTable
  generalize fin a = p at *
  generalize fin b = q at *
  generalize fin c = r at *
  generalize fin d = s at *
  go_enter Try.func17, Try.ntmps17
  go_wp2
  go_loopw [4] (fun i wr => ∃ n, wr = ((w.alloc (.cells #[.float .f32 a, .float .f32 b, .float .f32 c, .float .f32 d] 37)).alloc (.cells #[.complex .f32 0 0, .complex .f32 0 0, .complex .f32 0 0, .complex .f32 0 0] 27)).drewN n ∧ (i = .int .i64 0 ∨ i = .int .i64 1 ∧ p = true ∨ i = .int .i64 2 ∧ p = true ∧ q = true ∨ i = .int .i64 3 ∧ p = true ∧ q = true ∧ r = true ∨ i = .int .i64 4 ∧ p = true ∧ q = true ∧ r = true ∧ s = true)) (fun i _ => 4 - (intOf i).toNat)
  case atStart => exact ⟨0, rfl, .inl rfl⟩
  case round =>
    obtain ⟨n, rfl, rfl | ⟨rfl, rfl⟩ | ⟨rfl, rfl, rfl⟩ | ⟨rfl, rfl, rfl, rfl⟩ | ⟨rfl, rfl, rfl, rfl, rfl⟩⟩ := hrel
    · cases p
      · go_wp2_with fail
        refine (H0.out _).mono ?_
        rintro e w1 ⟨rfl, n1, rfl⟩
        go_wp2_with fail
        refine bodyPost_ret (v := .tuple #[.agg #[.complex .f32 0 0, .complex .f32 0 0, .complex .f32 0 0, .complex .f32 0 0], .int .i64 1]) (by simp [results, Try.results17, go_sem]) rfl ⟨rfl, ?_⟩
        all_goals repeat first
          | exact Below.refl _ _
          | refine Below.setCell ?_ ?_ _
          | refine Below.alloc ?_ ?_ _
          | refine below_drewN ?_ _
        all_goals first | omega | (simp; done) | (simp; omega)
      · go_wp2_with fail
        refine (H0.out _).mono ?_
        rintro e w1 ⟨rfl, n1, rfl⟩
        go_wp2_with fail
        go_roundw
        case rel => exact ⟨_, rfl, .inr (.inl ⟨by go_num, by first | rfl | trivial⟩)⟩
        case measure => simp [intOf]
    · cases q
      · go_wp2_with fail
        refine (H1.out _).mono ?_
        rintro e w1 ⟨rfl, n1, rfl⟩
        go_wp2_with fail
        refine bodyPost_ret (v := .tuple #[.agg #[.complex .f32 0 0, .complex .f32 0 0, .complex .f32 0 0, .complex .f32 0 0], .int .i64 1]) (by simp [results, Try.results17, go_sem]) rfl ⟨rfl, ?_⟩
        all_goals repeat first
          | exact Below.refl _ _
          | refine Below.setCell ?_ ?_ _
          | refine Below.alloc ?_ ?_ _
          | refine below_drewN ?_ _
        all_goals first | omega | (simp; done) | (simp; omega)
      · go_wp2_with fail
        refine (H1.out _).mono ?_
        rintro e w1 ⟨rfl, n1, rfl⟩
        go_wp2_with fail
        go_roundw
        case rel => exact ⟨_, rfl, .inr (.inr (.inl ⟨by go_num, by first | rfl | trivial, by first | rfl | trivial⟩))⟩
        case measure => simp [intOf]
    · cases r
      · go_wp2_with fail
        refine (H2.out _).mono ?_
        rintro e w1 ⟨rfl, n1, rfl⟩
        go_wp2_with fail
        refine bodyPost_ret (v := .tuple #[.agg #[.complex .f32 0 0, .complex .f32 0 0, .complex .f32 0 0, .complex .f32 0 0], .int .i64 1]) (by simp [results, Try.results17, go_sem]) rfl ⟨rfl, ?_⟩
        all_goals repeat first
          | exact Below.refl _ _
          | refine Below.setCell ?_ ?_ _
          | refine Below.alloc ?_ ?_ _
          | refine below_drewN ?_ _
        all_goals first | omega | (simp; done) | (simp; omega)
      · go_wp2_with fail
        refine (H2.out _).mono ?_
        rintro e w1 ⟨rfl, n1, rfl⟩
        go_wp2_with fail
        go_roundw
        case rel => exact ⟨_, rfl, .inr (.inr (.inr (.inl ⟨by go_num, by first | rfl | trivial, by first | rfl | trivial, by first | rfl | trivial⟩)))⟩
        case measure => simp [intOf]
    · cases s
      · go_wp2_with fail
        refine (H3.out _).mono ?_
        rintro e w1 ⟨rfl, n1, rfl⟩
        go_wp2_with fail
        refine bodyPost_ret (v := .tuple #[.agg #[.complex .f32 0 0, .complex .f32 0 0, .complex .f32 0 0, .complex .f32 0 0], .int .i64 1]) (by simp [results, Try.results17, go_sem]) rfl ⟨rfl, ?_⟩
        all_goals repeat first
          | exact Below.refl _ _
          | refine Below.setCell ?_ ?_ _
          | refine Below.alloc ?_ ?_ _
          | refine below_drewN ?_ _
        all_goals first | omega | (simp; done) | (simp; omega)
      · go_wp2_with fail
        refine (H3.out _).mono ?_
        rintro e w1 ⟨rfl, n1, rfl⟩
        go_wp2_with fail
        go_roundw
        case rel => exact ⟨_, rfl, .inr (.inr (.inr (.inr ⟨by go_num, by first | rfl | trivial, by first | rfl | trivial, by first | rfl | trivial, by first | rfl | trivial⟩)))⟩
        case measure => simp [intOf]
    · go_wp2_with fail
      refine (HT.out _).mono ?_
      rintro e w2 ⟨rfl, hb2⟩
      obtain ⟨hc2, hf2⟩ := bcell hb2
      have hz2 : w.heap.size + 1 < w2.heap.size := by have := hb2.size; simp at this; omega
      have HB2 := Lib.hid hb2
      clear hb2
      go_wp2_with fail
      refine bodyPost_ret (v := .tuple #[.agg #[.complex .f32 a (Op.negFloat .f32 d), .complex .f32 (Op.negFloat .f32 c) (Op.negFloat .f32 b), .complex .f32 c (Op.negFloat .f32 b), .complex .f32 a d], .int .i64 0]) (by simp [results, Try.results17, go_sem, hc2, hz2]) rfl ⟨rfl, ?_⟩
      all_goals repeat first
        | exact Below.refl _ _
        | refine Below.setCell ?_ ?_ _
        | refine below_step HB2.out ?_ ?_
        | refine Below.alloc ?_ ?_ _
        | refine below_drewN ?_ _
      all_goals first | omega | (simp; done) | (simp; omega)
end Go.Proofs.Ytpobokdlamofgaa
