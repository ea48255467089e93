/- Walks: Bell's pairs of the specification; pairs held against each other. -/
import Derived.Test.YtlglbinalocilaaT3
import Derived.Test.YtlglbinalocilaaIn
import Derived.Test.YtlglbinalocilaaH1
namespace Go.Proofs.Ytlglbinalocilaa
open Go.RowKit

set_option maxHeartbeats 1000000 in
theorem eqPair_ok {a b c d e f g h : Nat} (ha : Num a) (hb : Num b) (hc : Num c) (hd : Num d) (he : Num e) (hf : Num f) (hg : Num g) (hh : Num h) (w : World) :
    Calls Try.prog 24 #[.agg #[.complex .f32 a b, .complex .f32 c d, .complex .f32 e f, .complex .f32 g h], .agg #[.complex .f32 a b, .complex .f32 c d, .complex .f32 e f, .complex .f32 g h]] w fun e' w' => e' = .returned (.bool true) ∧ Below w.heap.size w w' := by
  obtain ⟨x0, y0, cv0, sm0⟩ := same_pair a b ha.1 hb.1 ha.2 hb.2
  obtain ⟨x1, y1, cv1, sm1⟩ := same_pair c d hc.1 hd.1 hc.2 hd.2
  obtain ⟨x2, y2, cv2, sm2⟩ := same_pair e f he.1 hf.1 he.2 hf.2
  obtain ⟨x3, y3, cv3, sm3⟩ := same_pair g h hg.1 hh.1 hg.2 hh.2
  have S0 := Lib.hid sm0
  have S1 := Lib.hid sm1
  have S2 := Lib.hid sm2
  have S3 := Lib.hid sm3
  clear sm0 sm1 sm2 sm3 ha hb hc hd he hf hg hh
  go_enter Try.func24, Try.ntmps24
  go_wp2
  go_loopw [5] (fun i wr => (i = .int .i64 0 ∨ i = .int .i64 1 ∨ i = .int .i64 2 ∨ i = .int .i64 3 ∨ i = .int .i64 4) ∧ ∃ n, wr = ((w.alloc (.cells #[.complex .f32 a b, .complex .f32 c d, .complex .f32 e f, .complex .f32 g h] 45)).alloc (.cells #[.complex .f32 a b, .complex .f32 c d, .complex .f32 e f, .complex .f32 g h] 45)).drewN n) (fun i _ => 4 - (intOf i).toNat)
  case atStart => exact ⟨.inl rfl, 0, rfl⟩
  case round =>
    obtain ⟨rfl | rfl | rfl | rfl | rfl, n, rfl⟩ := hrel
    · go_wp2_with fail
      go_quiet ((go_at_call 50; exact still_call S0.out _ _ _))
      go_wp2_with fail
      go_roundw
      case rel => exact ⟨.inr (.inl (by go_num)), _, rfl⟩
      case measure => simp [intOf]
    · go_wp2_with fail
      go_quiet ((go_at_call 50; exact still_call S1.out _ _ _))
      go_wp2_with fail
      go_roundw
      case rel => exact ⟨.inr (.inr (.inl (by go_num))), _, rfl⟩
      case measure => simp [intOf]
    · go_wp2_with fail
      go_quiet ((go_at_call 50; exact still_call S2.out _ _ _))
      go_wp2_with fail
      go_roundw
      case rel => exact ⟨.inr (.inr (.inr (.inl (by go_num)))), _, rfl⟩
      case measure => simp [intOf]
    · go_wp2_with fail
      go_quiet ((go_at_call 50; exact still_call S3.out _ _ _))
      go_wp2_with fail
      go_roundw
      case rel => exact ⟨.inr (.inr (.inr (.inr (by go_num)))), _, rfl⟩
      case measure => simp [intOf]
    · go_wp2_with fail
      go_ret
      exact ⟨rfl, below_drewN (((Below.refl _ _).alloc (Nat.le_refl _) _).alloc (by simp) _) _⟩

/-- The root of one half. -/
def hR : Nat := rootW 1056964608

theorem hR_num : Num hR ∧ Num (Op.negFloat .f32 hR) ∧ Num (Op.negFloat .f32 0) ∧ Num 0 := by
  have : (decide (hR < 4294967296) && fin hR && decide (Op.negFloat .f32 hR < 4294967296) && fin (Op.negFloat .f32 hR) && decide (Op.negFloat .f32 0 < 4294967296) && fin (Op.negFloat .f32 0) && decide (0 < 4294967296) && fin 0) = true := by decide +kernel
  simp only [Bool.and_eq_true, decide_eq_true_eq] at this
  obtain ⟨⟨⟨⟨⟨⟨⟨a, b⟩, c⟩, d⟩, e⟩, f⟩, g⟩, h⟩ := this
  exact ⟨⟨a, b⟩, ⟨c, d⟩, ⟨e, f⟩, ⟨g, h⟩⟩

/-- Bell's pair k. -/
def bellOf (k : Int) : Value :=
  if k = 0 then .agg #[.complex .f32 hR 0, .complex .f32 0 0, .complex .f32 0 0, .complex .f32 hR 0]
  else if k = 1 then .agg #[.complex .f32 hR 0, .complex .f32 0 0, .complex .f32 0 0, .complex .f32 (Op.negFloat .f32 hR) (Op.negFloat .f32 0)]
  else if k = 2 then .agg #[.complex .f32 0 0, .complex .f32 hR 0, .complex .f32 hR 0, .complex .f32 0 0]
  else .agg #[.complex .f32 0 0, .complex .f32 hR 0, .complex .f32 (Op.negFloat .f32 hR) (Op.negFloat .f32 0), .complex .f32 0 0]

def bellRes (k : Int) : Value := if 0 ≤ k ∧ k ≤ 3 then .tuple #[bellOf k, .int .i64 0] else .tuple #[.agg #[.complex .f32 0 0, .complex .f32 0 0, .complex .f32 0 0, .complex .f32 0 0], .int .i64 2]

theorem half_pos : posW 1056964608 = true := by decide +kernel

set_option maxHeartbeats 1000000 in
theorem l07Bell_any (k : Int) (hk : 0 ≤ k ∧ k ≤ 3) (w : World) :
    Calls Try.prog 49 #[.int .i64 k] w fun e w' => e = .returned (bellOf k) ∧ Below w.heap.size w w' := by
  have HR := Lib.hid (fun w => specRootW 1056964608 w half_pos)
  have hr : rootW 1056964608 = hR := rfl
  rw [hr] at HR
  have hk4 : k = 0 ∨ k = 1 ∨ k = 2 ∨ k = 3 := by omega
  clear hr hk
  rcases hk4 with rfl | rfl | rfl | rfl
  · have hv : bellOf 0 = .agg #[.complex .f32 hR 0, .complex .f32 0 0, .complex .f32 0 0, .complex .f32 hR 0] := rfl
    rw [hv]
    clear hv
    generalize hR = h at *
    go_enter Try.func49, Try.ntmps49
    go_wp2_with fail
    refine (HR.out _).mono ?_
    rintro e w' ⟨rfl, rfl⟩
    go_wp2_with fail
    refine bodyPost_ret (v := .agg #[.complex .f32 h 0, .complex .f32 0 0, .complex .f32 0 0, .complex .f32 h 0]) (by simp [results, Try.results49, go_sem]) rfl ⟨rfl, ?_⟩
    all_goals repeat first
      | exact Below.refl _ _
      | refine Below.setCell ?_ ?_ _
      | refine Below.alloc ?_ ?_ _
    all_goals first | omega | (simp; done) | (simp; omega)
  · have hv : bellOf 1 = .agg #[.complex .f32 hR 0, .complex .f32 0 0, .complex .f32 0 0, .complex .f32 (Op.negFloat .f32 hR) (Op.negFloat .f32 0)] := rfl
    rw [hv]
    clear hv
    generalize hR = h at *
    go_enter Try.func49, Try.ntmps49
    go_wp2_with fail
    refine (HR.out _).mono ?_
    rintro e w' ⟨rfl, rfl⟩
    go_wp2_with fail
    refine bodyPost_ret (v := .agg #[.complex .f32 h 0, .complex .f32 0 0, .complex .f32 0 0, .complex .f32 (Op.negFloat .f32 h) (Op.negFloat .f32 0)]) (by simp [results, Try.results49, go_sem]) rfl ⟨rfl, ?_⟩
    all_goals repeat first
      | exact Below.refl _ _
      | refine Below.setCell ?_ ?_ _
      | refine Below.alloc ?_ ?_ _
    all_goals first | omega | (simp; done) | (simp; omega)
  · have hv : bellOf 2 = .agg #[.complex .f32 0 0, .complex .f32 hR 0, .complex .f32 hR 0, .complex .f32 0 0] := rfl
    rw [hv]
    clear hv
    generalize hR = h at *
    go_enter Try.func49, Try.ntmps49
    go_wp2_with fail
    refine (HR.out _).mono ?_
    rintro e w' ⟨rfl, rfl⟩
    go_wp2_with fail
    refine bodyPost_ret (v := .agg #[.complex .f32 0 0, .complex .f32 h 0, .complex .f32 h 0, .complex .f32 0 0]) (by simp [results, Try.results49, go_sem]) rfl ⟨rfl, ?_⟩
    all_goals repeat first
      | exact Below.refl _ _
      | refine Below.setCell ?_ ?_ _
      | refine Below.alloc ?_ ?_ _
    all_goals first | omega | (simp; done) | (simp; omega)
  · have hv : bellOf 3 = .agg #[.complex .f32 0 0, .complex .f32 hR 0, .complex .f32 (Op.negFloat .f32 hR) (Op.negFloat .f32 0), .complex .f32 0 0] := rfl
    rw [hv]
    clear hv
    generalize hR = h at *
    go_enter Try.func49, Try.ntmps49
    go_wp2_with fail
    refine (HR.out _).mono ?_
    rintro e w' ⟨rfl, rfl⟩
    go_wp2_with fail
    refine bodyPost_ret (v := .agg #[.complex .f32 0 0, .complex .f32 h 0, .complex .f32 (Op.negFloat .f32 h) (Op.negFloat .f32 0), .complex .f32 0 0]) (by simp [results, Try.results49, go_sem]) rfl ⟨rfl, ?_⟩
    all_goals repeat first
      | exact Below.refl _ _
      | refine Below.setCell ?_ ?_ _
      | refine Below.alloc ?_ ?_ _
    all_goals first | omega | (simp; done) | (simp; omega)

set_option maxHeartbeats 1000000 in
theorem specBell (k : Int) (w : World) :
    Calls Try.prog 22 #[.int .i64 k] w fun e w' => e = .returned (bellRes k) ∧ Below w.heap.size w w' := by
  have HI := Lib.hid (fun w => in_any k 0 3 w)
  have hform : ∃ a b c d e f g h : Nat, bellOf k = .agg #[.complex .f32 a b, .complex .f32 c d, .complex .f32 e f, .complex .f32 g h] := by
    unfold bellOf
    split
    · exact ⟨_, _, _, _, _, _, _, _, rfl⟩
    · split
      · exact ⟨_, _, _, _, _, _, _, _, rfl⟩
      · split
        · exact ⟨_, _, _, _, _, _, _, _, rfl⟩
        · exact ⟨_, _, _, _, _, _, _, _, rfl⟩
  obtain ⟨a, b, c, d, e', f, g, h, hv⟩ := hform
  unfold bellRes
  by_cases hk : 0 ≤ k ∧ k ≤ 3
  · have HB := Lib.hid (fun w => l07Bell_any k hk w)
    rw [hv] at HB
    rw [decide_eq_true hk] at HI
    rw [if_pos hk, hv]
    clear hk hv
    go_enter Try.func22, Try.ntmps22
    go_wp2_with fail
    refine (HI.out _).mono ?_
    rintro e w' ⟨rfl, rfl⟩
    go_wp2_with fail
    refine (HB.out _).mono ?_
    rintro e w1 ⟨rfl, hb1⟩
    obtain ⟨hc, hf⟩ := bcell hb1
    have hz : w.heap.size < w1.heap.size := by have := hb1.size; simp at this; omega
    have HB1 := Lib.hid hb1
    clear hb1
    go_wp2_with fail
    refine bodyPost_ret (v := .tuple #[.agg #[.complex .f32 a b, .complex .f32 c d, .complex .f32 e' f, .complex .f32 g h], .int .i64 0]) (by simp [results, Try.results22, go_sem, hc, hz]) rfl ⟨rfl, ?_⟩
    all_goals repeat first
      | exact Below.refl _ _
      | refine Below.setCell ?_ ?_ _
      | refine Below.alloc ?_ ?_ _
      | refine below_step HB1.out ?_ ?_
    all_goals first | omega | (simp; done) | (simp; omega)
  · rw [decide_eq_false hk] at HI
    rw [if_neg hk]
    clear hk hv
    go_enter Try.func22, Try.ntmps22
    go_wp2_with fail
    refine (HI.out _).mono ?_
    rintro e w' ⟨rfl, rfl⟩
    go_wp2_with fail
    refine bodyPost_ret (v := .tuple #[.agg #[.complex .f32 0 0, .complex .f32 0 0, .complex .f32 0 0, .complex .f32 0 0], .int .i64 2]) (by simp [results, Try.results22, go_sem]) rfl ⟨rfl, ?_⟩
    all_goals repeat first
      | exact Below.refl _ _
      | refine Below.setCell ?_ ?_ _
      | refine Below.alloc ?_ ?_ _
    all_goals first | omega | (simp; done) | (simp; omega)
end Go.Proofs.Ytlglbinalocilaa
