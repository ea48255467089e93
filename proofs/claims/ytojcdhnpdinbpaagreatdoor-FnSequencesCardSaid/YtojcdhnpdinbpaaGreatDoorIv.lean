/- Walks: inverses, as the program has them. -/
import Derived.Test.YtojcdhnpdinbpaaGreatDoorEc
import Derived.Test.YtojcdhnpdinbpaaGreatDoorIi
import Derived.OwnWalk
namespace Go.Proofs.YtojcdhnpdinbpaaGreatDoor
open Go.RowKit

theorem turned_any (p : Pu) (w : World) :
    Calls Tryz.prog 36 #[p.v] w fun e w' => e = .returned (inv p).v ∧ Below w.heap.size w w' := by
  obtain ⟨x, y, z⟩ := p
  unfold Pu.v inv
  go_enter Tryz.func36, Tryz.ntmps36
  go_wp2
  refine bodyPost_ret (v := .agg #[.int .i64 x, .int .i64 y, .bool (!z)]) (by simp [results, Tryz.results36, go_sem]) rfl ⟨rfl, ?_⟩
  all_goals repeat first
    | exact Below.refl _ _
    | refine Below.setCell ?_ ?_ _
    | refine Below.alloc ?_ ?_ _
  all_goals first | omega | (simp; done) | (simp; omega)

theorem But.drew {w w' : World} {B : Nat} (h : But w w' B) : But w w'.drew B := ⟨h.os, h.tape, h.output, h.size, h.block⟩

theorem row_drew {w : World} {B N : Nat} {P : Nat → Pu} (h : Row w B N P) : Row w.drew B N P := row_block h rfl

/-- What lies in a list of n pulses of which k pairs have been exchanged. -/
def half (n k : Nat) (P : Nat → Pu) (m : Nat) : Pu := if m < k then P (n - 1 - m) else if n - 1 - k < m ∧ m < n then P (n - 1 - m) else P m

theorem half_next {n k j : Nat} {P : Nat → Pu} (hj : j = n - 1 - k) (hk : 2 * k + 1 < n) (m : Nat) : (if m = j then P k else if m = k then P j else half n k P m) = half n (k + 1) P m := by
  unfold half
  by_cases h1 : m = j
  · rw [if_pos h1, if_neg (by omega), if_pos (by omega), show n - 1 - m = k by omega]
  · rw [if_neg h1]
    by_cases h2 : m = k
    · rw [if_pos h2, if_pos (by omega), show n - 1 - m = j by omega]
    · rw [if_neg h2]
      by_cases h3 : m < k
      · rw [if_pos h3, if_pos (by omega)]
      · rw [if_neg h3, if_neg (show ¬ m < k + 1 by omega)]
        by_cases h4 : n - 1 - k < m ∧ m < n
        · rw [if_pos h4, if_pos (by omega)]
        · rw [if_neg h4, if_neg (by omega)]

theorem half_next' {n k j : Nat} {P : Nat → Pu} (hj : j = n - 1 - k) (hk : 2 * k + 1 < n) (m : Nat) : (if m = k then P j else if m = j then P k else half n k P m) = half n (k + 1) P m := by
  rw [← half_next hj hk m]
  by_cases h1 : m = j
  · rw [if_neg (by omega), if_pos h1, if_pos h1]
  · rw [if_neg h1, if_neg h1]

theorem half_all {n k : Nat} {P : Nat → Pu} (hk : n ≤ 2 * k + 1) {m : Nat} (hm : m < n) (hk2 : 2 * k ≤ n) : half n k P m = P (n - 1 - m) := by
  unfold half
  by_cases h3 : m < k
  · rw [if_pos h3]
  · rw [if_neg h3]
    by_cases h4 : n - 1 - k < m ∧ m < n
    · rw [if_pos h4]
    · rw [if_neg h4, show n - 1 - m = m by omega]

set_option maxRecDepth 100000 in
set_option maxHeartbeats 2000000 in
theorem reverse_ok {w : World} {B N n cap : Nat} {P : Nat → Pu} (h : Row w B N P) (hN : n ≤ N) (hn : n ≤ 1048576) :
    Calls Tryz.prog 37 #[.slice (some ⟨B, 0, none⟩) n cap] w fun e w' => (∃ v, e = .returned v) ∧ But w w' B ∧ Row w' B N (fun m => if m < n then P (n - 1 - m) else P m) := by
  go_enter Tryz.func37, Tryz.ntmps37
  go_wp2_with fail
  go_loopw [2, 3] (fun i j wr => ∃ k : Nat, i = .int .i64 k ∧ j = .int .i64 ((n : Int) - 1 - k) ∧ 2 * k ≤ n ∧ But w wr B ∧ Row wr B N (half n k P)) (fun i _ _ => n - (intOf i).toNat)
  case atStart => exact ⟨0, rfl, by simp, by omega, But.refl _ _, row_congr h (fun i hi => by unfold half; rw [if_neg (by omega), if_neg (by omega)])⟩
  case round =>
    obtain ⟨k, rfl, rfl, hk, hb, hr⟩ := hrel
    by_cases hlt : 2 * k + 1 < n
    · obtain ⟨j, hj⟩ : ∃ j : Nat, (n : Int) - 1 - k = j := ⟨n - 1 - k, by omega⟩
      have hjn : j = n - 1 - k := by omega
      rw [hj]
      have ek : half n k P k = P k := by unfold half; rw [if_neg (by omega), if_neg (by omega)]
      have ej : half n k P j = P j := by unfold half; rw [if_neg (by omega), if_neg (by omega)]
      have s0 := row_cell hr (j := k * 3) (by omega)
      have s1 := row_cell hr (j := k * 3 + 1) (by omega)
      have s2 := row_cell hr (j := k * 3 + 2) (by omega)
      have t0 := row_cell hr (j := j * 3) (by omega)
      have t1 := row_cell hr (j := j * 3 + 1) (by omega)
      have t2 := row_cell hr (j := j * 3 + 2) (by omega)
      rw [pc0, ek] at s0
      rw [pc1, ek] at s1
      rw [pc2, ek] at s2
      rw [pc0, ej] at t0
      rw [pc1, ej] at t1
      rw [pc2, ej] at t2
      have f0 := row_frozen hr (k * 3)
      have f1 := row_frozen hr (k * 3 + 1)
      have f2 := row_frozen hr (k * 3 + 2)
      have g0 := row_frozen hr (j * 3)
      have g1 := row_frozen hr (j * 3 + 1)
      have g2 := row_frozen hr (j * 3 + 2)
      have hz : B < wr.heap.size := row_lt hr
      have hlt' : (k : Int) < (j : Int) := by omega
      have hjl : (j : Int) < (n : Int) := by omega
      have hkl : (k : Int) < (n : Int) := by omega
      have HB := Lib.hid hb
      have HR := Lib.hid hr
      have HJ := Lib.hid hj
      have HK := Lib.hid hlt
      have HJN := Lib.hid hjn
      clear hb hr h hj hlt hjn ek ej hk
      go_wp2_with fail
      go_region
      all_goals
        go_wp2_with fail
        go_roundw
        case rel =>
          refine ⟨k + 1, by go_num, congrArg (Value.int .i64) (by have := HJ.out; omega), by have := HK.out; omega, ?_, ?_⟩
          · exact But.drew ((((((HB.out.put _ _).put _ _).put _ _).put _ _).put _ _).put _ _)
          · first
              | exact row_congr (row_drew (row_put (row_put HR.out (P j) (i := k)) (P k) (i := j))) (fun m _ => half_next HJN.out HK.out m)
              | exact row_congr (row_drew (row_put (row_put HR.out (P k) (i := j)) (P j) (i := k))) (fun m _ => half_next' HJN.out HK.out m)
        case measure => simp [intOf]; omega
    · have hlt' : ¬ ((k : Int) < (n : Int) - 1 - (k : Int)) := by omega
      have HB := Lib.hid hb
      have HR := Lib.hid (row_congr hr (Q := fun m => if m < n then P (n - 1 - m) else P m) (fun m _ => by
        by_cases hm : m < n
        · rw [if_pos hm, half_all (by omega) hm hk]
        · rw [if_neg hm]; unfold half; rw [if_neg (by omega), if_neg (by omega)]))
      clear hb hr h hlt hk
      go_wp2_with fail
      go_end0
      exact ⟨⟨_, rfl⟩, HB.out, HR.out⟩
end Go.Proofs.YtojcdhnpdinbpaaGreatDoor
