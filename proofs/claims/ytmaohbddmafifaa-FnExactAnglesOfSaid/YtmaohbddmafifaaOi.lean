/- Lists of int64 held against each other, marked, looked at again. -/
import Derived.Test.YtmaohbddmafifaaOv
import Derived.BigQuiet
import Derived.Deep.QuietTactic
import Derived.WalkSmall
namespace Go.Proofs.Ytmaohbddmafifaa
open Go.RowKit

set_option maxRecDepth 100000 in
set_option maxHeartbeats 1000000 in
theorem eqInt64S_ok {w : World} {v v' : Value} {m : Nat} {X : Nat → Int} (h : RdV w v m (fun i => .int .i64 (X i))) (h' : RdV w v' m (fun i => .int .i64 (X i))) (hm : m ≤ 1048576) :
    Calls Try.prog 24 #[v, v'] w fun e w' => e = .returned (.bool true) ∧ Below w.heap.size w w' := by
  obtain ⟨a, cap, rfl, h⟩ := h
  obtain ⟨a', cap', rfl, h'⟩ := h'
  go_enter Try.func24, Try.ntmps24
  go_wp2_with fail
  go_loopw [5] (fun i wr => ∃ k : Nat, i = .int .i64 k ∧ k ≤ m ∧ Below w.heap.size w wr) (fun i _ => m - (intOf i).toNat)
  case atStart => exact ⟨0, rfl, Nat.zero_le _, Below.refl _ _⟩
  case round =>
    obtain ⟨k, rfl, hk, hb⟩ := hrel
    by_cases hlt : k < m
    · obtain ⟨B, rfl, hl, hc⟩ := h (by omega)
      obtain ⟨B', rfl, hl', hc'⟩ := h' (by omega)
      have c := (hb.cell (p := ⟨B, k, none⟩) hl).trans (hc k hlt)
      have d := (hb.cell (p := ⟨B', k, none⟩) hl').trans (hc' k hlt)
      have HB := Lib.hid hb
      have hlt' : (k : Int) < (m : Int) := by omega
      clear hb hc hc' h h'
      go_wp2_with fail
      go_quiet (fail)
      go_wp2_with fail
      go_roundw
      case rel => exact ⟨k + 1, by go_num, by omega, by exact Go.below_drewN HB.out _⟩
      case measure => simp [intOf]; omega
    · have he : k = m := by omega
      subst he
      have hlt' : ¬ ((k : Int) < (k : Int)) := by omega
      have HB := Lib.hid hb
      clear hb h h'
      go_wp2_with fail
      go_ret
      exact ⟨rfl, HB.out⟩

set_option maxRecDepth 100000 in
set_option maxHeartbeats 1000000 in
theorem markInt64S_ok {w : World} {B N m cap k : Nat} {F : Nat → Value} (h : w.rowIs B 2 N F) (hN : m ≤ N) (hm : m ≤ 1048576) (hk : k ≤ 4) :
    Calls Try.prog 25 #[.slice (some ⟨B, 0, none⟩) m cap, .int .i64 k] w fun e w' => e = .returned (.int .i64 (k + m : Nat)) ∧ But w w' B ∧ w'.rowIs B 2 N (fun j => if j < m then .int .i64 ((k : Int) + (j : Int)) else F j) := by
  go_enter Try.func25, Try.ntmps25
  go_wp2_with fail
  go_loopw [1, 5] (fun q i wr => ∃ j : Nat, i = .int .i64 j ∧ q = .int .i64 ((k : Int) + (j : Int)) ∧ j ≤ m ∧ But w wr B ∧ wr.rowIs B 2 N (fun r => if r < j then .int .i64 ((k : Int) + (r : Int)) else F r)) (fun _ i _ => m - (intOf i).toNat)
  case atStart => exact ⟨0, rfl, by simp, Nat.zero_le _, But.refl _ _, World.rowIs.congr h (fun i _ => by simp)⟩
  case round =>
    obtain ⟨j, rfl, rfl, hj, hb, hr⟩ := hrel
    by_cases hlt : j < m
    · have s0 := World.rowIs.cell hr (i := j) (by omega)
      have f0 := World.rowIs.frozen hr j
      have hz : B < wr.heap.size := World.rowIs.lt hr
      have HB := Lib.hid hb
      have HR := Lib.hid hr
      have hlt' : (j : Int) < (m : Int) := by omega
      clear hb hr h
      go_wp2_with fail
      go_roundw
      case rel =>
        refine ⟨j + 1, by go_num, by go_num, by omega, HB.out.put _ _, ?_⟩
        refine World.rowIs.congr (World.rowIs.set HR.out j _) ?_
        intro r _
        by_cases h1 : r = j
        · subst h1; simp
        · by_cases h2 : r < j
          · rw [if_neg h1, if_pos h2, if_pos (by omega)]
          · rw [if_neg h1, if_neg h2, if_neg (by omega)]
      case measure => simp [intOf]; omega
    · have he : j = m := by omega
      subst he
      have hlt' : ¬ ((j : Int) < (j : Int)) := by omega
      have HB := Lib.hid hb
      have HR := Lib.hid hr
      clear hb hr h
      go_wp2_with fail
      go_ret
      exact ⟨by simp, HB.out, HR.out⟩

set_option maxRecDepth 100000 in
set_option maxHeartbeats 1000000 in
theorem heldInt64S_ok {w : World} {a : Option Addr} {m cap k : Nat} (h : RdV w (.slice a m cap) m (fun i => .int .i64 ((k : Int) + (i : Int)))) (hm : m ≤ 1048576) (hk : k ≤ 4) :
    Calls Try.prog 26 #[.slice a m cap, .int .i64 k] w fun e w' => e = .returned (.int .i64 (k + m : Nat)) ∧ w = w' := by
  go_enter Try.func26, Try.ntmps26
  go_wp2_with fail
  go_loopw [1, 5] (fun q i wr => ∃ j : Nat, i = .int .i64 j ∧ q = .int .i64 ((k : Int) + (j : Int)) ∧ j ≤ m ∧ w = wr) (fun _ i _ => m - (intOf i).toNat)
  case atStart => exact ⟨0, rfl, by simp, Nat.zero_le _, rfl⟩
  case round =>
    obtain ⟨j, rfl, rfl, hj, rfl⟩ := hrel
    by_cases hlt : j < m
    · obtain ⟨_, _, hv, h⟩ := h
      injection hv with q1 _ q3
      subst q1 q3
      obtain ⟨B, rfl, hl, hc⟩ := h (by omega)
      have s0 := hc j hlt
      have hlt' : (j : Int) < (m : Int) := by omega
      clear hc h
      go_wp2_with fail
      go_roundw
      case rel => exact ⟨j + 1, by go_num, by go_num, by omega, trivial⟩
      case measure => simp [intOf]; omega
    · have he : j = m := by omega
      subst he
      have hlt' : ¬ ((j : Int) < (j : Int)) := by omega
      clear h
      go_wp2_with fail
      go_ret
      exact ⟨by simp, rfl⟩

theorem markInt64S_none (a : Option Addr) (cap k : Nat) (w : World) :
    Calls Try.prog 25 #[.slice a 0 cap, .int .i64 k] w fun e w' => e = .returned (.int .i64 k) ∧ w = w' := by
  go_enter Try.func25, Try.ntmps25
  go_wp2_with fail
  go_loopw [1, 5] (fun q i wr => i = .int .i64 0 ∧ q = .int .i64 k ∧ w = wr) (fun _ i _ => 0)
  case atStart => exact ⟨rfl, rfl, rfl⟩
  case round =>
    obtain ⟨rfl, rfl, rfl⟩ := hrel
    go_wp2_with fail
    go_ret
    exact ⟨rfl, rfl⟩

theorem mark_Int64S {w : World} {v : Value} {m lo hi k : Nat} {F : Nat → Value} (h : OwnV 2 w v m F lo hi) (hm : m ≤ 1048576) (hk : k ≤ 4) :
    Calls Try.prog 25 #[v, .int .i64 k] w fun e w' => e = .returned (.int .i64 (k + m : Nat)) ∧ OwnV 2 w' v m (fun i => .int .i64 ((k : Int) + (i : Int))) lo hi ∧ Save w w' lo hi := by
  obtain ⟨a, cap, rfl, hh, h⟩ := h
  by_cases h0 : m = 0
  · subst h0
    refine (markInt64S_none a cap k w).mono ?_
    rintro e w' ⟨rfl, rfl⟩
    exact ⟨by simp, ⟨a, cap, rfl, hh, fun g => absurd g (Nat.lt_irrefl _)⟩, ⟨rfl, rfl, rfl, Nat.le_refl _, fun _ _ _ => rfl⟩⟩
  · obtain ⟨B, N, f, rfl, h1, h2, h3, h4, h5⟩ := h (by omega)
    refine (markInt64S_ok h4 h3 hm hk).mono ?_
    rintro e w' ⟨rfl, hb, hr⟩
    exact ⟨rfl, ⟨_, cap, rfl, Nat.le_trans hh hb.size, fun _ => ⟨B, N, _, rfl, h1, h2, h3, hr, fun i hi => by rw [if_pos hi]⟩⟩, ⟨hb.os, hb.tape, hb.output, hb.size, fun b hb1 hb2 => hb.block b hb1 (by omega)⟩⟩

theorem held_Int64S {w : World} {v : Value} {m lo hi k : Nat} (h : OwnV 2 w v m (fun i => .int .i64 ((k : Int) + (i : Int))) lo hi) (hm : m ≤ 1048576) (hk : k ≤ 4) :
    Calls Try.prog 26 #[v, .int .i64 k] w fun e w' => e = .returned (.int .i64 (k + m : Nat)) ∧ w = w' := by
  obtain ⟨a, cap, rfl, _⟩ := id h
  exact heldInt64S_ok (ownv_rd h) hm hk
end Go.Proofs.Ytmaohbddmafifaa
