/- Walks: lists held against each other. -/
import Derived.Test.YtojcdhnpdinbpaaGreatDoorP2
import Derived.Deep.QuietTactic
import Derived.BigQuiet
import Derived.WalkMore
namespace Go.Proofs.YtojcdhnpdinbpaaGreatDoor
open Go.RowKit

theorem neq_pulse (p : Pu) (w : World) : (binOp .neq 43 (.agg #[.int .i64 p.ax, .int .i64 p.ha, .bool p.bk]) (.agg #[.int .i64 p.ax, .int .i64 p.ha, .bool p.bk])).run Tryz.prog w = .ok (.bool false) w := by
  obtain ⟨x, y, z⟩ := p
  have ht : Tryz.prog.underlying 43 = some (.struct (Tryz.prog.fieldsOf 43)) := by kernel_rfl
  have hp : Tryz.prog.stoodInHeld 43 = false := by kernel_rfl
  have hf : (Tryz.prog.fieldsOf 43).toList.map (fun f => (f.name == "_", f.type, f.offset)) = [(false, 2, 0), (false, 2, 1), (false, 4, 2)] := by kernel_rfl
  have ui := Tryz.underlying2
  have ub := Tryz.underlying4
  rw [run_neq_struct, show (10000 : Nat) = 9999 + 1 from rfl, run_equalIn_agg w 9999 43 _ _ ht hp]
  simp only [Program.fieldsOf, Tryz.underlying43]
  go_simp

set_option maxRecDepth 100000 in
set_option maxHeartbeats 1000000 in
theorem pulses5_ok {w : World} {v v' : Value} {n : Nat} {P Q : Nat → Pu} (h : Rd w v n P) (h' : Rd w v' n Q) (e : ∀ i, i < n → P i = Q i) (hn : n ≤ 1048576) :
    Calls Tryz.prog 12 #[v, v'] w fun e w' => e = .returned (.bool true) ∧ Below w.heap.size w w' := by
  obtain ⟨a, cap, rfl, h⟩ := h
  obtain ⟨a', cap', rfl, h'⟩ := h'
  go_enter Tryz.func12, Tryz.ntmps12
  go_wp2_with fail
  go_loopw [5] (fun i wr => ∃ k : Nat, i = .int .i64 k ∧ k ≤ n ∧ Below w.heap.size w wr) (fun i _ => n - (intOf i).toNat)
  case atStart => exact ⟨0, rfl, Nat.zero_le _, Below.refl _ _⟩
  case round =>
    obtain ⟨k, rfl, hk, hb⟩ := hrel
    by_cases hlt : k < n
    · obtain ⟨b, off, rfl, hl, hc⟩ := h (by omega)
      obtain ⟨b', off', rfl, hl', hc'⟩ := h' (by omega)
      obtain ⟨c0, c1, c2⟩ := hc k hlt
      obtain ⟨d0, d1, d2⟩ := hc' k hlt
      rw [← hb.cell (p := ⟨b, _, none⟩) hl] at c0 c1 c2
      rw [← hb.cell (p := ⟨b', _, none⟩) hl', ← e k hlt] at d0 d1 d2
      have HB := Lib.hid hb
      have hlt' : (k : Int) < (n : Int) := by omega
      have hneq := fun w => neq_pulse (P k) w
      clear hb hc hc' h h' e
      go_wp2_with fail
      go_quiet (fail)
      go_wp2_with fail
      go_roundw
      case rel => exact ⟨k + 1, by go_num, by omega, ⟨HB.out.os, HB.out.tape, HB.out.output, HB.out.size, HB.out.block⟩⟩
      case measure => simp [intOf]; omega
    · have he : k = n := by omega
      subst he
      have hlt' : ¬ ((k : Int) < (k : Int)) := by omega
      have HB := Lib.hid hb
      clear hb h h' e
      go_wp2_with fail
      go_ret
      exact ⟨rfl, HB.out⟩

/-- The cells of a list of numbers. -/
def RdI (w : World) (v : Value) (n : Nat) (F : Nat → Int) : Prop :=
  ∃ a cap, v = .slice a n cap ∧ (0 < n → ∃ b off, a = some ⟨b, off, none⟩ ∧ b < w.heap.size ∧ ∀ i, i < n → w.cell? ⟨b, off + i, none⟩ = some (.int .i64 (F i)))

theorem RdI.below {w w' : World} {v : Value} {n : Nat} {F : Nat → Int} (h : RdI w v n F) (hb : Below w.heap.size w w') : RdI w' v n F := by
  obtain ⟨a, cap, rfl, h⟩ := h
  refine ⟨a, cap, rfl, fun h0 => ?_⟩
  obtain ⟨b, off, rfl, hl, hc⟩ := h h0
  exact ⟨b, off, rfl, Nat.lt_of_lt_of_le hl hb.size, fun i hi => (hb.cell (p := ⟨b, _, none⟩) hl).trans (hc i hi)⟩

set_option maxRecDepth 100000 in
set_option maxHeartbeats 1000000 in
theorem likeInts_ok {w : World} {v v' : Value} {n : Nat} {F G : Nat → Int} (h : RdI w v n F) (h' : RdI w v' n G) (e : ∀ i, i < n → F i = G i) (hn : n ≤ 1048576) :
    Calls Tryz.prog 15 #[v, v'] w fun e w' => e = .returned (.bool true) ∧ Below w.heap.size w w' := by
  obtain ⟨a, cap, rfl, h⟩ := h
  obtain ⟨a', cap', rfl, h'⟩ := h'
  go_enter Tryz.func15, Tryz.ntmps15
  go_wp2_with fail
  go_loopw [5] (fun i wr => ∃ k : Nat, i = .int .i64 k ∧ k ≤ n ∧ Below w.heap.size w wr) (fun i _ => n - (intOf i).toNat)
  case atStart => exact ⟨0, rfl, Nat.zero_le _, Below.refl _ _⟩
  case round =>
    obtain ⟨k, rfl, hk, hb⟩ := hrel
    by_cases hlt : k < n
    · obtain ⟨b, off, rfl, hl, hc⟩ := h (by omega)
      obtain ⟨b', off', rfl, hl', hc'⟩ := h' (by omega)
      have c0 := hc k hlt
      have d0 := hc' k hlt
      rw [← hb.cell (p := ⟨b, _, none⟩) hl] at c0
      rw [← hb.cell (p := ⟨b', _, none⟩) hl', ← e k hlt] at d0
      have HB := Lib.hid hb
      have hlt' : (k : Int) < (n : Int) := by omega
      clear hb hc hc' h h' e
      go_wp2_with fail
      go_quiet (fail)
      go_wp2_with fail
      go_roundw
      case rel => exact ⟨k + 1, by go_num, by omega, ⟨HB.out.os, HB.out.tape, HB.out.output, HB.out.size, HB.out.block⟩⟩
      case measure => simp [intOf]; omega
    · have he : k = n := by omega
      subst he
      have hlt' : ¬ ((k : Int) < (k : Int)) := by omega
      have HB := Lib.hid hb
      clear hb h h' e
      go_wp2_with fail
      go_ret
      exact ⟨rfl, HB.out⟩
end Go.Proofs.YtojcdhnpdinbpaaGreatDoor
