/- Walks: lists of pulses held against each other, marked, and looked at again. -/
import Derived.Test.YtikaabpldnhbkaaDoorP1
import Derived.StillTailTactics
namespace Go.Proofs.YtikaabpldnhbkaaDoor
open Go.RowKit

theorem tail_still {P : Program} {id : Nat} {Q : Exit → Act → World → Prop} {a : Act} {w : World} {l : List Oper} (n : Nat) (hm : P.follows .mixedOrders = true) (hB : Region.lexTailB .any l.toArray n = true)
    (h : wpStill P l.toArray w.drew (fun a' => wpList P l.toArray Q (l.drop n) a' w.drew) (l.take n) a) : (Code.region id l.toArray true).wp P Q a w := wp_region_still_tail n hm hB h

set_option maxRecDepth 100000 in
set_option maxHeartbeats 1000000 in
theorem eqPulseS_ok {w : World} {v v' : Value} {n : Nat} {P Q : Nat → Pu} (h : Rd w v n P) (h' : Rd w v' n Q) (e : ∀ i, i < n → P i = Q i) (hn : n ≤ 1048576) :
    Calls Tryd.prog 9 #[v, v'] w fun e w' => e = .returned (.bool true) ∧ Below w.heap.size w w' := by
  obtain ⟨a, cap, rfl, h⟩ := h
  obtain ⟨a', cap', rfl, h'⟩ := h'
  go_enter Tryd.func9, Tryd.ntmps9
  go_wp2_with fail
  go_loopw [5] (fun i wr => ∃ k : Nat, i = .int .i64 k ∧ k ≤ n ∧ Below w.heap.size w wr) (fun i _ => n - (intOf i).toNat)
  case atStart => exact ⟨0, rfl, Nat.zero_le _, Below.refl _ _⟩
  case round =>
    obtain ⟨k, rfl, hk, hb⟩ := hrel
    by_cases hlt : k < n
    · obtain ⟨b, off, rfl, hl, hc⟩ := h (by omega)
      obtain ⟨b', off', rfl, hl', hc'⟩ := h' (by omega)
      obtain ⟨c0, c1, c2⟩ := hc k hlt
      obtain ⟨d0, d1, d2⟩ := hc' k hlt
      rw [← hb.cell (p := ⟨b, _, none⟩) hl] at c0 c1 c2
      rw [← hb.cell (p := ⟨b', _, none⟩) hl', ← e k hlt] at d0 d1 d2
      have HB := Lib.hid hb
      have hlt' : (k : Int) < (n : Int) := by omega
      have HE := Lib.hid (fun w => eqPulse_any (P k) (P k) w)
      rw [decide_eq_true rfl] at HE
      unfold Pu.v at HE
      clear hb hc hc' h h' e
      go_wp2_with fail
      refine tail_still 8 (by kernel_rfl) (by kernel_rfl) ?_
      simp only [List.take_succ_cons, List.take_zero, List.drop_succ_cons, List.drop_zero]
      iterate 8 still_step
      refine wpStill_nil ?_
      go_wp2_with fail
      refine (HE.out _).mono ?_
      rintro e w2 ⟨rfl, hb2⟩
      have HB2 := Lib.hid (HB.out.trans (Below.mono (w := wr) (w' := w2) ((Below.refl _ wr).drew.trans hb2) HB.out.size))
      clear hb2
      go_wp2_with fail
      go_roundw
      case rel => exact ⟨k + 1, by go_num, by omega, HB2.out⟩
      case measure => simp [intOf]; omega
    · have he : k = n := by omega
      subst he
      have hlt' : ¬ ((k : Int) < (k : Int)) := by omega
      have HB := Lib.hid hb
      clear hb h h' e
      go_wp2_with fail
      go_ret
      exact ⟨rfl, HB.out⟩

/-- Marks. -/
def mk (k : Nat) (j : Nat) : Pu := ⟨(k : Int) + 3 * (j : Int), (k : Int) + 3 * (j : Int) + 1, ((k : Int) + 3 * (j : Int) + 1 + 1) % 3 == 0⟩

/-- All but one block as it was. -/
structure But (w w' : World) (B : Nat) : Prop where
  os : w'.os = w.os
  tape : w'.tape = w.tape
  output : w'.output = w.output
  size : w.heap.size ≤ w'.heap.size
  block : ∀ b, b < w.heap.size → b ≠ B → w'.heap[b]? = w.heap[b]?

theorem But.refl (w : World) (B : Nat) : But w w B := ⟨rfl, rfl, rfl, Nat.le_refl _, fun _ _ _ => rfl⟩

theorem But.put {w w' : World} {B : Nat} (h : But w w' B) (i : Nat) (v : Value) : But w (w'.setCell ⟨B, i, none⟩ v) B :=
  ⟨h.os, h.tape, h.output, by have := h.size; simpa [World.setCell] using this, fun b hb hne => (Below.heap_setCell w' ⟨B, i, none⟩ v b hne).trans (h.block b hb hne)⟩

theorem But.below {w w' W : World} {B : Nat} (h : But w w' B) (hb : Below W.heap.size W w) (hB : W.heap.size ≤ B) : Below W.heap.size W w' :=
  ⟨h.os.trans hb.os, h.tape.trans hb.tape, h.output.trans hb.output, Nat.le_trans hb.size h.size, fun k hk => (h.block k (Nat.lt_of_lt_of_le hk hb.size) (by omega)).trans (hb.block k hk)⟩

theorem row_but {w w' : World} {B C N : Nat} {P : Nat → Pu} (h : Row w C N P) (hb : But w w' B) (hne : C ≠ B) : Row w' C N P := row_block h (hb.block C (row_lt h) hne)

set_option maxRecDepth 100000 in
set_option maxHeartbeats 1000000 in
theorem markPulseS_ok {w : World} {B N n cap k : Nat} {P : Nat → Pu} (h : Row w B N P) (hN : n ≤ N) (hn : n ≤ 1048576) (hk : k ≤ 4) :
    Calls Tryd.prog 12 #[.slice (some ⟨B, 0, none⟩) n cap, .int .i64 k] w fun e w' => e = .returned (.int .i64 (k + 3 * n : Nat)) ∧ But w w' B ∧ Row w' B N (fun j => if j < n then mk k j else P j) := by
  go_enter Tryd.func12, Tryd.ntmps12
  go_wp2_with fail
  go_loopw [1, 5] (fun q i wr => ∃ j : Nat, i = .int .i64 j ∧ q = .int .i64 (k + 3 * j : Nat) ∧ j ≤ n ∧ But w wr B ∧ Row wr B N (fun m => if m < j then mk k m else P m)) (fun _ i _ => n - (intOf i).toNat)
  case atStart => exact ⟨0, rfl, by simp, Nat.zero_le _, But.refl _ _, row_congr h (fun i _ => by simp)⟩
  case round =>
    obtain ⟨j, rfl, rfl, hj, hb, hr⟩ := hrel
    by_cases hlt : j < n
    · have s0 := row_cell hr (j := j * 3) (by omega)
      have s1 := row_cell hr (j := j * 3 + 1) (by omega)
      have s2 := row_cell hr (j := j * 3 + 2) (by omega)
      have f0 := row_frozen hr (j * 3)
      have f1 := row_frozen hr (j * 3 + 1)
      have f2 := row_frozen hr (j * 3 + 2)
      have hz : B < wr.heap.size := row_lt hr
      have HB := Lib.hid hb
      have HR := Lib.hid hr
      have hlt' : (j : Int) < (n : Int) := by omega
      clear hb hr h
      go_wp2_with fail
      go_roundw
      case rel =>
        refine ⟨j + 1, by go_num, congrArg (Value.int .i64) (by omega), by omega, ((HB.out.put _ _).put _ _).put _ _, ?_⟩
        refine row_congr (row_put HR.out (mk k j) (i := j)) ?_
        intro m _
        by_cases h1 : m = j
        · subst h1; simp
        · by_cases h2 : m < j
          · rw [if_neg h1, if_pos h2, if_pos (by omega)]
          · rw [if_neg h1, if_neg h2, if_neg (by omega)]
      case measure => simp [intOf]; omega
    · have he : j = n := by omega
      subst he
      have hlt' : ¬ ((j : Int) < (j : Int)) := by omega
      have HB := Lib.hid hb
      have HR := Lib.hid hr
      clear hb hr h
      go_wp2_with fail
      go_ret
      exact ⟨rfl, HB.out, HR.out⟩

set_option maxRecDepth 100000 in
set_option maxHeartbeats 1000000 in
theorem heldPulseS_ok {w : World} {B N n cap k : Nat} {P : Nat → Pu} (h : Row w B N P) (hN : n ≤ N) (hn : n ≤ 1048576) (hk : k ≤ 4) (hP : ∀ i, i < n → P i = mk k i) :
    Calls Tryd.prog 13 #[.slice (some ⟨B, 0, none⟩) n cap, .int .i64 k] w fun e w' => e = .returned (.int .i64 (k + 3 * n : Nat)) ∧ w = w' := by
  go_enter Tryd.func13, Tryd.ntmps13
  go_wp2_with fail
  go_loopw [1, 5] (fun q i wr => ∃ j : Nat, i = .int .i64 j ∧ q = .int .i64 (k + 3 * j : Nat) ∧ j ≤ n ∧ w = wr) (fun _ i _ => n - (intOf i).toNat)
  case atStart => exact ⟨0, rfl, by simp, Nat.zero_le _, rfl⟩
  case round =>
    obtain ⟨j, rfl, rfl, hj, rfl⟩ := hrel
    by_cases hlt : j < n
    · have s0 := row_cell h (j := j * 3) (by omega)
      have s1 := row_cell h (j := j * 3 + 1) (by omega)
      have s2 := row_cell h (j := j * 3 + 2) (by omega)
      rw [pc0, hP j hlt] at s0
      rw [pc1, hP j hlt] at s1
      rw [pc2, hP j hlt] at s2
      have s0' : w.cell? ⟨B, j * 3, none⟩ = some (.int .i64 ((k : Int) + 3 * (j : Int))) := s0
      have s1' : w.cell? ⟨B, j * 3 + 1, none⟩ = some (.int .i64 ((k : Int) + 3 * (j : Int) + 1)) := s1
      have s2' : w.cell? ⟨B, j * 3 + 2, none⟩ = some (.bool (((k : Int) + 3 * (j : Int) + 1 + 1) % 3 == 0)) := s2
      have hlt' : (j : Int) < (n : Int) := by omega
      clear h hP s0 s1 s2
      go_wp2_with fail
      go_roundw
      case rel => exact ⟨j + 1, by go_num, congrArg (Value.int .i64) (by omega), by omega, trivial⟩
      case measure => simp [intOf]; omega
    · have he : j = n := by omega
      subst he
      have hlt' : ¬ ((j : Int) < (j : Int)) := by omega
      clear h hP
      go_wp2_with fail
      go_ret
      exact ⟨rfl, rfl⟩
end Go.Proofs.YtikaabpldnhbkaaDoor
