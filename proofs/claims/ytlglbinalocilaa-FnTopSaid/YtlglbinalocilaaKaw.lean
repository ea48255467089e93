/- Walks: lists of pulses held against each other, marked, and looked at again. Walks: which lists are sequences, as the specification says. -/
import Derived.Test.YtlglbinalocilaaP1
import Derived.Test.YtlglbinalocilaaKat
import Derived.StillTailTactics
namespace Go.Proofs.Ytlglbinalocilaa
open Go.RowKit

theorem tail_still {P : Program} {id : Nat} {Q : Exit → Act → World → Prop} {a : Act} {w : World} {l : List Oper} (n : Nat) (hm : P.follows .mixedOrders = true) (hB : Region.lexTailB .any l.toArray n = true)
    (h : wpStill P l.toArray w.drew (fun a' => wpList P l.toArray Q (l.drop n) a' w.drew) (l.take n) a) : (Code.region id l.toArray true).wp P Q a w := wp_region_still_tail n hm hB h

/-- Marks. -/
def mk (k : Nat) (j : Nat) : Pu := ⟨(k : Int) + 3 * (j : Int), (k : Int) + 3 * (j : Int) + 1, ((k : Int) + 3 * (j : Int) + 1 + 1) % 3 == 0⟩

/-- All but one block as it was. -/
structure But (w w' : World) (B : Nat) : Prop where
  os : w'.os = w.os
  tape : w'.tape = w.tape
  output : w'.output = w.output
  size : w.heap.size ≤ w'.heap.size
  block : ∀ b, b < w.heap.size → b ≠ B → w'.heap[b]? = w.heap[b]?

theorem But.refl (w : World) (B : Nat) : But w w B := ⟨rfl, rfl, rfl, Nat.le_refl _, fun _ _ _ => rfl⟩

theorem But.put {w w' : World} {B : Nat} (h : But w w' B) (i : Nat) (v : Value) : But w (w'.setCell ⟨B, i, none⟩ v) B :=
  ⟨h.os, h.tape, h.output, by have := h.size; simpa [World.setCell] using this, fun b hb hne => (Below.heap_setCell w' ⟨B, i, none⟩ v b hne).trans (h.block b hb hne)⟩

theorem But.below {w w' W : World} {B : Nat} (h : But w w' B) (hb : Below W.heap.size W w) (hB : W.heap.size ≤ B) : Below W.heap.size W w' :=
  ⟨h.os.trans hb.os, h.tape.trans hb.tape, h.output.trans hb.output, Nat.le_trans hb.size h.size, fun k hk => (h.block k (Nat.lt_of_lt_of_le hk hb.size) (by omega)).trans (hb.block k hk)⟩

theorem row_but {w w' : World} {B C N : Nat} {P : Nat → Pu} (h : Row w C N P) (hb : But w w' B) (hne : C ≠ B) : Row w' C N P := row_block h (hb.block C (row_lt h) hne)

end Go.Proofs.Ytlglbinalocilaa

namespace Go.Proofs.Ytlglbinalocilaa
open Go.RowKit

/-- A pulse of a sequence; a sequence. -/
def okP (p : Pu) : Bool := decide (0 ≤ p.ax ∧ p.ax ≤ 2) && decide (0 ≤ p.ha ∧ p.ha ≤ 24)
def seqB (n : Nat) (P : Nat → Pu) : Bool := (List.range n).all (fun i => okP (P i)) && decide (n ≤ 60)

theorem seqB_no {n i : Nat} {P : Nat → Pu} (hi : i < n) (h : okP (P i) = false) : seqB n P = false := by
  unfold seqB
  have : (List.range n).all (fun i => okP (P i)) = false := by
    rw [List.all_eq_false]
    exact ⟨i, List.mem_range.2 hi, by rw [h]; simp⟩
  rw [this]; rfl

theorem seqB_yes {n : Nat} {P : Nat → Pu} (h : ∀ i, i < n → okP (P i) = true) : seqB n P = decide (n ≤ 60) := by
  unfold seqB
  have : (List.range n).all (fun i => okP (P i)) = true := by
    rw [List.all_eq_true]
    intro i hi
    exact h i (List.mem_range.1 hi)
  rw [this]; rfl

set_option maxRecDepth 100000 in
set_option maxHeartbeats 1000000 in
theorem l05Is_ok {w : World} {v : Value} {n : Nat} {P : Nat → Pu} (h : Rd w v n P) (hn : n ≤ 1048576) :
    Calls Try.prog 28 #[v] w fun e w' => e = .returned (.bool (seqB n P)) ∧ w = w' := by
  have HI := Lib.hid (fun x lo hi w => in_any x lo hi w)
  obtain ⟨a, cap, rfl, h⟩ := h
  go_enter Try.func28, Try.ntmps28
  go_wp2_with fail
  go_loopw [3] (fun i wr => ∃ k : Nat, i = .int .i64 k ∧ k ≤ n ∧ w = wr ∧ ∀ j, j < k → okP (P j) = true) (fun i _ => n - (intOf i).toNat)
  case atStart => exact ⟨0, rfl, Nat.zero_le _, rfl, fun j hj => absurd hj (Nat.not_lt_zero _)⟩
  case round =>
    obtain ⟨k, rfl, hk, rfl, hall⟩ := hrel
    by_cases hlt : k < n
    · obtain ⟨b, off, rfl, hl, hc⟩ := h (by omega)
      obtain ⟨c0, c1, c2⟩ := hc k hlt
      have hlt' : (k : Int) < (n : Int) := by omega
      have h1 := Lib.hid (HI.out (P k).ax 0 2)
      have h2 := Lib.hid (HI.out (P k).ha 0 24)
      have hno : okP (P k) = false → seqB n P = false := fun g => seqB_no hlt g
      unfold okP at hno
      have hnext : okP (P k) = true → ∀ j, j < k + 1 → okP (P j) = true := by
        intro g j hj
        rcases Nat.lt_or_ge j k with hj2 | hj2
        · exact hall j hj2
        · have : j = k := by omega
          subst this; exact g
      unfold okP at hnext
      generalize decide (0 ≤ (P k).ax ∧ (P k).ax ≤ 2) = x at *
      generalize decide (0 ≤ (P k).ha ∧ (P k).ha ≤ 24) = y at *
      clear h hc hall HI
      cases x
      · have hN := Lib.hid (hno rfl)
        clear hno hnext
        go_wp2_with fail
        refine (h1.out _).mono ?_
        rintro e w' ⟨rfl, rfl⟩
        go_wp2_with fail
        go_ret
        exact ⟨by rw [hN.out]; rfl, rfl⟩
      · cases y
        · have hN := Lib.hid (hno rfl)
          clear hno hnext
          go_wp2_with fail
          refine (h1.out _).mono ?_
          rintro e w' ⟨rfl, rfl⟩
          go_wp2_with fail
          refine (h2.out _).mono ?_
          rintro e w' ⟨rfl, rfl⟩
          go_wp2_with fail
          go_ret
          exact ⟨by rw [hN.out]; rfl, rfl⟩
        · have hn2 := Lib.hid (hnext rfl)
          clear hno hnext
          go_wp2_with fail
          refine (h1.out _).mono ?_
          rintro e w' ⟨rfl, rfl⟩
          go_wp2_with fail
          refine (h2.out _).mono ?_
          rintro e w' ⟨rfl, rfl⟩
          go_wp2_with fail
          go_roundw
          case rel => exact ⟨k + 1, by go_num, by omega, trivial, hn2.out⟩
          case measure => simp [intOf]; omega
    · have he : k = n := by omega
      subst he
      have hlt' : ¬ ((k : Int) < (k : Int)) := by omega
      have hN := Lib.hid (seqB_yes hall)
      clear h hall HI
      cases h60 : decide (k ≤ 60)
      · have h60' : ¬ ((k : Int) ≤ 60) := by have := of_decide_eq_false h60; omega
        go_wp2_with fail
        go_ret
        exact ⟨by rw [hN.out, h60]; rfl, rfl⟩
      · have h60' : (k : Int) ≤ 60 := by have := of_decide_eq_true h60; omega
        go_wp2_with fail
        go_ret
        exact ⟨by rw [hN.out, h60]; rfl, rfl⟩

end Go.Proofs.Ytlglbinalocilaa
