/- Walks: lists of pulses held against each other, marked, and looked at again. -/
import Derived.Test.YtojcdhnpdinbpaaGreatDoorP1
import Derived.StillTailTactics
namespace Go.Proofs.YtojcdhnpdinbpaaGreatDoor
open Go.RowKit

theorem tail_still {P : Program} {id : Nat} {Q : Exit → Act → World → Prop} {a : Act} {w : World} {l : List Oper} (n : Nat) (hm : P.follows .mixedOrders = true) (hB : Region.lexTailB .any l.toArray n = true)
    (h : wpStill P l.toArray w.drew (fun a' => wpList P l.toArray Q (l.drop n) a' w.drew) (l.take n) a) : (Code.region id l.toArray true).wp P Q a w := wp_region_still_tail n hm hB h

/-- Marks. -/
def mk (k : Nat) (j : Nat) : Pu := ⟨(k : Int) + 3 * (j : Int), (k : Int) + 3 * (j : Int) + 1, ((k : Int) + 3 * (j : Int) + 1 + 1) % 3 == 0⟩

/-- All but one block as it was. -/
structure But (w w' : World) (B : Nat) : Prop where
  os : w'.os = w.os
  tape : w'.tape = w.tape
  output : w'.output = w.output
  size : w.heap.size ≤ w'.heap.size
  block : ∀ b, b < w.heap.size → b ≠ B → w'.heap[b]? = w.heap[b]?

theorem But.refl (w : World) (B : Nat) : But w w B := ⟨rfl, rfl, rfl, Nat.le_refl _, fun _ _ _ => rfl⟩

theorem But.put {w w' : World} {B : Nat} (h : But w w' B) (i : Nat) (v : Value) : But w (w'.setCell ⟨B, i, none⟩ v) B :=
  ⟨h.os, h.tape, h.output, by have := h.size; simpa [World.setCell] using this, fun b hb hne => (Below.heap_setCell w' ⟨B, i, none⟩ v b hne).trans (h.block b hb hne)⟩

theorem But.below {w w' W : World} {B : Nat} (h : But w w' B) (hb : Below W.heap.size W w) (hB : W.heap.size ≤ B) : Below W.heap.size W w' :=
  ⟨h.os.trans hb.os, h.tape.trans hb.tape, h.output.trans hb.output, Nat.le_trans hb.size h.size, fun k hk => (h.block k (Nat.lt_of_lt_of_le hk hb.size) (by omega)).trans (hb.block k hk)⟩

theorem row_but {w w' : World} {B C N : Nat} {P : Nat → Pu} (h : Row w C N P) (hb : But w w' B) (hne : C ≠ B) : Row w' C N P := row_block h (hb.block C (row_lt h) hne)
