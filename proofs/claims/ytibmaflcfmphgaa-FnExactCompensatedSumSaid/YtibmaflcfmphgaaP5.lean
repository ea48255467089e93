/- Lists of pulses of the call's own: where they lie, marked and held. -/
import Derived.Test.YtibmaflcfmphgaaP4
namespace Go.Proofs.Ytibmaflcfmphgaa
open Go.RowKit

/-- What lies outside of lo to hi is as it was. -/
structure Save (w w' : World) (lo hi : Nat) : Prop where
  os : w'.os = w.os
  tape : w'.tape = w.tape
  output : w'.output = w.output
  size : w.heap.size ≤ w'.heap.size
  block : ∀ b, b < w.heap.size → (b < lo ∨ hi ≤ b) → w'.heap[b]? = w.heap[b]?

theorem Save.below {w w' W : World} {lo hi : Nat} (h : Save w w' lo hi) (hb : Below W.heap.size W w) (hl : W.heap.size ≤ lo) : Below W.heap.size W w' :=
  ⟨h.os.trans hb.os, h.tape.trans hb.tape, h.output.trans hb.output, Nat.le_trans hb.size h.size, fun k hk => (h.block k (Nat.lt_of_lt_of_le hk hb.size) (.inl (by omega))).trans (hb.block k hk)⟩

theorem rd_save {w w' W : World} {v : Value} {n lo hi : Nat} {P : Nat → Pu} (h : Rd W v n P) (hs : Save w w' lo hi) (hb : Below W.heap.size W w) (hl : W.heap.size ≤ lo) : Rd w' v n P := rd_below h (hs.below hb hl)
