/- Lists of pulses of the call's own: where they lie, marked and held. -/
import Derived.Test.YtojcdhnpdinbpaaGreatDoorP4
namespace Go.Proofs.YtojcdhnpdinbpaaGreatDoor
open Go.RowKit

/-- A list of m pulses at the beginning of a block between lo and hi, or empty. -/
def Own (w : World) (v : Value) (m : Nat) (P : Nat → Pu) (lo hi : Nat) : Prop :=
  ∃ a cap, v = .slice a m cap ∧ hi ≤ w.heap.size ∧ (0 < m → ∃ B N Q, a = some ⟨B, 0, none⟩ ∧ lo ≤ B ∧ B < hi ∧ m ≤ N ∧ Row w B N Q ∧ ∀ i, i < m → Q i = P i)

/-- What lies outside of lo to hi is as it was. -/
structure Save (w w' : World) (lo hi : Nat) : Prop where
  os : w'.os = w.os
  tape : w'.tape = w.tape
  output : w'.output = w.output
  size : w.heap.size ≤ w'.heap.size
  block : ∀ b, b < w.heap.size → (b < lo ∨ hi ≤ b) → w'.heap[b]? = w.heap[b]?

theorem Save.below {w w' W : World} {lo hi : Nat} (h : Save w w' lo hi) (hb : Below W.heap.size W w) (hl : W.heap.size ≤ lo) : Below W.heap.size W w' :=
  ⟨h.os.trans hb.os, h.tape.trans hb.tape, h.output.trans hb.output, Nat.le_trans hb.size h.size, fun k hk => (h.block k (Nat.lt_of_lt_of_le hk hb.size) (.inl (by omega))).trans (hb.block k hk)⟩

theorem own_below {w w' : World} {v : Value} {m lo hi : Nat} {P : Nat → Pu} (h : Own w v m P lo hi) (hb : Below w.heap.size w w') : Own w' v m P lo hi := by
  obtain ⟨a, cap, rfl, hh, h⟩ := h
  refine ⟨a, cap, rfl, Nat.le_trans hh hb.size, fun h0 => ?_⟩
  obtain ⟨B, N, Q, rfl, h1, h2, h3, h4, h5⟩ := h h0
  exact ⟨B, N, Q, rfl, h1, h2, h3, row_below h4 hb, h5⟩

theorem own_save {w w' : World} {v : Value} {m lo hi lo' hi' : Nat} {P : Nat → Pu} (h : Own w v m P lo hi) (hs : Save w w' lo' hi') (hne : hi ≤ lo' ∨ hi' ≤ lo) : Own w' v m P lo hi := by
  obtain ⟨a, cap, rfl, hh, h⟩ := h
  refine ⟨a, cap, rfl, Nat.le_trans hh hs.size, fun h0 => ?_⟩
  obtain ⟨B, N, Q, rfl, h1, h2, h3, h4, h5⟩ := h h0
  exact ⟨B, N, Q, rfl, h1, h2, h3, row_block h4 (hs.block B (row_lt h4) (by omega)), h5⟩

theorem rd_save {w w' W : World} {v : Value} {n lo hi : Nat} {P : Nat → Pu} (h : Rd W v n P) (hs : Save w w' lo hi) (hb : Below W.heap.size W w) (hl : W.heap.size ≤ lo) : Rd w' v n P := rd_below h (hs.below hb hl)

theorem own_rd {w : World} {v : Value} {m lo hi : Nat} {P : Nat → Pu} (h : Own w v m P lo hi) : Rd w v m P := by
  obtain ⟨a, cap, rfl, hh, h⟩ := h
  refine ⟨a, cap, rfl, fun h0 => ?_⟩
  obtain ⟨B, N, Q, rfl, h1, h2, h3, h4, h5⟩ := h h0
  obtain ⟨_, _, e, g⟩ := row_rd (cap := cap) h4 h3
  injection e with e1 e2 e3
  subst e1 e3
  obtain ⟨b, off, e4, g1, g2⟩ := g h0
  refine ⟨b, off, e4, g1, fun i hi => ?_⟩
  rw [← h5 i hi]
  exact g2 i hi

theorem row_own {w : World} {B n cap N : Nat} {P : Nat → Pu} (h : Row w B N P) (hn : n ≤ N) : Own w (.slice (some ⟨B, 0, none⟩) n cap) n P B w.heap.size :=
  ⟨_, cap, rfl, Nat.le_refl _, fun _ => ⟨B, N, P, rfl, Nat.le_refl _, row_lt h, hn, h, fun _ _ => rfl⟩⟩

theorem own_wide {w : World} {v : Value} {m lo hi lo' : Nat} {P : Nat → Pu} (h : Own w v m P lo hi) (hl : lo' ≤ lo) : Own w v m P lo' hi := by
  obtain ⟨a, cap, rfl, hh, h⟩ := h
  refine ⟨a, cap, rfl, hh, fun h0 => ?_⟩
  obtain ⟨B, N, Q, rfl, h1, h2, h3, h4, h5⟩ := h h0
  exact ⟨B, N, Q, rfl, by omega, h2, h3, h4, h5⟩
