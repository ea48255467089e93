/- Walks: lists of pulses: read, copied, held against each other, marked. -/
import Derived.Test.YtibmaflcfmphgaaRows
import Derived.WalkKit
import Derived.WalkSpells
import Derived.WalkLawsBesides
import Derived.LoopTactic
import Derived.Below
import Derived.Lib.Hide
import Derived.Deep.OwnRows
namespace Go.Proofs.Ytibmaflcfmphgaa
open Go.RowKit

/-- A pulse. -/
structure Pu where
  ax : Int
  ha : Int
  bk : Bool
  deriving DecidableEq, Inhabited

def Pu.v (p : Pu) : Value := .agg #[.int .i64 p.ax, .int .i64 p.ha, .bool p.bk]

/-- A list of n pulses, as it lies in memory. -/
def Rd (w : World) (v : Value) (n : Nat) (P : Nat → Pu) : Prop :=
  ∃ a cap, v = .slice a n cap ∧ (0 < n → ∃ b off, a = some ⟨b, off, none⟩ ∧ b < w.heap.size ∧
    ∀ i, i < n → w.cell? ⟨b, off + i * 3, none⟩ = some (.int .i64 (P i).ax) ∧ w.cell? ⟨b, off + i * 3 + 1, none⟩ = some (.int .i64 (P i).ha) ∧ w.cell? ⟨b, off + i * 3 + 2, none⟩ = some (.bool (P i).bk))

theorem rd_below {w w' : World} {v : Value} {n : Nat} {P : Nat → Pu} (h : Rd w v n P) (hb : Below w.heap.size w w') : Rd w' v n P := by
  obtain ⟨a, cap, rfl, h⟩ := h
  refine ⟨a, cap, rfl, fun h0 => ?_⟩
  obtain ⟨b, off, rfl, hl, hc⟩ := h h0
  refine ⟨b, off, rfl, Nat.lt_of_lt_of_le hl hb.size, fun i hi => ?_⟩
  obtain ⟨c0, c1, c2⟩ := hc i hi
  exact ⟨(hb.cell (p := ⟨b, _, none⟩) hl).trans c0, (hb.cell (p := ⟨b, _, none⟩) hl).trans c1, (hb.cell (p := ⟨b, _, none⟩) hl).trans c2⟩

/-- The cells of a list of pulses. -/
def pc (P : Nat → Pu) (j : Nat) : Value := if j % 3 = 0 then .int .i64 (P (j / 3)).ax else if j % 3 = 1 then .int .i64 (P (j / 3)).ha else .bool (P (j / 3)).bk

theorem pc0 (P : Nat → Pu) (i : Nat) : pc P (i * 3) = .int .i64 (P i).ax := by
  unfold pc
  rw [if_pos (by omega), show i * 3 / 3 = i by omega]

theorem pc1 (P : Nat → Pu) (i : Nat) : pc P (i * 3 + 1) = .int .i64 (P i).ha := by
  unfold pc
  rw [if_neg (by omega), if_pos (by omega), show (i * 3 + 1) / 3 = i by omega]

theorem pc2 (P : Nat → Pu) (i : Nat) : pc P (i * 3 + 2) = .bool (P i).bk := by
  unfold pc
  rw [if_neg (by omega), if_neg (by omega), show (i * 3 + 2) / 3 = i by omega]

def noPu : Pu := ⟨0, 0, false⟩
