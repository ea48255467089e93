/- Walks: lists of pulses: read, copied, held against each other, marked. -/
import Derived.Test.YtojcdhnpdinbpaaGreatDoorRows
import Derived.WalkKit
import Derived.WalkSpells
import Derived.WalkLawsBesides
import Derived.LoopTactic
import Derived.Below
import Derived.Lib.Hide
import Derived.Deep.OwnRows
namespace Go.Proofs.YtojcdhnpdinbpaaGreatDoor
open Go.RowKit

/-- A pulse. -/
structure Pu where
  ax : Int
  ha : Int
  bk : Bool
  deriving DecidableEq, Inhabited

def Pu.v (p : Pu) : Value := .agg #[.int .i64 p.ax, .int .i64 p.ha, .bool p.bk]

/-- A list of n pulses, as it lies in memory. -/
def Rd (w : World) (v : Value) (n : Nat) (P : Nat → Pu) : Prop :=
  ∃ a cap, v = .slice a n cap ∧ (0 < n → ∃ b off, a = some ⟨b, off, none⟩ ∧ b < w.heap.size ∧
    ∀ i, i < n → w.cell? ⟨b, off + i * 3, none⟩ = some (.int .i64 (P i).ax) ∧ w.cell? ⟨b, off + i * 3 + 1, none⟩ = some (.int .i64 (P i).ha) ∧ w.cell? ⟨b, off + i * 3 + 2, none⟩ = some (.bool (P i).bk))

theorem rd_below {w w' : World} {v : Value} {n : Nat} {P : Nat → Pu} (h : Rd w v n P) (hb : Below w.heap.size w w') : Rd w' v n P := by
  obtain ⟨a, cap, rfl, h⟩ := h
  refine ⟨a, cap, rfl, fun h0 => ?_⟩
  obtain ⟨b, off, rfl, hl, hc⟩ := h h0
  refine ⟨b, off, rfl, Nat.lt_of_lt_of_le hl hb.size, fun i hi => ?_⟩
  obtain ⟨c0, c1, c2⟩ := hc i hi
  exact ⟨(hb.cell (p := ⟨b, _, none⟩) hl).trans c0, (hb.cell (p := ⟨b, _, none⟩) hl).trans c1, (hb.cell (p := ⟨b, _, none⟩) hl).trans c2⟩

/-- The cells of a list of pulses. -/
def pc (P : Nat → Pu) (j : Nat) : Value := if j % 3 = 0 then .int .i64 (P (j / 3)).ax else if j % 3 = 1 then .int .i64 (P (j / 3)).ha else .bool (P (j / 3)).bk

theorem pc0 (P : Nat → Pu) (i : Nat) : pc P (i * 3) = .int .i64 (P i).ax := by
  unfold pc
  rw [if_pos (by omega), show i * 3 / 3 = i by omega]

theorem pc1 (P : Nat → Pu) (i : Nat) : pc P (i * 3 + 1) = .int .i64 (P i).ha := by
  unfold pc
  rw [if_neg (by omega), if_pos (by omega), show (i * 3 + 1) / 3 = i by omega]

theorem pc2 (P : Nat → Pu) (i : Nat) : pc P (i * 3 + 2) = .bool (P i).bk := by
  unfold pc
  rw [if_neg (by omega), if_neg (by omega), show (i * 3 + 2) / 3 = i by omega]

/-- A list of pulses in a block of its own, at its beginning. -/
def Row (w : World) (B N : Nat) (P : Nat → Pu) : Prop := ∃ M f, N * 3 ≤ M ∧ w.rowIs B 43 M f ∧ ∀ j, j < N * 3 → f j = pc P j

theorem row_cell {w : World} {B N j : Nat} {P : Nat → Pu} (h : Row w B N P) (hj : j < N * 3) : w.cell? ⟨B, j, none⟩ = some (pc P j) := by
  obtain ⟨M, f, h1, h2, h3⟩ := h
  rw [← h3 j hj]
  exact World.rowIs.cell h2 (by omega)

theorem row_frozen {w : World} {B N : Nat} {P : Nat → Pu} (h : Row w B N P) (j : Nat) : w.frozen? ⟨B, j, none⟩ = false := by
  obtain ⟨M, f, h1, h2, h3⟩ := h
  exact World.rowIs.frozen h2 j

theorem row_lt {w : World} {B N : Nat} {P : Nat → Pu} (h : Row w B N P) : B < w.heap.size := by
  obtain ⟨M, f, h1, h2, h3⟩ := h
  exact World.rowIs.lt h2

theorem row_block {w w' : World} {B N : Nat} {P : Nat → Pu} (h : Row w B N P) (e : w'.heap[B]? = w.heap[B]?) : Row w' B N P := by
  obtain ⟨M, f, h1, h2, h3⟩ := h
  exact ⟨M, f, h1, World.rowIs.of_block h2 e, h3⟩

theorem row_rd {w : World} {B N n cap : Nat} {P : Nat → Pu} (h : Row w B N P) (hn : n ≤ N) : Rd w (.slice (some ⟨B, 0, none⟩) n cap) n P := by
  refine ⟨_, cap, rfl, fun _ => ⟨B, 0, rfl, row_lt h, fun i hi => ?_⟩⟩
  rw [Nat.zero_add]
  exact ⟨(row_cell h (by omega)).trans (by rw [pc0]), (row_cell h (by omega)).trans (by rw [pc1]), (row_cell h (by omega)).trans (by rw [pc2])⟩

theorem row_put {w : World} {B N i : Nat} {P : Nat → Pu} (h : Row w B N P) (p : Pu) :
    Row (((w.setCell ⟨B, i * 3, none⟩ (.int .i64 p.ax)).setCell ⟨B, i * 3 + 1, none⟩ (.int .i64 p.ha)).setCell ⟨B, i * 3 + 2, none⟩ (.bool p.bk)) B N (fun j => if j = i then p else P j) := by
  obtain ⟨M, f, h1, h2, h3⟩ := h
  refine ⟨M, _, h1, ((World.rowIs.set h2 (i * 3) _).set (i * 3 + 1) _).set (i * 3 + 2) _, ?_⟩
  intro j hj
  show (if j = i * 3 + 2 then Value.bool p.bk else if j = i * 3 + 1 then Value.int .i64 p.ha else if j = i * 3 then Value.int .i64 p.ax else f j) = _
  rw [h3 j hj]
  by_cases h0 : j / 3 = i
  · unfold pc
    simp only [h0, if_true]
    rcases (show j = i * 3 ∨ j = i * 3 + 1 ∨ j = i * 3 + 2 by omega) with rfl | rfl | rfl
    · rw [if_neg (by omega), if_neg (by omega), if_pos rfl, if_pos (by omega)]
    · rw [if_neg (by omega), if_pos rfl, if_neg (by omega), if_pos (by omega)]
    · rw [if_pos rfl, if_neg (by omega), if_neg (by omega)]
  · rw [if_neg (by omega), if_neg (by omega), if_neg (by omega)]
    unfold pc
    simp only [h0, if_false]

theorem row_alloc {w : World} {B N : Nat} {P : Nat → Pu} (h : Row w B N P) (o : Obj) : Row (w.alloc o) B N P := by
  obtain ⟨M, f, h1, h2, h3⟩ := h
  exact ⟨M, f, h1, World.rowIs.alloc h2 o, h3⟩

theorem row_below {w w' : World} {B N : Nat} {P : Nat → Pu} (h : Row w B N P) (hb : Below w.heap.size w w') : Row w' B N P := row_block h (hb.block B (row_lt h))

theorem row_congr {w : World} {B N : Nat} {P Q : Nat → Pu} (h : Row w B N P) (e : ∀ i, i < N → P i = Q i) : Row w B N Q := by
  obtain ⟨M, f, h1, h2, h3⟩ := h
  refine ⟨M, f, h1, h2, fun j hj => (h3 j hj).trans ?_⟩
  unfold pc
  rw [e (j / 3) (by omega)]

def noPu : Pu := ⟨0, 0, false⟩

theorem row_made (w : World) (n : Nat) : Row (w.alloc (.cells (madeCells #[.int .i64 0, .int .i64 0, .bool false] (n * 3)) 43)) w.heap.size n (fun _ => noPu) := by
  have := World.rowIs_alloc w (madeCells #[.int .i64 0, .int .i64 0, .bool false] (n * 3)) 43 (pc fun _ => noPu) (fun i hi => by
    rw [size_madeCells] at hi
    unfold pc noPu
    rcases (show i % 3 = 0 ∨ i % 3 = 1 ∨ i % 3 = 2 by omega) with h | h | h
    · simp [madeCells, hi, h]
    · simp [madeCells, hi, h]
    · simp [madeCells, hi, h])
  rw [size_madeCells] at this
  exact ⟨_, _, Nat.le_refl _, this, fun _ _ => rfl⟩

theorem infoPulse : (Tryz.prog.info? 43).map (fun i => (i.zero, i.size, i.bytes)) = some (some (.agg #[.int .i64 0, .int .i64 0, .bool false]), 3, 24) := by kernel_rfl

theorem make_pulses (n : Nat) (hn : n ≤ 1048576) (w : World) :
    (Instr.makeSlice 24 (.int .i64 (n : Int)) (.int .i64 (n : Int))).run Tryz.prog w = .ok (.slice (some ⟨w.heap.size, 0, none⟩) n n) (w.alloc (.cells (madeCells #[.int .i64 0, .int .i64 0, .bool false] (n * 3)) 43)) := by
  have hi := infoPulse
  obtain ⟨i, hi1, hi2⟩ := Option.map_eq_some_iff.1 hi
  obtain ⟨z1, z2, z3⟩ : i.zero = _ ∧ i.size = 3 ∧ i.bytes = 24 := by simpa only [Prod.mk.injEq] using hi2
  have := run_make (P := Tryz.prog) w 24 43 i _ Tryz.underlying24 hi1 z1 .i64 .i64 n n (by omega) (Int.le_refl _) (by rw [z3]; omega) (by omega)
  rw [z2] at this
  have hc : (Value.agg #[.int .i64 0, .int .i64 0, .bool false]).cells = #[.int .i64 0, .int .i64 0, .bool false] := by kernel_rfl
  rw [hc] at this
  simpa using this
