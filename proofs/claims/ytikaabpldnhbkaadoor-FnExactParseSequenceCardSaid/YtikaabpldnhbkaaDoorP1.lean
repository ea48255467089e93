/- Walks: lists of pulses: read, copied, held against each other, marked. -/
import Derived.Test.YtikaabpldnhbkaaDoorRows
import Derived.WalkKit
import Derived.WalkSpells
import Derived.WalkLawsBesides
import Derived.LoopTactic
import Derived.Below
import Derived.Lib.Hide
import Derived.Deep.OwnRows
namespace Go.Proofs.YtikaabpldnhbkaaDoor
open Go.RowKit

/-- A pulse. -/
structure Pu where
  ax : Int
  ha : Int
  bk : Bool
  deriving DecidableEq, Inhabited

def Pu.v (p : Pu) : Value := .agg #[.int .i64 p.ax, .int .i64 p.ha, .bool p.bk]

/-- A list of n pulses, as it lies in memory. -/
def Rd (w : World) (v : Value) (n : Nat) (P : Nat → Pu) : Prop :=
  ∃ a cap, v = .slice a n cap ∧ (0 < n → ∃ b off, a = some ⟨b, off, none⟩ ∧ b < w.heap.size ∧
    ∀ i, i < n → w.cell? ⟨b, off + i * 3, none⟩ = some (.int .i64 (P i).ax) ∧ w.cell? ⟨b, off + i * 3 + 1, none⟩ = some (.int .i64 (P i).ha) ∧ w.cell? ⟨b, off + i * 3 + 2, none⟩ = some (.bool (P i).bk))

theorem rd_below {w w' : World} {v : Value} {n : Nat} {P : Nat → Pu} (h : Rd w v n P) (hb : Below w.heap.size w w') : Rd w' v n P := by
  obtain ⟨a, cap, rfl, h⟩ := h
  refine ⟨a, cap, rfl, fun h0 => ?_⟩
  obtain ⟨b, off, rfl, hl, hc⟩ := h h0
  refine ⟨b, off, rfl, Nat.lt_of_lt_of_le hl hb.size, fun i hi => ?_⟩
  obtain ⟨c0, c1, c2⟩ := hc i hi
  exact ⟨(hb.cell (p := ⟨b, _, none⟩) hl).trans c0, (hb.cell (p := ⟨b, _, none⟩) hl).trans c1, (hb.cell (p := ⟨b, _, none⟩) hl).trans c2⟩

theorem szPulseS_any (a : Option Addr) (n cap : Nat) (l : Int) (w : World) (hl : 0 ≤ l) (hl2 : l < 4294967296) (hn : n < 9223372036854775808) :
    Calls Tryd.prog 5 #[.slice a n cap, .int .i64 l] w fun e w' => e = .returned (.int .i64 (if (n : Int) ≤ l then l - n else -1)) ∧ w = w' := by
  by_cases h : (n : Int) ≤ l
  · rw [if_pos h]
    have h' : 0 ≤ l - n := by omega
    go_enter Tryd.func5, Tryd.ntmps5
    go_wp2
    go_ret
    exact ⟨rfl, rfl⟩
  · rw [if_neg h]
    have h' : l - n < 0 := by omega
    go_enter Tryd.func5, Tryd.ntmps5
    go_wp2
    go_ret
    exact ⟨rfl, rfl⟩

theorem toPulse_any (p : Pu) (w : World) :
    Calls Tryd.prog 16 #[p.v] w fun e w' => e = .returned p.v ∧ Below w.heap.size w w' := by
  obtain ⟨x, y, z⟩ := p
  unfold Pu.v
  go_enter Tryd.func16, Tryd.ntmps16
  go_wp2
  refine bodyPost_ret (v := .agg #[.int .i64 x, .int .i64 y, .bool z]) (by simp [results, Tryd.results16, go_sem]) rfl ⟨rfl, ?_⟩
  all_goals repeat first
    | exact Below.refl _ _
    | refine Below.setCell ?_ ?_ _
    | refine Below.alloc ?_ ?_ _
  all_goals first | omega | (simp; done) | (simp; omega)

theorem eqPulse_any (p q : Pu) (w : World) :
    Calls Tryd.prog 20 #[p.v, q.v] w fun e w' => e = .returned (.bool (decide (p = q))) ∧ Below w.heap.size w w' := by
  obtain ⟨x, y, z⟩ := p
  obtain ⟨x', y', z'⟩ := q
  unfold Pu.v
  have hd : decide (Pu.mk x y z = Pu.mk x' y' z') = (decide (x = x') && decide (y = y') && decide (z = z')) := by
    simp only [Pu.mk.injEq, Bool.decide_and, Bool.and_assoc]
  rw [hd]
  clear hd
  cases h1 : decide (x = x')
  · have h1' := of_decide_eq_false h1
    simp only [Bool.false_and]
    go_enter Tryd.func20, Tryd.ntmps20
    go_wp2
    go_ret
    exact ⟨rfl, ((Below.refl _ _).alloc (Nat.le_refl _) _).alloc (by simp) _⟩
  · have h1' := of_decide_eq_true h1
    cases h2 : decide (y = y')
    · have h2' := of_decide_eq_false h2
      simp only [Bool.true_and, Bool.false_and]
      go_enter Tryd.func20, Tryd.ntmps20
      go_wp2
      go_ret
      exact ⟨rfl, ((Below.refl _ _).alloc (Nat.le_refl _) _).alloc (by simp) _⟩
    · have h2' := of_decide_eq_true h2
      simp only [Bool.true_and]
      cases z <;> cases z'
      all_goals
        go_enter Tryd.func20, Tryd.ntmps20
        go_wp2
        go_ret
        exact ⟨rfl, ((Below.refl _ _).alloc (Nat.le_refl _) _).alloc (by simp) _⟩

/-- The cells of a list of pulses. -/
def pc (P : Nat → Pu) (j : Nat) : Value := if j % 3 = 0 then .int .i64 (P (j / 3)).ax else if j % 3 = 1 then .int .i64 (P (j / 3)).ha else .bool (P (j / 3)).bk

theorem pc0 (P : Nat → Pu) (i : Nat) : pc P (i * 3) = .int .i64 (P i).ax := by
  unfold pc
  rw [if_pos (by omega), show i * 3 / 3 = i by omega]

theorem pc1 (P : Nat → Pu) (i : Nat) : pc P (i * 3 + 1) = .int .i64 (P i).ha := by
  unfold pc
  rw [if_neg (by omega), if_pos (by omega), show (i * 3 + 1) / 3 = i by omega]

theorem pc2 (P : Nat → Pu) (i : Nat) : pc P (i * 3 + 2) = .bool (P i).bk := by
  unfold pc
  rw [if_neg (by omega), if_neg (by omega), show (i * 3 + 2) / 3 = i by omega]

/-- A list of pulses in a block of its own, at its beginning. -/
def Row (w : World) (B N : Nat) (P : Nat → Pu) : Prop := ∃ M f, N * 3 ≤ M ∧ w.rowIs B 37 M f ∧ ∀ j, j < N * 3 → f j = pc P j

theorem row_cell {w : World} {B N j : Nat} {P : Nat → Pu} (h : Row w B N P) (hj : j < N * 3) : w.cell? ⟨B, j, none⟩ = some (pc P j) := by
  obtain ⟨M, f, h1, h2, h3⟩ := h
  rw [← h3 j hj]
  exact World.rowIs.cell h2 (by omega)

theorem row_frozen {w : World} {B N : Nat} {P : Nat → Pu} (h : Row w B N P) (j : Nat) : w.frozen? ⟨B, j, none⟩ = false := by
  obtain ⟨M, f, h1, h2, h3⟩ := h
  exact World.rowIs.frozen h2 j

theorem row_lt {w : World} {B N : Nat} {P : Nat → Pu} (h : Row w B N P) : B < w.heap.size := by
  obtain ⟨M, f, h1, h2, h3⟩ := h
  exact World.rowIs.lt h2

theorem row_block {w w' : World} {B N : Nat} {P : Nat → Pu} (h : Row w B N P) (e : w'.heap[B]? = w.heap[B]?) : Row w' B N P := by
  obtain ⟨M, f, h1, h2, h3⟩ := h
  exact ⟨M, f, h1, World.rowIs.of_block h2 e, h3⟩

theorem row_rd {w : World} {B N n cap : Nat} {P : Nat → Pu} (h : Row w B N P) (hn : n ≤ N) : Rd w (.slice (some ⟨B, 0, none⟩) n cap) n P := by
  refine ⟨_, cap, rfl, fun _ => ⟨B, 0, rfl, row_lt h, fun i hi => ?_⟩⟩
  rw [Nat.zero_add]
  exact ⟨(row_cell h (by omega)).trans (by rw [pc0]), (row_cell h (by omega)).trans (by rw [pc1]), (row_cell h (by omega)).trans (by rw [pc2])⟩

theorem row_put {w : World} {B N i : Nat} {P : Nat → Pu} (h : Row w B N P) (p : Pu) :
    Row (((w.setCell ⟨B, i * 3, none⟩ (.int .i64 p.ax)).setCell ⟨B, i * 3 + 1, none⟩ (.int .i64 p.ha)).setCell ⟨B, i * 3 + 2, none⟩ (.bool p.bk)) B N (fun j => if j = i then p else P j) := by
  obtain ⟨M, f, h1, h2, h3⟩ := h
  refine ⟨M, _, h1, ((World.rowIs.set h2 (i * 3) _).set (i * 3 + 1) _).set (i * 3 + 2) _, ?_⟩
  intro j hj
  show (if j = i * 3 + 2 then Value.bool p.bk else if j = i * 3 + 1 then Value.int .i64 p.ha else if j = i * 3 then Value.int .i64 p.ax else f j) = _
  rw [h3 j hj]
  by_cases h0 : j / 3 = i
  · unfold pc
    simp only [h0, if_true]
    rcases (show j = i * 3 ∨ j = i * 3 + 1 ∨ j = i * 3 + 2 by omega) with rfl | rfl | rfl
    · rw [if_neg (by omega), if_neg (by omega), if_pos rfl, if_pos (by omega)]
    · rw [if_neg (by omega), if_pos rfl, if_neg (by omega), if_pos (by omega)]
    · rw [if_pos rfl, if_neg (by omega), if_neg (by omega)]
  · rw [if_neg (by omega), if_neg (by omega), if_neg (by omega)]
    unfold pc
    simp only [h0, if_false]

theorem row_alloc {w : World} {B N : Nat} {P : Nat → Pu} (h : Row w B N P) (o : Obj) : Row (w.alloc o) B N P := by
  obtain ⟨M, f, h1, h2, h3⟩ := h
  exact ⟨M, f, h1, World.rowIs.alloc h2 o, h3⟩

theorem row_below {w w' : World} {B N : Nat} {P : Nat → Pu} (h : Row w B N P) (hb : Below w.heap.size w w') : Row w' B N P := row_block h (hb.block B (row_lt h))

theorem row_congr {w : World} {B N : Nat} {P Q : Nat → Pu} (h : Row w B N P) (e : ∀ i, i < N → P i = Q i) : Row w B N Q := by
  obtain ⟨M, f, h1, h2, h3⟩ := h
  refine ⟨M, f, h1, h2, fun j hj => (h3 j hj).trans ?_⟩
  unfold pc
  rw [e (j / 3) (by omega)]

def noPu : Pu := ⟨0, 0, false⟩

theorem row_made (w : World) (n : Nat) : Row (w.alloc (.cells (madeCells #[.int .i64 0, .int .i64 0, .bool false] (n * 3)) 37)) w.heap.size n (fun _ => noPu) := by
  have := World.rowIs_alloc w (madeCells #[.int .i64 0, .int .i64 0, .bool false] (n * 3)) 37 (pc fun _ => noPu) (fun i hi => by
    rw [size_madeCells] at hi
    unfold pc noPu
    rcases (show i % 3 = 0 ∨ i % 3 = 1 ∨ i % 3 = 2 by omega) with h | h | h
    · simp [madeCells, hi, h]
    · simp [madeCells, hi, h]
    · simp [madeCells, hi, h])
  rw [size_madeCells] at this
  exact ⟨_, _, Nat.le_refl _, this, fun _ _ => rfl⟩

theorem infoPulse : (Tryd.prog.info? 37).map (fun i => (i.zero, i.size, i.bytes)) = some (some (.agg #[.int .i64 0, .int .i64 0, .bool false]), 3, 24) := by kernel_rfl

theorem make_pulses (n : Nat) (hn : n ≤ 1048576) (w : World) :
    (Instr.makeSlice 26 (.int .i64 (n : Int)) (.int .i64 (n : Int))).run Tryd.prog w = .ok (.slice (some ⟨w.heap.size, 0, none⟩) n n) (w.alloc (.cells (madeCells #[.int .i64 0, .int .i64 0, .bool false] (n * 3)) 37)) := by
  have hi := infoPulse
  obtain ⟨i, hi1, hi2⟩ := Option.map_eq_some_iff.1 hi
  obtain ⟨z1, z2, z3⟩ : i.zero = _ ∧ i.size = 3 ∧ i.bytes = 24 := by simpa only [Prod.mk.injEq] using hi2
  have := run_make (P := Tryd.prog) w 26 37 i _ Tryd.underlying26 hi1 z1 .i64 .i64 n n (by omega) (Int.le_refl _) (by rw [z3]; omega) (by omega)
  rw [z2] at this
  have hc : (Value.agg #[.int .i64 0, .int .i64 0, .bool false]).cells = #[.int .i64 0, .int .i64 0, .bool false] := by kernel_rfl
  rw [hc] at this
  simpa using this

set_option maxRecDepth 100000 in
set_option maxHeartbeats 1000000 in
theorem toPulseS_ok {w : World} {v : Value} {n : Nat} {P : Nat → Pu} (h : Rd w v n P) (hn : n ≤ 1048576) :
    Calls Tryd.prog 7 #[v] w fun e w' => e = .returned (.slice (some ⟨w.heap.size, 0, none⟩) n n) ∧ Below w.heap.size w w' ∧ Row w' w.heap.size n P := by
  have hmk := make_pulses n hn
  obtain ⟨a, cap, rfl, h⟩ := h
  go_enter Tryd.func7, Tryd.ntmps7
  go_wp2_with fail
  have hrow := row_made w n
  generalize madeCells #[Value.int .i64 0, .int .i64 0, .bool false] (n * 3) = cs at *
  go_loopw [4] (fun i wr => ∃ k : Nat, i = .int .i64 k ∧ k ≤ n ∧ Below w.heap.size w wr ∧ Row wr w.heap.size n (fun j => if j < k then P j else noPu)) (fun i _ => n - (intOf i).toNat)
  case atStart => exact ⟨0, rfl, Nat.zero_le _, (Below.refl _ _).alloc (Nat.le_refl _) _, row_congr hrow (fun i _ => by simp)⟩
  case round =>
    obtain ⟨k, rfl, hk, hb, hr⟩ := hrel
    by_cases hlt : k < n
    · obtain ⟨b, off, rfl, hl, hc⟩ := h (by omega)
      obtain ⟨c0, c1, c2⟩ := hc k hlt
      rw [← hb.cell (p := ⟨b, _, none⟩) hl] at c0 c1 c2
      have hl2 : b < wr.heap.size := Nat.lt_of_lt_of_le hl hb.size
      have HB := Lib.hid hb
      have HR := Lib.hid hr
      have hlt' : (k : Int) < (n : Int) := by omega
      clear hb hr hc h hmk hrow
      go_wp2_with fail
      refine (toPulse_any (P k) wr).mono ?_
      rintro e w2 ⟨rfl, hb2⟩
      have hr2 := row_below HR.out hb2
      have s0 := row_cell hr2 (j := k * 3) (by omega)
      have s1 := row_cell hr2 (j := k * 3 + 1) (by omega)
      have s2 := row_cell hr2 (j := k * 3 + 2) (by omega)
      have f0 := row_frozen hr2 (k * 3)
      have f1 := row_frozen hr2 (k * 3 + 1)
      have f2 := row_frozen hr2 (k * 3 + 2)
      have hz : w.heap.size < w2.heap.size := row_lt hr2
      have HB2 := Lib.hid (HB.out.trans (hb2.mono HB.out.size))
      have HR2 := Lib.hid hr2
      clear hb2 hr2
      unfold Pu.v
      go_wp2_with fail
      go_roundw
      case rel =>
        refine ⟨k + 1, by go_num, by omega, ?_, ?_⟩
        · exact ((HB2.out.setCell (Nat.le_refl _) _).setCell (Nat.le_refl _) _).setCell (Nat.le_refl _) _
        · refine row_congr (row_put HR2.out (P k) (i := k)) ?_
          intro j _
          by_cases h1 : j = k
          · subst h1; simp
          · by_cases h2 : j < k
            · rw [if_neg h1, if_pos h2, if_pos (by omega)]
            · rw [if_neg h1, if_neg h2, if_neg (by omega)]
      case measure => simp [intOf]; omega
    · have he : k = n := by omega
      subst he
      have hlt' : ¬ ((k : Int) < (k : Int)) := by omega
      have HB := Lib.hid hb
      have HR := Lib.hid (row_congr hr (Q := P) (fun i hi => by simp [hi]))
      clear hb hr hmk hrow h
      go_wp2_with fail
      go_ret
      exact ⟨rfl, HB.out, HR.out⟩
end Go.Proofs.YtikaabpldnhbkaaDoor
