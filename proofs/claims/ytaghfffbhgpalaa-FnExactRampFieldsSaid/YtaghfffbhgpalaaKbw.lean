/- Lists of vectors: marked and held. Lists of vectors in memory of their own: marked and held. -/
import Derived.Test.YtaghfffbhgpalaaVs
namespace Go.Proofs.Ytaghfffbhgpalaa
open Go.RowKit

theorem marks_self3 : ((List.range 1310).all fun j => FloatKind.f32.format.order (floatOfInt .f32 (j : Nat)) (floatOfInt .f32 (j : Nat)) == some .eq) = true := by decide +kernel

theorem mark_self3 (j : Nat) (h : j < 1310) : (FloatKind.f32.format.order (floatOfInt .f32 (j : Int)) (floatOfInt .f32 (j : Int)) == some .eq) = true := List.all_eq_true.1 marks_self3 j (List.mem_range.2 h)

theorem row_marked {w : World} {B N k j : Nat} {F : Nat → Value} (h : w.rowIs B 27 N (fun r => if r < j then .float .f32 (floatOfInt .f32 ((k : Int) + (r : Int))) else F r)) :
    (w.setCell ⟨B, j, none⟩ (.float .f32 (floatOfInt .f32 ((k : Int) + (j : Int))))).rowIs B 27 N (fun r => if r < j + 1 then .float .f32 (floatOfInt .f32 ((k : Int) + (r : Int))) else F r) := by
  refine World.rowIs.congr (World.rowIs.set h j _) ?_
  intro r _
  by_cases h1 : r = j
  · subst h1; simp
  · by_cases h2 : r < j
    · rw [if_neg h1, if_pos h2, if_pos (by omega)]
    · rw [if_neg h1, if_neg h2, if_neg (by omega)]

set_option maxRecDepth 100000 in
set_option maxHeartbeats 2000000 in
theorem markVectorS_ok {w : World} {B N m cap k : Nat} {F : Nat → Value} (h : w.rowIs B 27 N F) (hN : 3 * m ≤ N) (hm : m ≤ 400) (hk : k ≤ 4) :
    Calls Try.prog 9 #[.slice (some ⟨B, 0, none⟩) m cap, .int .i64 k] w fun e w' => e = .returned (.int .i64 (k + 3 * m : Nat)) ∧ But w w' B ∧ w'.rowIs B 27 N (fun j => if j < 3 * m then .float .f32 (floatOfInt .f32 ((k : Int) + (j : Int))) else F j) := by
  go_enter Try.func9, Try.ntmps9
  go_wp2_with fail
  go_loopw [1, 5] (fun q i wr => ∃ j : Nat, i = .int .i64 j ∧ q = .int .i64 ((k : Int) + 3 * (j : Int)) ∧ j ≤ m ∧ But w wr B ∧ wr.rowIs B 27 N (fun r => if r < 3 * j then .float .f32 (floatOfInt .f32 ((k : Int) + (r : Int))) else F r)) (fun _ i _ => m - (intOf i).toNat)
  case atStart => exact ⟨0, rfl, by simp, Nat.zero_le _, But.refl _ _, World.rowIs.congr h (fun i _ => by simp)⟩
  case round =>
    obtain ⟨j, rfl, rfl, hj, hb, hr⟩ := hrel
    by_cases hlt : j < m
    · have HB := Lib.hid hb
      have HR := Lib.hid hr
      have hlt' : (j : Int) < (m : Int) := by omega
      clear hb hr h
      go_wp2_with fail
      go_loopw [1, 6] (fun q t wr => ∃ u : Nat, t = .int .i64 u ∧ q = .int .i64 ((k : Int) + 3 * (j : Int) + (u : Int)) ∧ u ≤ 3 ∧ But w wr B ∧ wr.rowIs B 27 N (fun r => if r < 3 * j + u then .float .f32 (floatOfInt .f32 ((k : Int) + (r : Int))) else F r)) (fun _ t _ => 3 - (intOf t).toNat)
      case atStart => exact ⟨0, rfl, by simp, Nat.zero_le _, HB.out, HR.out⟩
      case round =>
        obtain ⟨u, rfl, rfl, hu, hb2, hr2⟩ := hrel
        match u, hu with
        | 0, _ =>
          have s0 := World.rowIs.cell hr2 (i := j * 3) (by omega)
          have f0 := World.rowIs.frozen hr2 (j * 3)
          have hz : B < wr.heap.size := World.rowIs.lt hr2
          have HB2 := Lib.hid hb2
          have HR2 := Lib.hid hr2
          clear hb2 hr2
          go_wp2_with fail
          go_roundw
          case rel =>
            refine ⟨1, by go_num, by go_num, by omega, HB2.out.put _ _, ?_⟩
            refine World.rowIs.congr (World.rowIs.set HR2.out (j * 3) _) ?_
            intro r _
            by_cases h1 : r = j * 3
            · subst h1
              rw [if_pos rfl, if_pos (by omega)]
              exact congrArg (fun z : Int => Value.float .f32 (floatOfInt .f32 z)) (by omega)
            · rw [if_neg h1]
              by_cases h2 : r < 3 * j + 0
              · rw [if_pos h2, if_pos (by omega)]
              · rw [if_neg h2, if_neg (by omega)]
          case measure => simp [intOf]
        | 1, _ =>
          have s0 := World.rowIs.cell hr2 (i := j * 3 + 1) (by omega)
          have f0 := World.rowIs.frozen hr2 (j * 3 + 1)
          have hz : B < wr.heap.size := World.rowIs.lt hr2
          have HB2 := Lib.hid hb2
          have HR2 := Lib.hid hr2
          clear hb2 hr2
          go_wp2_with fail
          go_roundw
          case rel =>
            refine ⟨2, by go_num, by go_num, by omega, HB2.out.put _ _, ?_⟩
            refine World.rowIs.congr (World.rowIs.set HR2.out (j * 3 + 1) _) ?_
            intro r _
            by_cases h1 : r = j * 3 + 1
            · subst h1
              rw [if_pos rfl, if_pos (by omega)]
              exact congrArg (fun z : Int => Value.float .f32 (floatOfInt .f32 z)) (by omega)
            · rw [if_neg h1]
              by_cases h2 : r < 3 * j + 1
              · rw [if_pos h2, if_pos (by omega)]
              · rw [if_neg h2, if_neg (by omega)]
          case measure => simp [intOf]
        | 2, _ =>
          have s0 := World.rowIs.cell hr2 (i := j * 3 + 2) (by omega)
          have f0 := World.rowIs.frozen hr2 (j * 3 + 2)
          have hz : B < wr.heap.size := World.rowIs.lt hr2
          have HB2 := Lib.hid hb2
          have HR2 := Lib.hid hr2
          clear hb2 hr2
          go_wp2_with fail
          go_roundw
          case rel =>
            refine ⟨3, by go_num, by go_num, by omega, HB2.out.put _ _, ?_⟩
            refine World.rowIs.congr (World.rowIs.set HR2.out (j * 3 + 2) _) ?_
            intro r _
            by_cases h1 : r = j * 3 + 2
            · subst h1
              rw [if_pos rfl, if_pos (by omega)]
              exact congrArg (fun z : Int => Value.float .f32 (floatOfInt .f32 z)) (by omega)
            · rw [if_neg h1]
              by_cases h2 : r < 3 * j + 2
              · rw [if_pos h2, if_pos (by omega)]
              · rw [if_neg h2, if_neg (by omega)]
          case measure => simp [intOf]
        | 3, _ =>
          have HB2 := Lib.hid hb2
          have HR2 := Lib.hid hr2
          clear hb2 hr2
          go_wp2_with fail
          go_roundw
          case rel => exact ⟨j + 1, by go_num, by go_num, by omega, HB2.out, by rw [show 3 * (j + 1) = 3 * j + 3 by omega]; exact HR2.out⟩
          case measure => simp [intOf]; omega
    · have he : j = m := by omega
      subst he
      have hlt' : ¬ ((j : Int) < (j : Int)) := by omega
      have HB := Lib.hid hb
      have HR := Lib.hid hr
      clear hb hr h
      go_wp2_with fail
      go_ret
      exact ⟨by simp, HB.out, HR.out⟩

set_option maxRecDepth 100000 in
set_option maxHeartbeats 2000000 in
theorem heldVectorS_ok {w : World} {a : Option Addr} {m cap k : Nat} (h : RdW w (.slice a m cap) m (fun i => .float .f32 (floatOfInt .f32 ((k : Int) + (i : Int))))) (hm : m ≤ 400) (hk : k ≤ 4) :
    Calls Try.prog 10 #[.slice a m cap, .int .i64 k] w fun e w' => e = .returned (.int .i64 (k + 3 * m : Nat)) ∧ w = w' := by
  go_enter Try.func10, Try.ntmps10
  go_wp2_with fail
  go_loopw [1, 5] (fun q i wr => ∃ j : Nat, i = .int .i64 j ∧ q = .int .i64 ((k : Int) + 3 * (j : Int)) ∧ j ≤ m ∧ w = wr) (fun _ i _ => m - (intOf i).toNat)
  case atStart => exact ⟨0, rfl, by simp, Nat.zero_le _, rfl⟩
  case round =>
    obtain ⟨j, rfl, rfl, hj, rfl⟩ := hrel
    by_cases hlt : j < m
    · obtain ⟨_, _, hv, h⟩ := h
      injection hv with q1 _ q3
      subst q1 q3
      obtain ⟨B, rfl, hl, hc⟩ := h (by omega)
      have hlt' : (j : Int) < (m : Int) := by omega
      clear h
      go_wp2_with fail
      go_loopw [1, 6] (fun q t wr => ∃ u : Nat, t = .int .i64 u ∧ q = .int .i64 ((k : Int) + 3 * (j : Int) + (u : Int)) ∧ u ≤ 3 ∧ w = wr) (fun _ t _ => 3 - (intOf t).toNat)
      case atStart => exact ⟨0, rfl, by simp, Nat.zero_le _, rfl⟩
      case round =>
        obtain ⟨u, rfl, rfl, hu, rfl⟩ := hrel
        match u, hu with
        | 0, _ =>
          have s0 : w.cell? ⟨B, j * 3, none⟩ = some (.float .f32 (floatOfInt .f32 ((k : Int) + 3 * (j : Int) + ((0 : Nat) : Int)))) := by
            rw [hc (j * 3) (by omega)]
            exact congrArg (fun z : Int => some (Value.float .f32 (floatOfInt .f32 z))) (by omega)
          have hsf := mark_self3 (k + 3 * j + 0) (by omega)
          rw [show (((k + 3 * j + 0 : Nat)) : Int) = (k : Int) + 3 * (j : Int) + ((0 : Nat) : Int) by omega] at hsf
          have hsf2 : FloatKind.f32.format.order (floatOfInt .f32 ((k : Int) + 3 * (j : Int) + ((0 : Nat) : Int))) (floatOfInt .f32 ((k : Int) + 3 * (j : Int) + ((0 : Nat) : Int))) = some .eq := by simpa using hsf
          simp at s0 hsf hsf2
          go_wp2_with fail
          go_roundw
          case rel => exact ⟨1, by go_num, by go_num, by omega, trivial⟩
          case measure => simp [intOf]
        | 1, _ =>
          have s0 : w.cell? ⟨B, j * 3 + 1, none⟩ = some (.float .f32 (floatOfInt .f32 ((k : Int) + 3 * (j : Int) + ((1 : Nat) : Int)))) := by
            rw [hc (j * 3 + 1) (by omega)]
            exact congrArg (fun z : Int => some (Value.float .f32 (floatOfInt .f32 z))) (by omega)
          have hsf := mark_self3 (k + 3 * j + 1) (by omega)
          rw [show (((k + 3 * j + 1 : Nat)) : Int) = (k : Int) + 3 * (j : Int) + ((1 : Nat) : Int) by omega] at hsf
          have hsf2 : FloatKind.f32.format.order (floatOfInt .f32 ((k : Int) + 3 * (j : Int) + ((1 : Nat) : Int))) (floatOfInt .f32 ((k : Int) + 3 * (j : Int) + ((1 : Nat) : Int))) = some .eq := by simpa using hsf
          simp at s0 hsf hsf2
          go_wp2_with fail
          go_roundw
          case rel => exact ⟨2, by go_num, by go_num, by omega, trivial⟩
          case measure => simp [intOf]
        | 2, _ =>
          have s0 : w.cell? ⟨B, j * 3 + 2, none⟩ = some (.float .f32 (floatOfInt .f32 ((k : Int) + 3 * (j : Int) + ((2 : Nat) : Int)))) := by
            rw [hc (j * 3 + 2) (by omega)]
            exact congrArg (fun z : Int => some (Value.float .f32 (floatOfInt .f32 z))) (by omega)
          have hsf := mark_self3 (k + 3 * j + 2) (by omega)
          rw [show (((k + 3 * j + 2 : Nat)) : Int) = (k : Int) + 3 * (j : Int) + ((2 : Nat) : Int) by omega] at hsf
          have hsf2 : FloatKind.f32.format.order (floatOfInt .f32 ((k : Int) + 3 * (j : Int) + ((2 : Nat) : Int))) (floatOfInt .f32 ((k : Int) + 3 * (j : Int) + ((2 : Nat) : Int))) = some .eq := by simpa using hsf
          simp at s0 hsf hsf2
          go_wp2_with fail
          go_roundw
          case rel => exact ⟨3, by go_num, by go_num, by omega, trivial⟩
          case measure => simp [intOf]
        | 3, _ =>
          clear hc
          go_wp2_with fail
          go_roundw
          case rel => exact ⟨j + 1, by go_num, by go_num, by omega, trivial⟩
          case measure => simp [intOf]; omega
    · have he : j = m := by omega
      subst he
      have hlt' : ¬ ((j : Int) < (j : Int)) := by omega
      clear h
      go_wp2_with fail
      go_ret
      exact ⟨by simp, rfl⟩

end Go.Proofs.Ytaghfffbhgpalaa

namespace Go.Proofs.Ytaghfffbhgpalaa
open Go.RowKit

theorem ownw_save {w w' : World} {v : Value} {m lo hi lo' hi' : Nat} {F : Nat → Value} (h : OwnW w v m F lo hi) (hs : Save w w' lo' hi') (hne : hi ≤ lo' ∨ hi' ≤ lo) : OwnW w' v m F lo hi := by
  obtain ⟨a, cap, rfl, hh, h⟩ := h
  refine ⟨a, cap, rfl, Nat.le_trans hh hs.size, fun h0 => ?_⟩
  obtain ⟨B, N, f, rfl, h1, h2, h3, h4, h5⟩ := h h0
  exact ⟨B, N, f, rfl, h1, h2, h3, World.rowIs.of_block h4 (hs.block B (World.rowIs.lt h4) (by omega)), h5⟩

theorem markVectorS_none (a : Option Addr) (cap k : Nat) (w : World) :
    Calls Try.prog 9 #[.slice a 0 cap, .int .i64 k] w fun e w' => e = .returned (.int .i64 k) ∧ w = w' := by
  go_enter Try.func9, Try.ntmps9
  go_wp2_with fail
  go_loopw [1, 5] (fun q i wr => i = .int .i64 0 ∧ q = .int .i64 k ∧ w = wr) (fun _ i _ => 0)
  case atStart => exact ⟨rfl, rfl, rfl⟩
  case round =>
    obtain ⟨rfl, rfl, rfl⟩ := hrel
    go_wp2_with fail
    go_ret
    exact ⟨rfl, rfl⟩

theorem mark_VectorS {w : World} {v : Value} {m lo hi k : Nat} {F : Nat → Value} (h : OwnW w v m F lo hi) (hm : m ≤ 400) (hk : k ≤ 4) :
    Calls Try.prog 9 #[v, .int .i64 k] w fun e w' => e = .returned (.int .i64 (k + 3 * m : Nat)) ∧ OwnW w' v m (fun i => .float .f32 (floatOfInt .f32 ((k : Int) + (i : Int)))) lo hi ∧ Save w w' lo hi := by
  obtain ⟨a, cap, rfl, hh, h⟩ := h
  by_cases h0 : m = 0
  · subst h0
    refine (markVectorS_none a cap k w).mono ?_
    rintro e w' ⟨rfl, rfl⟩
    exact ⟨by simp, ⟨a, cap, rfl, hh, fun g => absurd g (Nat.lt_irrefl _)⟩, ⟨rfl, rfl, rfl, Nat.le_refl _, fun _ _ _ => rfl⟩⟩
  · obtain ⟨B, N, f, rfl, h1, h2, h3, h4, h5⟩ := h (by omega)
    refine (markVectorS_ok h4 h3 hm hk).mono ?_
    rintro e w' ⟨rfl, hb, hr⟩
    exact ⟨rfl, ⟨_, cap, rfl, Nat.le_trans hh hb.size, fun _ => ⟨B, N, _, rfl, h1, h2, h3, hr, fun i hi => by rw [if_pos hi]⟩⟩, ⟨hb.os, hb.tape, hb.output, hb.size, fun b hb1 hb2 => hb.block b hb1 (by omega)⟩⟩

theorem held_VectorS {w : World} {v : Value} {m lo hi k : Nat} (h : OwnW w v m (fun i => .float .f32 (floatOfInt .f32 ((k : Int) + (i : Int)))) lo hi) (hm : m ≤ 400) (hk : k ≤ 4) :
    Calls Try.prog 10 #[v, .int .i64 k] w fun e w' => e = .returned (.int .i64 (k + 3 * m : Nat)) ∧ w = w' := by
  obtain ⟨a, cap, rfl, _⟩ := id h
  exact heldVectorS_ok (ownw_rd h) hm hk

end Go.Proofs.Ytaghfffbhgpalaa
