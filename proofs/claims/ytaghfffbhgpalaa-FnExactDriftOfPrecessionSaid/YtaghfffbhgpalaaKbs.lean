/- Lists of one-cell values of the call's own: int64 and float32. Lists of float32 held against each other, marked, looked at again. The law of DriftOfPrecession, over what both functions answer. -/
import Derived.Test.YtaghfffbhgpalaaKbr
import Derived.Test.YtaghfffbhgpalaaKax
import Derived.Test.YtaghfffbhgpalaaKaf
import Derived.Test.YtaghfffbhgpalaaKal
import Derived.BigQuiet
import Derived.Deep.QuietTactic
import Derived.WalkSmall
import Derived.Laws.Cover2
namespace Go.Proofs.Ytaghfffbhgpalaa
open Go.RowKit

/-- A list of m values at the beginning of a block between lo and hi, or empty. -/
def OwnV (T : TypeId) (w : World) (v : Value) (m : Nat) (F : Nat → Value) (lo hi : Nat) : Prop :=
  ∃ a cap, v = .slice a m cap ∧ hi ≤ w.heap.size ∧ (0 < m → ∃ B N f, a = some ⟨B, 0, none⟩ ∧ lo ≤ B ∧ B < hi ∧ m ≤ N ∧ w.rowIs B T N f ∧ ∀ i, i < m → f i = F i)

theorem ownv_below {T : TypeId} {w w' : World} {v : Value} {m lo hi : Nat} {F : Nat → Value} (h : OwnV T w v m F lo hi) (hb : Below w.heap.size w w') : OwnV T w' v m F lo hi := by
  obtain ⟨a, cap, rfl, hh, h⟩ := h
  refine ⟨a, cap, rfl, Nat.le_trans hh hb.size, fun h0 => ?_⟩
  obtain ⟨B, N, f, rfl, h1, h2, h3, h4, h5⟩ := h h0
  exact ⟨B, N, f, rfl, h1, h2, h3, World.rowIs.of_block h4 (hb.block B (World.rowIs.lt h4)), h5⟩

theorem ownv_save {T : TypeId} {w w' : World} {v : Value} {m lo hi lo' hi' : Nat} {F : Nat → Value} (h : OwnV T w v m F lo hi) (hs : Save w w' lo' hi') (hne : hi ≤ lo' ∨ hi' ≤ lo) : OwnV T w' v m F lo hi := by
  obtain ⟨a, cap, rfl, hh, h⟩ := h
  refine ⟨a, cap, rfl, Nat.le_trans hh hs.size, fun h0 => ?_⟩
  obtain ⟨B, N, f, rfl, h1, h2, h3, h4, h5⟩ := h h0
  exact ⟨B, N, f, rfl, h1, h2, h3, World.rowIs.of_block h4 (hs.block B (World.rowIs.lt h4) (by omega)), h5⟩

theorem ownv_wide {T : TypeId} {w : World} {v : Value} {m lo hi lo' : Nat} {F : Nat → Value} (h : OwnV T w v m F lo hi) (hl : lo' ≤ lo) : OwnV T w v m F lo' hi := by
  obtain ⟨a, cap, rfl, hh, h⟩ := h
  refine ⟨a, cap, rfl, hh, fun h0 => ?_⟩
  obtain ⟨B, N, f, rfl, h1, h2, h3, h4, h5⟩ := h h0
  exact ⟨B, N, f, rfl, by omega, h2, h3, h4, h5⟩

theorem ownv_congr {T : TypeId} {w : World} {v : Value} {m lo hi : Nat} {F G : Nat → Value} (h : OwnV T w v m F lo hi) (e : ∀ i, i < m → F i = G i) : OwnV T w v m G lo hi := by
  obtain ⟨a, cap, rfl, hh, h⟩ := h
  refine ⟨a, cap, rfl, hh, fun h0 => ?_⟩
  obtain ⟨B, N, f, rfl, h1, h2, h3, h4, h5⟩ := h h0
  exact ⟨B, N, f, rfl, h1, h2, h3, h4, fun i hi => (h5 i hi).trans (e i hi)⟩

theorem ownv_none (T : TypeId) (w : World) (F : Nat → Value) (lo : Nat) : OwnV T w (.slice none 0 0) 0 F lo w.heap.size := ⟨none, 0, rfl, Nat.le_refl _, fun h0 => absurd h0 (Nat.lt_irrefl _)⟩

/-- A list that is read. -/
def RdV (w : World) (v : Value) (m : Nat) (F : Nat → Value) : Prop :=
  ∃ a cap, v = .slice a m cap ∧ (0 < m → ∃ B, a = some ⟨B, 0, none⟩ ∧ B < w.heap.size ∧ ∀ i, i < m → w.cell? ⟨B, i, none⟩ = some (F i))

theorem ownv_rd {T : TypeId} {w : World} {v : Value} {m lo hi : Nat} {F : Nat → Value} (h : OwnV T w v m F lo hi) : RdV w v m F := by
  obtain ⟨a, cap, rfl, hh, h⟩ := h
  refine ⟨a, cap, rfl, fun h0 => ?_⟩
  obtain ⟨B, N, f, rfl, h1, h2, h3, h4, h5⟩ := h h0
  exact ⟨B, rfl, by omega, fun i hi => by rw [← h5 i hi]; exact World.rowIs.cell h4 (by omega)⟩

/-- What a function from a list of pulses to a list of values and a code hands back. -/
def GivesV (T : TypeId) (f : FuncId) (n : Nat) (P : Nat → Pu) (m : Nat) (F : Nat → Value) (code : Int) : Prop :=
  ∀ (w : World) (b off cap : Nat), n ≤ cap → Rd w (.slice (some ⟨b, off, none⟩) n cap) n P → Calls Try.prog f #[.slice (some ⟨b, off, none⟩) n cap] w fun e w' => ∃ u, e = .returned (.tuple #[u, .int .i64 code]) ∧ Below w.heap.size w w' ∧ OwnV T w' u m F w.heap.size w'.heap.size

end Go.Proofs.Ytaghfffbhgpalaa

namespace Go.Proofs.Ytaghfffbhgpalaa
open Go.RowKit

theorem same_call0 {P : Program} {f : FuncId} {args : Array Value} {v : Value} (c : ∀ W : World, Calls P f args W fun e W' => e = .returned v ∧ W = W') {w : World} (n : Nat) :
    Calls P f args (w.drewN n) fun e w' => e = .returned v ∧ ∃ m, w' = w.drewN m :=
  (c (w.drewN n)).mono fun _ _ ⟨he, hw⟩ => ⟨he, n, hw.symm⟩

set_option maxRecDepth 100000 in
set_option maxHeartbeats 2000000 in
theorem eqFloat32S_ok {w : World} {v v' : Value} {m : Nat} {X : Nat → Nat} (h : RdV w v m (fun i => .float .f32 (X i))) (h' : RdV w v' m (fun i => .float .f32 (X i))) (hm : m ≤ 400) (hX : ∀ i, i < m → X i < 4294967296 ∧ fin (X i) = true) :
    Calls Try.prog 13 #[v, v'] w fun e w' => e = .returned (.bool true) ∧ Below w.heap.size w w' := by
  obtain ⟨a, cap, rfl, h⟩ := h
  obtain ⟨a', cap', rfl, h'⟩ := h'
  go_enter Try.func13, Try.ntmps13
  go_wp2_with fail
  go_loopw [5] (fun i wr => ∃ k : Nat, i = .int .i64 k ∧ k ≤ m ∧ Below w.heap.size w wr) (fun i _ => m - (intOf i).toNat)
  case atStart => exact ⟨0, rfl, Nat.zero_le _, Below.refl _ _⟩
  case round =>
    obtain ⟨k, rfl, hk, hb⟩ := hrel
    by_cases hlt : k < m
    · obtain ⟨B, rfl, hl, hc⟩ := h (by omega)
      obtain ⟨B', rfl, hl', hc'⟩ := h' (by omega)
      have c := (hb.cell (p := ⟨B, k, none⟩) hl).trans (hc k hlt)
      have d := (hb.cell (p := ⟨B', k, none⟩) hl').trans (hc' k hlt)
      obtain ⟨y, cv, sm⟩ := same_word (X k) (hX k hlt).1 (hX k hlt).2
      have HSm := Lib.hid sm
      have HB := Lib.hid hb
      have hlt' : (k : Int) < (m : Int) := by omega
      clear hb hc hc' h h' sm hX
      go_wp2_with fail
      go_quiet ((go_at_call 31; exact same_call0 HSm.out _))
      go_wp2_with fail
      go_roundw
      case rel => exact ⟨k + 1, by go_num, by omega, by exact Go.below_drewN HB.out _⟩
      case measure => simp [intOf]; omega
    · have he : k = m := by omega
      subst he
      have hlt' : ¬ ((k : Int) < (k : Int)) := by omega
      have HB := Lib.hid hb
      clear hb h h'
      go_wp2_with fail
      go_ret
      exact ⟨rfl, HB.out⟩

theorem marks_self : ((List.range 410).all fun j => FloatKind.f32.format.order (floatOfInt .f32 (j : Nat)) (floatOfInt .f32 (j : Nat)) == some .eq) = true := by decide +kernel

theorem mark_self (j : Nat) (h : j < 410) : (FloatKind.f32.format.order (floatOfInt .f32 (j : Int)) (floatOfInt .f32 (j : Int)) == some .eq) = true := List.all_eq_true.1 marks_self j (List.mem_range.2 h)

set_option maxRecDepth 100000 in
set_option maxHeartbeats 1000000 in
theorem markFloat32S_ok {w : World} {B N m cap k : Nat} {F : Nat → Value} (h : w.rowIs B 22 N F) (hN : m ≤ N) (hm : m ≤ 400) (hk : k ≤ 4) :
    Calls Try.prog 14 #[.slice (some ⟨B, 0, none⟩) m cap, .int .i64 k] w fun e w' => e = .returned (.int .i64 (k + m : Nat)) ∧ But w w' B ∧ w'.rowIs B 22 N (fun j => if j < m then .float .f32 (floatOfInt .f32 ((k : Int) + (j : Int))) else F j) := by
  go_enter Try.func14, Try.ntmps14
  go_wp2_with fail
  go_loopw [1, 5] (fun q i wr => ∃ j : Nat, i = .int .i64 j ∧ q = .int .i64 ((k : Int) + (j : Int)) ∧ j ≤ m ∧ But w wr B ∧ wr.rowIs B 22 N (fun r => if r < j then .float .f32 (floatOfInt .f32 ((k : Int) + (r : Int))) else F r)) (fun _ i _ => m - (intOf i).toNat)
  case atStart => exact ⟨0, rfl, by simp, Nat.zero_le _, But.refl _ _, World.rowIs.congr h (fun i _ => by simp)⟩
  case round =>
    obtain ⟨j, rfl, rfl, hj, hb, hr⟩ := hrel
    by_cases hlt : j < m
    · have s0 := World.rowIs.cell hr (i := j) (by omega)
      have f0 := World.rowIs.frozen hr j
      have hz : B < wr.heap.size := World.rowIs.lt hr
      have HB := Lib.hid hb
      have HR := Lib.hid hr
      have hlt' : (j : Int) < (m : Int) := by omega
      clear hb hr h
      go_wp2_with fail
      go_roundw
      case rel =>
        refine ⟨j + 1, by go_num, by go_num, by omega, HB.out.put _ _, ?_⟩
        refine World.rowIs.congr (World.rowIs.set HR.out j _) ?_
        intro r _
        by_cases h1 : r = j
        · subst h1; simp
        · by_cases h2 : r < j
          · rw [if_neg h1, if_pos h2, if_pos (by omega)]
          · rw [if_neg h1, if_neg h2, if_neg (by omega)]
      case measure => simp [intOf]; omega
    · have he : j = m := by omega
      subst he
      have hlt' : ¬ ((j : Int) < (j : Int)) := by omega
      have HB := Lib.hid hb
      have HR := Lib.hid hr
      clear hb hr h
      go_wp2_with fail
      go_ret
      exact ⟨by simp, HB.out, HR.out⟩

set_option maxRecDepth 100000 in
set_option maxHeartbeats 1000000 in
theorem heldFloat32S_ok {w : World} {a : Option Addr} {m cap k : Nat} (h : RdV w (.slice a m cap) m (fun i => .float .f32 (floatOfInt .f32 ((k : Int) + (i : Int))))) (hm : m ≤ 400) (hk : k ≤ 4) :
    Calls Try.prog 15 #[.slice a m cap, .int .i64 k] w fun e w' => e = .returned (.int .i64 (k + m : Nat)) ∧ w = w' := by
  go_enter Try.func15, Try.ntmps15
  go_wp2_with fail
  go_loopw [1, 5] (fun q i wr => ∃ j : Nat, i = .int .i64 j ∧ q = .int .i64 ((k : Int) + (j : Int)) ∧ j ≤ m ∧ w = wr) (fun _ i _ => m - (intOf i).toNat)
  case atStart => exact ⟨0, rfl, by simp, Nat.zero_le _, rfl⟩
  case round =>
    obtain ⟨j, rfl, rfl, hj, rfl⟩ := hrel
    by_cases hlt : j < m
    · obtain ⟨_, _, hv, h⟩ := h
      injection hv with q1 _ q3
      subst q1 q3
      obtain ⟨B, rfl, hl, hc⟩ := h (by omega)
      have s0 : w.cell? ⟨B, j, none⟩ = some (.float .f32 (floatOfInt .f32 ((k : Int) + (j : Int)))) := hc j hlt
      have hlt' : (j : Int) < (m : Int) := by omega
      have hsf := mark_self (k + j) (by omega)
      rw [show (((k + j : Nat)) : Int) = (k : Int) + (j : Int) by omega] at hsf
      have hsf2 : FloatKind.f32.format.order (floatOfInt .f32 ((k : Int) + (j : Int))) (floatOfInt .f32 ((k : Int) + (j : Int))) = some .eq := by simpa using hsf
      clear hc h
      go_wp2_with fail
      go_roundw
      case rel => exact ⟨j + 1, by go_num, by go_num, by omega, trivial⟩
      case measure => simp [intOf]; omega
    · have he : j = m := by omega
      subst he
      have hlt' : ¬ ((j : Int) < (j : Int)) := by omega
      clear h
      go_wp2_with fail
      go_ret
      exact ⟨by simp, rfl⟩

theorem markFloat32S_none (a : Option Addr) (cap k : Nat) (w : World) :
    Calls Try.prog 14 #[.slice a 0 cap, .int .i64 k] w fun e w' => e = .returned (.int .i64 k) ∧ w = w' := by
  go_enter Try.func14, Try.ntmps14
  go_wp2_with fail
  go_loopw [1, 5] (fun q i wr => i = .int .i64 0 ∧ q = .int .i64 k ∧ w = wr) (fun _ i _ => 0)
  case atStart => exact ⟨rfl, rfl, rfl⟩
  case round =>
    obtain ⟨rfl, rfl, rfl⟩ := hrel
    go_wp2_with fail
    go_ret
    exact ⟨rfl, rfl⟩

theorem mark_Float32S {w : World} {v : Value} {m lo hi k : Nat} {F : Nat → Value} (h : OwnV 22 w v m F lo hi) (hm : m ≤ 400) (hk : k ≤ 4) :
    Calls Try.prog 14 #[v, .int .i64 k] w fun e w' => e = .returned (.int .i64 (k + m : Nat)) ∧ OwnV 22 w' v m (fun i => .float .f32 (floatOfInt .f32 ((k : Int) + (i : Int)))) lo hi ∧ Save w w' lo hi := by
  obtain ⟨a, cap, rfl, hh, h⟩ := h
  by_cases h0 : m = 0
  · subst h0
    refine (markFloat32S_none a cap k w).mono ?_
    rintro e w' ⟨rfl, rfl⟩
    exact ⟨by simp, ⟨a, cap, rfl, hh, fun g => absurd g (Nat.lt_irrefl _)⟩, ⟨rfl, rfl, rfl, Nat.le_refl _, fun _ _ _ => rfl⟩⟩
  · obtain ⟨B, N, f, rfl, h1, h2, h3, h4, h5⟩ := h (by omega)
    refine (markFloat32S_ok h4 h3 hm hk).mono ?_
    rintro e w' ⟨rfl, hb, hr⟩
    exact ⟨rfl, ⟨_, cap, rfl, Nat.le_trans hh hb.size, fun _ => ⟨B, N, _, rfl, h1, h2, h3, hr, fun i hi => by rw [if_pos hi]⟩⟩, ⟨hb.os, hb.tape, hb.output, hb.size, fun b hb1 hb2 => hb.block b hb1 (by omega)⟩⟩

theorem held_Float32S {w : World} {v : Value} {m lo hi k : Nat} (h : OwnV 22 w v m (fun i => .float .f32 (floatOfInt .f32 ((k : Int) + (i : Int)))) lo hi) (hm : m ≤ 400) (hk : k ≤ 4) :
    Calls Try.prog 15 #[v, .int .i64 k] w fun e w' => e = .returned (.int .i64 (k + m : Nat)) ∧ w = w' := by
  obtain ⟨a, cap, rfl, _⟩ := id h
  exact heldFloat32S_ok (ownv_rd h) hm hk

end Go.Proofs.Ytaghfffbhgpalaa

namespace Go.Proofs.Ytaghfffbhgpalaa
open Go.RowKit

/-- A list of m numbers in new memory, and a code. -/
def GivesD (f : FuncId) (a b c h : Nat) (n : Int) (m : Nat) (X : Nat → Nat) (code : Int) : Prop :=
  ∀ w : World, Calls Try.prog f #[.agg #[.float .f32 a, .float .f32 b, .float .f32 c], .float .f32 h, .int .i64 n] w fun e w' => ∃ u, e = .returned (.tuple #[u, .int .i64 code]) ∧ Below w.heap.size w w' ∧ OwnV 22 w' u m (fun i => .float .f32 (X i)) w.heap.size w'.heap.size

theorem vec_at {W w' : World} {B a b c : Nat} (h0 : W.cell? ⟨B, 0, none⟩ = some (.float .f32 a)) (h1 : W.cell? ⟨B, 1, none⟩ = some (.float .f32 b)) (h2 : W.cell? ⟨B, 2, none⟩ = some (.float .f32 c)) (hl : B < W.heap.size) (hb : Below W.heap.size W w') :
    w'.cell? ⟨B, 0, none⟩ = some (.float .f32 a) ∧ w'.cell? ⟨B, 1, none⟩ = some (.float .f32 b) ∧ w'.cell? ⟨B, 2, none⟩ = some (.float .f32 c) :=
  ⟨(hb.cell (p := ⟨B, 0, none⟩) hl).trans h0, (hb.cell (p := ⟨B, 1, none⟩) hl).trans h1, (hb.cell (p := ⟨B, 2, none⟩) hl).trans h2⟩

set_option maxRecDepth 100000 in
set_option maxHeartbeats 4000000 in
theorem law_drift {a b c h m : Nat} {n code : Int} {X : Nat → Nat} (hm : m ≤ 400) (hX : ∀ i, i < m → X i < 4294967296 ∧ fin (X i) = true) (SP0 : GivesD 11 a b c h n m X code) (IM0 : GivesD 12 a b c h n m X code) (w : World) :
    Calls Try.prog 4 #[.agg #[.float .f32 a, .float .f32 b, .float .f32 c], .float .f32 h, .int .i64 n] w fun e w' => e = .returned (.bool true) ∧ Below w.heap.size w w' := by
  have SP := Lib.hid SP0
  have IM := Lib.hid IM0
  have TV := Lib.hid (fun w => toVector_any a b c w)
  clear SP0 IM0
  go_enter Try.func4, Try.ntmps4
  go_wp2_with fail
  generalize hW : w.alloc (.cells #[.float .f32 a, .float .f32 b, .float .f32 c] 23) = W
  have i0 := Lib.hid (show W.cell? ⟨w.heap.size, 0, none⟩ = some (.float .f32 a) by subst hW; simp [go_sem])
  have i1 := Lib.hid (show W.cell? ⟨w.heap.size, 1, none⟩ = some (.float .f32 b) by subst hW; simp [go_sem])
  have i2 := Lib.hid (show W.cell? ⟨w.heap.size, 2, none⟩ = some (.float .f32 c) by subst hW; simp [go_sem])
  have hsz : W.heap.size = w.heap.size + 1 := by subst hW; simp
  have HW := Lib.hid (show Below w.heap.size w W by subst hW; exact (Below.refl _ _).alloc (Nat.le_refl _) _)
  clear hW
  refine (TV.out _).mono ?_
  rintro e w1 ⟨rfl, hb⟩
  have B1 := Lib.hid hb
  have hl : w.heap.size < W.heap.size := by omega
  have z1 : W.heap.size ≤ w1.heap.size := by have := hb.size; omega
  clear hb
  obtain ⟨c0, c1, c2⟩ := vec_at i0.out i1.out i2.out hl B1.out
  go_wp2_with fail
  refine (SP.out _).mono ?_
  rintro e w2 ⟨u, rfl, hb, ho⟩
  have B2 := Lib.hid (B1.out.trans (hb.mono z1))
  have z2 : W.heap.size ≤ w2.heap.size := by have := hb.size; omega
  have O2 := Lib.hid ho
  clear hb ho c0 c1 c2
  obtain ⟨c0, c1, c2⟩ := vec_at i0.out i1.out i2.out hl B2.out
  go_wp2_with fail
  refine (TV.out _).mono ?_
  rintro e w3 ⟨rfl, hb⟩
  have B3 := Lib.hid (B2.out.trans (hb.mono z2))
  have z3 : W.heap.size ≤ w3.heap.size := by have := hb.size; omega
  have z23 : w2.heap.size ≤ w3.heap.size := hb.size
  have O3 := Lib.hid (ownv_below O2.out hb)
  clear hb c0 c1 c2
  go_wp2_with fail
  refine (IM.out _).mono ?_
  rintro e w4 ⟨g, rfl, hb, ho⟩
  have B4 := Lib.hid (B3.out.trans (hb.mono z3))
  have z4 : W.heap.size ≤ w4.heap.size := by have := hb.size; omega
  have z34 : w3.heap.size ≤ w4.heap.size := hb.size
  have G4 := Lib.hid ho
  have O4 := Lib.hid (ownv_below O3.out hb)
  clear hb ho
  go_wp2_with fail
  refine (eqFloat32S_ok (ownv_rd G4.out) (ownv_rd O4.out) hm hX).mono ?_
  rintro e w5 ⟨rfl, hb⟩
  have B5 := Lib.hid (B4.out.trans (hb.mono z4))
  have z5 : W.heap.size ≤ w5.heap.size := by have := hb.size; omega
  have G5 := Lib.hid (ownv_below G4.out hb)
  have O5 := Lib.hid (ownv_below O4.out hb)
  clear hb
  go_wp2_with fail
  refine (mark_Float32S G5.out hm (show 1 ≤ 4 by omega)).mono ?_
  rintro e w6 ⟨rfl, ho, hs⟩
  have B6 := Lib.hid (hs.below B5.out z3)
  have O6 := Lib.hid (ownv_save O5.out hs (by first | exact .inl (by omega) | exact .inr (by omega)))
  have G6 := Lib.hid ho
  have z6 : W.heap.size ≤ w6.heap.size := B6.out.size
  clear ho hs
  go_wp2_with fail
  refine (held_Float32S G6.out hm (show 1 ≤ 4 by omega)).mono ?_
  rintro e w' ⟨rfl, rfl⟩
  obtain ⟨c0, c1, c2⟩ := vec_at i0.out i1.out i2.out hl B6.out
  go_wp2_with fail
  refine (TV.out _).mono ?_
  rintro e w7 ⟨rfl, hb⟩
  have B7 := Lib.hid (B6.out.trans (hb.mono z6))
  have z7 : W.heap.size ≤ w7.heap.size := by have := hb.size; omega
  have G7 := Lib.hid (ownv_below G6.out hb)
  have O7 := Lib.hid (ownv_below O6.out hb)
  clear hb c0 c1 c2
  go_wp2_with fail
  refine (IM.out _).mono ?_
  rintro e w8 ⟨g8, rfl, hb, ho⟩
  have B8 := Lib.hid (B7.out.trans (hb.mono z7))
  have z8 : W.heap.size ≤ w8.heap.size := by have := hb.size; omega
  have G8 := Lib.hid (ownv_below G7.out hb)
  have O8 := Lib.hid (ownv_below O7.out hb)
  have U8 := Lib.hid ho
  clear hb ho
  go_wp2_with fail
  refine (eqFloat32S_ok (ownv_rd U8.out) (ownv_rd O8.out) hm hX).mono ?_
  rintro e w9 ⟨rfl, hb⟩
  have B9 := Lib.hid (B8.out.trans (hb.mono z8))
  have G9 := Lib.hid (ownv_below G8.out hb)
  clear hb
  go_wp2_with fail
  refine (held_Float32S G9.out hm (show 1 ≤ 4 by omega)).mono ?_
  rintro e w' ⟨rfl, rfl⟩
  go_wp2_with fail
  go_ret
  exact ⟨rfl, HW.out.trans (B9.out.mono (by omega))⟩

end Go.Proofs.Ytaghfffbhgpalaa
