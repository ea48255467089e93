/- Walks: the source of drawn numbers. -/
import Derived.Test.YtojcdhnpdinbpaaGreatDoorRows
import Derived.WalkKit
import Derived.WalkSpells
import Derived.WalkLawsBesides
import Derived.Laws.BitsAllLaws
import Derived.Deep.QuietTactic
import Derived.BigQuiet
import Derived.Lib.Hide
namespace Go.Proofs.YtojcdhnpdinbpaaGreatDoor
open Go.RowKit

theorem and_bound (q : Int) (h0 : 0 ≤ q) (h1 : q < 18446744073709551616) : ∃ y : Int, bits .and .u64 q 2147483647 = y ∧ 0 ≤ y ∧ y ≤ 2147483647 := by
  have h := Go.u64_and q 2147483647 h0 h1 (by omega) (by omega)
  refine ⟨_, h, by omega, ?_⟩
  have : q.toNat &&& (2147483647 : Int).toNat ≤ (2147483647 : Int).toNat := Nat.and_le_right
  omega

theorem u64_wrap_bd (q : Int) : 0 ≤ IntKind.u64.wrap q ∧ IntKind.u64.wrap q < 18446744073709551616 := by
  have : IntKind.u64.wrap q = q % 18446744073709551616 := rfl
  omega

/-- Of what there was in block numbers below another one's, and of blocks in all, nothing has turned; one block alone may. -/
def Only (B : Nat) (w w' : World) : Prop := w'.heap.size = w.heap.size ∧ ∀ k, k ≠ B → w'.heap[k]? = w.heap[k]?

/-- A list of bytes in memory that was there at first. -/
def Code (W0 : World) (c : Value) (len : Nat) : Prop :=
  ∃ a cap, c = .slice a len cap ∧ (0 < len → ∃ b off, a = some ⟨b, off, none⟩ ∧ b < W0.heap.size ∧ ∀ j : Int, 0 ≤ j → j < (len : Int) → ∃ z : Int, W0.cell? ⟨b, off + j.toNat, none⟩ = some (.int .u8 z) ∧ 0 ≤ z ∧ z < 256)

/-- A source of drawn numbers in a block of the call's own. -/
structure Src (W0 : World) (c : Value) (len : Nat) (B : Nat) (w : World) : Prop where
  old : Below W0.heap.size W0 w
  own : W0.heap.size ≤ B
  lies : B < w.heap.size
  code : w.cell? ⟨B, 0, none⟩ = some c
  at_hash : ∃ i h : Int, w.cell? ⟨B, 1, none⟩ = some (.int .i64 i) ∧ w.cell? ⟨B, 2, none⟩ = some (.int .u64 h) ∧ 0 ≤ i ∧ i ≤ (len : Int)
  free1 : w.frozen? ⟨B, 1, none⟩ = false
  free2 : w.frozen? ⟨B, 2, none⟩ = false

theorem only_set (B : Nat) (w : World) (o : Nat) (v : Value) : Only B w (w.setCell ⟨B, o, none⟩ v) :=
  ⟨by simp [World.setCell], fun k hk => Below.heap_setCell w ⟨B, o, none⟩ v k hk⟩

theorem Only.trans {B : Nat} {a b c : World} (h : Only B a b) (k : Only B b c) : Only B a c := ⟨k.1.trans h.1, fun i hi => (k.2 i hi).trans (h.2 i hi)⟩

theorem only_drewN (B : Nat) (w : World) (n : Nat) : Only B w (w.drewN n) := ⟨rfl, fun _ _ => rfl⟩

theorem below_drewN' {B : Nat} {a w : World} (h : Below B a w) (n : Nat) : Below B a (w.drewN n) := ⟨h.os, h.tape, h.output, h.size, h.block⟩

theorem Src.set2 {W0 : World} {c : Value} {len B : Nat} {w : World} (h : Src W0 c len B w) (h2 : Int) : Src W0 c len B (w.setCell ⟨B, 2, none⟩ (.int .u64 h2)) := by
  obtain ⟨a, b, d, e, ⟨i, g, f1, f2, f3, f4⟩, f5, f6⟩ := h
  refine ⟨a.setCell b _, b, by simpa [World.setCell] using d, ?_, ⟨i, h2, ?_, ?_, f3, f4⟩, ?_, ?_⟩
  · rw [World.cell?_setCell_other (h := by simp)]; exact e
  · rw [World.cell?_setCell_other (h := by simp)]; exact f1
  · exact World.cell?_setCell_same (h := f2) ..
  · rw [World.frozen?_setCell]; exact f5
  · rw [World.frozen?_setCell]; exact f6

theorem Src.set1 {W0 : World} {c : Value} {len B : Nat} {w : World} (h : Src W0 c len B w) (j : Int) (h0 : 0 ≤ j) (h1 : j ≤ (len : Int)) : Src W0 c len B (w.setCell ⟨B, 1, none⟩ (.int .i64 j)) := by
  obtain ⟨a, b, d, e, ⟨i, g, f1, f2, f3, f4⟩, f5, f6⟩ := h
  refine ⟨a.setCell b _, b, by simpa [World.setCell] using d, ?_, ⟨j, g, ?_, ?_, h0, h1⟩, ?_, ?_⟩
  · rw [World.cell?_setCell_other (h := by simp)]; exact e
  · exact World.cell?_setCell_same (h := f1) ..
  · rw [World.cell?_setCell_other (h := by simp)]; exact f2
  · rw [World.frozen?_setCell]; exact f5
  · rw [World.frozen?_setCell]; exact f6

theorem Src.drewN {W0 : World} {c : Value} {len B : Nat} {w : World} (h : Src W0 c len B w) (n : Nat) : Src W0 c len B (w.drewN n) :=
  ⟨below_drewN' h.old n, h.own, h.lies, h.code, h.at_hash, h.free1, h.free2⟩

def NextPost (W0 : World) (c : Value) (len B : Nat) (n : Int) (w : World) (e : Ending) (w' : World) : Prop := ∃ x : Int, e = .returned (.int .i64 x) ∧ 0 ≤ x ∧ x < n ∧ Src W0 c len B w' ∧ Only B w w'

set_option maxHeartbeats 400000 in
/-- The next number of a source. -/
theorem next_any (W0 : World) (c : Value) (len B : Nat) (n : Int) (w : World) (hcode : Code W0 c len) (hlen : (len : Int) ≤ 4096) (hs : Src W0 c len B w) (hn : 1 ≤ n) (hn2 : n < 2147483648) :
    Calls Tryz.prog 42 #[.pointer (some ⟨B, 0, none⟩), .int .i64 n] w (NextPost W0 c len B n w) := by
  have HS := Lib.hid hs
  obtain ⟨hold, hown, hlies, hc0, ⟨i, h, hc1, hc2, hi0, hi1⟩, hf1, hf2⟩ := hs
  obtain ⟨h1, e1⟩ : ∃ h1, IntKind.u64.wrap (h * 6364136223846793005) = h1 := ⟨_, rfl⟩
  obtain ⟨h2, e2⟩ : ∃ h2, IntKind.u64.wrap (h1 + 1442695040888963407) = h2 := ⟨_, rfl⟩
  have hb2 : 0 ≤ h2 ∧ h2 < 18446744073709551616 := by rw [← e2]; exact u64_wrap_bd _
  obtain ⟨y, e3, hy0, hy1⟩ := and_bound (h2 / 8589934592) (by omega) (by omega)
  clear hb2
  have HO := Lib.hid hold
  have HOwn := Lib.hid hown
  have HL := Lib.hid hlies
  clear hold hown hlies
  by_cases hlt : i < (len : Int)
  · obtain ⟨a, cap, rfl, hcode⟩ := hcode
    obtain ⟨b, off, rfl, hbW, hz⟩ := hcode (by omega)
    · obtain ⟨z, hcz0, hz0, hz1⟩ := hz i hi0 hlt
      have hcz : w.cell? ⟨b, off + i.toNat, none⟩ = some (.int .u8 z) := by rw [HO.out.cell (p := ⟨b, off + i.toNat, none⟩) hbW]; exact hcz0
      have hbB : ¬ b = B := by have := HOwn.out; omega
      have HZ := Lib.hid hcz0
      clear hz hcz0
      have hm : 0 ≤ (y + z) % n ∧ (y + z) % n < n := ⟨Int.emod_nonneg _ (by omega), Int.emod_lt_of_pos _ (by omega)⟩
      have HM := Lib.hid hm
      clear hm
      go_enter Tryz.func42, Tryz.ntmps42
      go_wp2_with fail
      go_quiet (fail)
      go_wp2_with fail
      go_quiet (fail)
      go_wp2_with fail
      go_ret
      exact ⟨_, rfl, HM.out.1, HM.out.2, ((HS.out.set2 _).drewN _).set1 _ (by omega) (by omega), ((only_set B _ 2 _).trans (only_drewN B _ _)).trans (only_set B _ 1 _)⟩
  · have hlast : i = (len : Int) := by omega
    have hm : 0 ≤ y % n ∧ y % n < n := ⟨Int.emod_nonneg _ (by omega), Int.emod_lt_of_pos _ (by omega)⟩
    have HM := Lib.hid hm
    clear hm hlast hi1
    have hge : (len : Int) ≤ i := by omega
    have HC := Lib.hid hcode
    obtain ⟨a, cap, rfl, hcode⟩ := hcode
    clear hcode
    go_enter Tryz.func42, Tryz.ntmps42
    go_wp2_with fail
    go_quiet (fail)
    go_wp2_with fail
    go_ret
    exact ⟨_, rfl, HM.out.1, HM.out.2, (HS.out.set2 _).drewN _, (only_set B _ 2 _).trans (only_drewN B _ _)⟩
end Go.Proofs.YtojcdhnpdinbpaaGreatDoor
