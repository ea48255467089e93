/- Walks: a source is made. -/
import Derived.Test.YtojcdhnpdinbpaaGreatDoorS1
import Derived.RegionTactic
import Derived.BigRegion
namespace Go.Proofs.YtojcdhnpdinbpaaGreatDoor
open Go.RowKit

def FromPost (W0 : World) (c : Value) (len B : Nat) (e : Ending) (w' : World) : Prop := e = .returned (.pointer (some ⟨B, 0, none⟩)) ∧ Src W0 c len B w'

theorem src_new {W0 : World} {c : Value} {len : Nat} {w : World} {h : Int} {t : TypeId} {m : Nat × Nat} (hold : Below W0.heap.size W0 w) (hm : m = (0, 0)) :
    Src W0 c len w.heap.size (w.alloc (.cells #[c, .int .i64 0, .int .u64 h] t m)) := by
  subst hm
  refine ⟨hold.alloc hold.size _, hold.size, by simp, ?_, ⟨0, h, ?_, ?_, by omega, by omega⟩, ?_, ?_⟩
  · exact World.cell?_alloc_new ..
  · exact World.cell?_alloc_new ..
  · exact World.cell?_alloc_new ..
  · simp [go_sem]
  · simp [go_sem]

set_option maxHeartbeats 400000 in
theorem from_some (W0 : World) (b off len cap B : Nat) (w : World) (hB : B = w.heap.size) (hbW : b < W0.heap.size) (hz : ∀ j : Int, 0 ≤ j → j < (len : Int) → ∃ z : Int, W0.cell? ⟨b, off + j.toNat, none⟩ = some (.int .u8 z) ∧ 0 ≤ z ∧ z < 256)
    (hlen : (len : Int) ≤ 4096) (hold : Below W0.heap.size W0 w) :
    Calls Tryz.prog 28 #[.slice (some ⟨b, off, none⟩) len cap] w (FromPost W0 (.slice (some ⟨b, off, none⟩) len cap) len B) := by
  have HZ := Lib.hid hz
  have HO := Lib.hid hold
  have HB := Lib.hid hbW
  have HBB := Lib.hid hB
  clear hz hold hbW hB
  go_enter Tryz.func28, Tryz.ntmps28
  go_wp2_with fail
  have hs0 : ∀ h : Int, Src W0 (.slice (some ⟨b, off, none⟩) len cap) len B (w.alloc (.cells #[.slice (some ⟨b, off, none⟩) len cap, .int .i64 0, .int .u64 h] 64)) := fun h => by rw [HBB.out]; exact src_new HO.out rfl
  rw [← HBB.out]
  have HS0 := Lib.hid hs0
  clear hs0
  go_loopw [4] (fun i wr => ∃ k : Int, i = .int .i64 k ∧ 0 ≤ k ∧ k ≤ (len : Int) ∧ Src W0 (.slice (some ⟨b, off, none⟩) len cap) len B wr) (fun i _ => len - (intOf i).toNat)
  case atStart => exact ⟨0, rfl, by omega, by omega, HS0.out _⟩
  case round =>
    obtain ⟨k, rfl, k0, k1, hs⟩ := hrel
    by_cases hlt : k < (len : Int)
    · have HS := Lib.hid hs
      obtain ⟨hold, hown, hlies, hc0, ⟨i, h, hc1, hc2, hi0, hi1⟩, hf1, hf2⟩ := hs
      obtain ⟨z, hcz0, hz0, hz1⟩ := HZ.out k k0 hlt
      have hcz : wr.cell? ⟨b, off + k.toNat, none⟩ = some (.int .u8 z) := by rw [hold.cell (p := ⟨b, off + k.toNat, none⟩) HB.out]; exact hcz0
      clear hold hown hlies hc1 hi0 hi1 hf1 hcz0
      have hk4 : k < 4096 := by omega
      go_wp2_with fail
      go_region
      all_goals
        go_wp2_with fail
        go_roundw
        case rel => exact ⟨k + 1, by go_num, by omega, by omega, (HS.out.set2 _).drewN 1⟩
        case measure => simp [intOf]; omega
    · have hge : (len : Int) ≤ k := by omega
      go_wp2_with fail
      go_ret
      exact ⟨rfl, hs⟩

theorem from_nil (W0 : World) (a : Option Addr) (cap B : Nat) (w : World) (hB : B = w.heap.size) (hold : Below W0.heap.size W0 w) :
    Calls Tryz.prog 28 #[.slice a 0 cap] w (FromPost W0 (.slice a 0 cap) 0 B) := by
  have HO := Lib.hid hold
  have HBB := Lib.hid hB
  clear hold hB
  go_enter Tryz.func28, Tryz.ntmps28
  go_wp2_with fail
  have hs0 : ∀ h : Int, Src W0 (.slice a 0 cap) 0 B (w.alloc (.cells #[.slice a 0 cap, .int .i64 0, .int .u64 h] 64)) := fun h => by rw [HBB.out]; exact src_new HO.out rfl
  rw [← HBB.out]
  have HS0 := Lib.hid hs0
  clear hs0
  go_loopw [4] (fun i wr => i = .int .i64 0 ∧ Src W0 (.slice a 0 cap) 0 B wr) (fun _ _ => 0)
  case atStart => exact ⟨rfl, HS0.out _⟩
  case round =>
    obtain ⟨rfl, hs⟩ := hrel
    go_wp2_with fail
    go_ret
    exact ⟨rfl, hs⟩

/-- A source is made of a list of bytes. -/
theorem from_any (W0 : World) (c : Value) (len B : Nat) (w : World) (hcode : Code W0 c len) (hlen : (len : Int) ≤ 4096) (hB : B = w.heap.size) (hold : Below W0.heap.size W0 w) :
    Calls Tryz.prog 28 #[c] w (FromPost W0 c len B) := by
  obtain ⟨a, cap, rfl, hcode⟩ := hcode
  by_cases h0 : len = 0
  · subst h0
    exact from_nil W0 a cap B w hB hold
  · obtain ⟨b, off, rfl, hbW, hz⟩ := hcode (by omega)
    exact from_some W0 b off len cap B w hB hbW hz hlen hold
end Go.Proofs.YtojcdhnpdinbpaaGreatDoor
