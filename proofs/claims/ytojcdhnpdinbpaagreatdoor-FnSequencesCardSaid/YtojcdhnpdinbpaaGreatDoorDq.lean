/- Walks: one of some numbers is drawn. -/
import Derived.Test.YtojcdhnpdinbpaaGreatDoorS2
namespace Go.Proofs.YtojcdhnpdinbpaaGreatDoor
open Go.RowKit

def PickPost (W0 : World) (c : Value) (len B : Nat) (P : Int → Prop) (w : World) (e : Ending) (w' : World) : Prop := ∃ x : Int, e = .returned (.int .i64 x) ∧ P x ∧ Src W0 c len B w' ∧ Only B w w'

theorem only_cell {B : Nat} {w w' : World} (h : Only B w w') {p : Addr} (hp : p.block ≠ B) : w'.cell? p = w.cell? p := World.cell?_of_block (w := w) (h.2 p.block hp)

set_option maxHeartbeats 400000 in
theorem pick_any (W0 : World) (c : Value) (len B : Nat) (P : Int → Prop) (L k : Nat) (w : World) (hcode : Code W0 c len) (hlen : (len : Int) ≤ 4096) (hs : Src W0 c len B w) (hLB : L ≠ B) (hk : 1 ≤ (k : Int)) (hk2 : (k : Int) < 2147483648)
    (hcells : ∀ j : Int, 0 ≤ j → j < (k : Int) → ∃ v : Int, w.cell? ⟨L, 0 + j.toNat, none⟩ = some (.int .i64 v) ∧ P v) :
    Calls Tryz.prog 45 #[.pointer (some ⟨B, 0, none⟩), .slice (some ⟨L, 0, none⟩) k k] w (PickPost W0 c len B P w) := by
  have HC := Lib.hid hcells
  have HL := Lib.hid hLB
  have HS := Lib.hid hs
  have HCode := Lib.hid hcode
  clear hcells hLB hs hcode
  go_enter Tryz.func45, Tryz.ntmps45
  go_wp2_with fail
  refine (next_any W0 c len B _ _ HCode.out hlen HS.out hk hk2).mono ?_
  rintro e w1 ⟨x, rfl, hx0, hx1, hs1, ho1⟩
  obtain ⟨v, hv, hp⟩ := HC.out x hx0 hx1
  have hv1 : w1.cell? ⟨L, 0 + x.toNat, none⟩ = some (.int .i64 v) := by rw [only_cell ho1 (p := ⟨L, 0 + x.toNat, none⟩) HL.out]; exact hv
  have hv2 : w1.cell? ⟨L, x.toNat, none⟩ = some (.int .i64 v) := by rw [Nat.zero_add] at hv1; exact hv1
  have HP := Lib.hid hp
  have HO1 := Lib.hid ho1
  have HS1 := Lib.hid hs1
  have HV := Lib.hid hv
  clear hv hp ho1 hs1
  go_wp2_with fail
  go_ret
  exact ⟨_, rfl, HP.out, HS1.out, HO1.out⟩

theorem Src.alloc {W0 : World} {c : Value} {len B : Nat} {w : World} (h : Src W0 c len B w) (o : Obj) : Src W0 c len B (w.alloc o) := by
  obtain ⟨a, b, d, e, ⟨i, g, f1, f2, f3, f4⟩, f5, f6⟩ := h
  have hne : ∀ o' : Nat, (⟨B, o', none⟩ : Addr).block ≠ w.heap.size := fun _ => by show B ≠ w.heap.size; omega
  refine ⟨a.alloc a.size _, b, by simp; omega, ?_, ⟨i, g, ?_, ?_, f3, f4⟩, ?_, ?_⟩
  · rw [World.cell?_alloc_old (h := hne 0)]; exact e
  · rw [World.cell?_alloc_old (h := hne 1)]; exact f1
  · rw [World.cell?_alloc_old (h := hne 2)]; exact f2
  · rw [((Below.refl w.heap.size w).alloc (Nat.le_refl _) o).frozen (p := ⟨B, 1, none⟩) d]; exact f5
  · rw [((Below.refl w.heap.size w).alloc (Nat.le_refl _) o).frozen (p := ⟨B, 2, none⟩) d]; exact f6
end Go.Proofs.YtojcdhnpdinbpaaGreatDoor
