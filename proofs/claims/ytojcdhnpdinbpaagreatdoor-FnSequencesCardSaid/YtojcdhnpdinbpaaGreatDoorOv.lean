/- Lists of one-cell values of the call's own: int64 and float32. -/
import Derived.Test.YtojcdhnpdinbpaaGreatDoorP5
namespace Go.Proofs.YtojcdhnpdinbpaaGreatDoor
open Go.RowKit

/-- A list of m values at the beginning of a block between lo and hi, or empty. -/
def OwnV (T : TypeId) (w : World) (v : Value) (m : Nat) (F : Nat → Value) (lo hi : Nat) : Prop :=
  ∃ a cap, v = .slice a m cap ∧ hi ≤ w.heap.size ∧ (0 < m → ∃ B N f, a = some ⟨B, 0, none⟩ ∧ lo ≤ B ∧ B < hi ∧ m ≤ N ∧ w.rowIs B T N f ∧ ∀ i, i < m → f i = F i)

theorem ownv_below {T : TypeId} {w w' : World} {v : Value} {m lo hi : Nat} {F : Nat → Value} (h : OwnV T w v m F lo hi) (hb : Below w.heap.size w w') : OwnV T w' v m F lo hi := by
  obtain ⟨a, cap, rfl, hh, h⟩ := h
  refine ⟨a, cap, rfl, Nat.le_trans hh hb.size, fun h0 => ?_⟩
  obtain ⟨B, N, f, rfl, h1, h2, h3, h4, h5⟩ := h h0
  exact ⟨B, N, f, rfl, h1, h2, h3, World.rowIs.of_block h4 (hb.block B (World.rowIs.lt h4)), h5⟩

theorem ownv_save {T : TypeId} {w w' : World} {v : Value} {m lo hi lo' hi' : Nat} {F : Nat → Value} (h : OwnV T w v m F lo hi) (hs : Save w w' lo' hi') (hne : hi ≤ lo' ∨ hi' ≤ lo) : OwnV T w' v m F lo hi := by
  obtain ⟨a, cap, rfl, hh, h⟩ := h
  refine ⟨a, cap, rfl, Nat.le_trans hh hs.size, fun h0 => ?_⟩
  obtain ⟨B, N, f, rfl, h1, h2, h3, h4, h5⟩ := h h0
  exact ⟨B, N, f, rfl, h1, h2, h3, World.rowIs.of_block h4 (hs.block B (World.rowIs.lt h4) (by omega)), h5⟩

theorem ownv_wide {T : TypeId} {w : World} {v : Value} {m lo hi lo' : Nat} {F : Nat → Value} (h : OwnV T w v m F lo hi) (hl : lo' ≤ lo) : OwnV T w v m F lo' hi := by
  obtain ⟨a, cap, rfl, hh, h⟩ := h
  refine ⟨a, cap, rfl, hh, fun h0 => ?_⟩
  obtain ⟨B, N, f, rfl, h1, h2, h3, h4, h5⟩ := h h0
  exact ⟨B, N, f, rfl, by omega, h2, h3, h4, h5⟩

theorem ownv_congr {T : TypeId} {w : World} {v : Value} {m lo hi : Nat} {F G : Nat → Value} (h : OwnV T w v m F lo hi) (e : ∀ i, i < m → F i = G i) : OwnV T w v m G lo hi := by
  obtain ⟨a, cap, rfl, hh, h⟩ := h
  refine ⟨a, cap, rfl, hh, fun h0 => ?_⟩
  obtain ⟨B, N, f, rfl, h1, h2, h3, h4, h5⟩ := h h0
  exact ⟨B, N, f, rfl, h1, h2, h3, h4, fun i hi => (h5 i hi).trans (e i hi)⟩

theorem ownv_none (T : TypeId) (w : World) (F : Nat → Value) (lo : Nat) : OwnV T w (.slice none 0 0) 0 F lo w.heap.size := ⟨none, 0, rfl, Nat.le_refl _, fun h0 => absurd h0 (Nat.lt_irrefl _)⟩

/-- A list that is read. -/
def RdV (w : World) (v : Value) (m : Nat) (F : Nat → Value) : Prop :=
  ∃ a cap, v = .slice a m cap ∧ (0 < m → ∃ B, a = some ⟨B, 0, none⟩ ∧ B < w.heap.size ∧ ∀ i, i < m → w.cell? ⟨B, i, none⟩ = some (F i))

theorem ownv_rd {T : TypeId} {w : World} {v : Value} {m lo hi : Nat} {F : Nat → Value} (h : OwnV T w v m F lo hi) : RdV w v m F := by
  obtain ⟨a, cap, rfl, hh, h⟩ := h
  refine ⟨a, cap, rfl, fun h0 => ?_⟩
  obtain ⟨B, N, f, rfl, h1, h2, h3, h4, h5⟩ := h h0
  exact ⟨B, rfl, by omega, fun i hi => by rw [← h5 i hi]; exact World.rowIs.cell h4 (by omega)⟩

/-- What a function from a list of pulses to a list of values and a code hands back. -/
def GivesV (T : TypeId) (f : FuncId) (n : Nat) (P : Nat → Pu) (m : Nat) (F : Nat → Value) (code : Int) : Prop :=
  ∀ (w : World) (b off cap : Nat), n ≤ cap → Rd w (.slice (some ⟨b, off, none⟩) n cap) n P → Calls Tryz.prog f #[.slice (some ⟨b, off, none⟩) n cap] w fun e w' => ∃ u, e = .returned (.tuple #[u, .int .i64 code]) ∧ Below w.heap.size w w' ∧ OwnV T w' u m F w.heap.size w'.heap.size
end Go.Proofs.YtojcdhnpdinbpaaGreatDoor
