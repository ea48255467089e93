/- What functions from lists of pulses to lists of pulses hand back. -/
import Derived.Test.YtojcdhnpdinbpaaGreatDoorP5
namespace Go.Proofs.YtojcdhnpdinbpaaGreatDoor
open Go.RowKit

/-- What a function from lists of pulses to lists of pulses and codes hands back. -/
def Gives (f : FuncId) (n : Nat) (P : Nat → Pu) (m : Nat) (Q : Nat → Pu) (code : Int) : Prop :=
  ∀ (w : World) (b off cap : Nat), Rd w (.slice (some ⟨b, off, none⟩) n cap) n P → Calls Tryz.prog f #[.slice (some ⟨b, off, none⟩) n cap] w fun e w' => ∃ u, e = .returned (.tuple #[u, .int .i64 code]) ∧ Below w.heap.size w w' ∧ Own w' u m Q w.heap.size w'.heap.size

/-- As Gives, of a list that lies somewhere. -/
def GivesF (f : FuncId) (n : Nat) (P : Nat → Pu) (m : Nat) (Q : Nat → Pu) (code : Int) : Prop :=
  ∀ (w : World) (b off cap : Nat), n ≤ cap → Rd w (.slice (some ⟨b, off, none⟩) n cap) n P → Calls Tryz.prog f #[.slice (some ⟨b, off, none⟩) n cap] w fun e w' => ∃ u, e = .returned (.tuple #[u, .int .i64 code]) ∧ Below w.heap.size w w' ∧ Own w' u m Q w.heap.size w'.heap.size ∧ ∃ b' cap', u = .slice (some ⟨b', 0, none⟩) m cap' ∧ m ≤ cap'

/-- Where a list of the call's own lies. -/
theorem owns_some {w : World} {base n size : Nat} {e : TypeId} {v : Value} {xs : List Value} (h : w.ownsRow base e size v n xs) (hne : v ≠ .slice none 0 0) : ∃ b' cap', v = .slice (some ⟨b', 0, none⟩) n cap' ∧ n ≤ cap' := by
  obtain ⟨_, ⟨h1, h0⟩ | ⟨g, cap, cur, rfl, _, _, hn, _⟩⟩ := h
  · exact absurd h1 hne
  · exact ⟨g, cap, rfl, hn⟩
end Go.Proofs.YtojcdhnpdinbpaaGreatDoor
