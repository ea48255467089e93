/- What functions from lists of pulses to lists of pulses hand back. -/
import Derived.Test.YtikaabpldnhbkaaDoorP5
namespace Go.Proofs.YtikaabpldnhbkaaDoor
open Go.RowKit

/-- What a function from lists of pulses to lists of pulses and codes hands back. -/
def Gives (f : FuncId) (n : Nat) (P : Nat → Pu) (m : Nat) (Q : Nat → Pu) (code : Int) : Prop :=
  ∀ (w : World) (b off cap : Nat), Rd w (.slice (some ⟨b, off, none⟩) n cap) n P → Calls Tryd.prog f #[.slice (some ⟨b, off, none⟩) n cap] w fun e w' => ∃ u, e = .returned (.tuple #[u, .int .i64 code]) ∧ Below w.heap.size w w' ∧ Own w' u m Q w.heap.size w'.heap.size
end Go.Proofs.YtikaabpldnhbkaaDoor
