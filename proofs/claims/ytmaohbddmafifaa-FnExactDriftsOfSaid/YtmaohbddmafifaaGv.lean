/- What functions from lists of pulses to lists of pulses hand back. -/
import Derived.Test.YtmaohbddmafifaaP5
namespace Go.Proofs.Ytmaohbddmafifaa
open Go.RowKit

/-- What a function from lists of pulses to lists of pulses and codes hands back. -/
def Gives (f : FuncId) (n : Nat) (P : Nat → Pu) (m : Nat) (Q : Nat → Pu) (code : Int) : Prop :=
  ∀ (w : World) (b off cap : Nat), Rd w (.slice (some ⟨b, off, none⟩) n cap) n P → Calls Try.prog f #[.slice (some ⟨b, off, none⟩) n cap] w fun e w' => ∃ u, e = .returned (.tuple #[u, .int .i64 code]) ∧ Below w.heap.size w w' ∧ Own w' u m Q w.heap.size w'.heap.size
end Go.Proofs.Ytmaohbddmafifaa
