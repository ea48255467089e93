/- What functions from lists of pulses hand back, of a list that has room for itself. -/
import Derived.Test.YtmaohbddmafifaaGv
namespace Go.Proofs.Ytmaohbddmafifaa
open Go.RowKit

/-- As Gives, of a list that has room for itself. -/
def GivesC (f : FuncId) (n : Nat) (P : Nat → Pu) (m : Nat) (Q : Nat → Pu) (code : Int) : Prop :=
  ∀ (w : World) (b off cap : Nat), n ≤ cap → Rd w (.slice (some ⟨b, off, none⟩) n cap) n P → Calls Try.prog f #[.slice (some ⟨b, off, none⟩) n cap] w fun e w' => ∃ u, e = .returned (.tuple #[u, .int .i64 code]) ∧ Below w.heap.size w w' ∧ Own w' u m Q w.heap.size w'.heap.size
end Go.Proofs.Ytmaohbddmafifaa
