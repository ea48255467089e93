/- What functions from lists of pulses to texts hand back. -/
import Derived.Test.YtojcdhnpdinbpaaGreatDoorP5
namespace Go.Proofs.YtojcdhnpdinbpaaGreatDoor
open Go.RowKit

/-- What a function from a list of pulses to a text and a code hands back. -/
def GivesT (f : FuncId) (n : Nat) (P : Nat → Pu) (t : ByteArray) (code : Int) : Prop :=
  ∀ (w : World) (b off cap : Nat), n ≤ cap → Rd w (.slice (some ⟨b, off, none⟩) n cap) n P → Calls Tryz.prog f #[.slice (some ⟨b, off, none⟩) n cap] w fun e w' => e = .returned (.tuple #[.string t, .int .i64 code]) ∧ Below w.heap.size w w'
end Go.Proofs.YtojcdhnpdinbpaaGreatDoor
