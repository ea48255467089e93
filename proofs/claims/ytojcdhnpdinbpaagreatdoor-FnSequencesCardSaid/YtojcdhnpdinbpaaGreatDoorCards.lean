/-
  DERIVED. GIVEN WITH THE SEED: THE CARDS: each row of YtojcdhnpdinbpaaGreatDoorRows.lean that lists a variable, with what it lists TIED to the program's text (the seventh form; the later family's looks); each row that meets fmt, with fmt's text TOLD by the authors' own Lean function (tested against real Go, not proved from fmt's source: count such statements apart). THE CARD IS WHAT COUNTS. Prove the row's statement (the work); the ties are given (YtojcdhnpdinbpaaGreatDoorTie.lean); close each card by the builder's one call (the guide's Derived/Test/ToyasCard.lean, 'card_holds'). Laid BY PROGRAM, IN A SANDBOX (cutbox-door.mjs). By AI agents, Wed Nov 11 2026. No macro, syntax, notation, axiom, sorry.
-/
import Derived.Test.YtojcdhnpdinbpaaGreatDoorRows
import GoSem.ClaimSeven
namespace Go.Proofs.YtojcdhnpdinbpaaGreatDoor
namespace Rows

/-- THE TIED CARD OF 'laws.FnSequences'. -/
def fnSequencesCard : Claim7 := { stood := { row := fnSequencesRow, standIns := [], harness := (true, "74e31870e19bb9fb3dd2bfb4a7c0c7db763bd4373981f303ce20b3a568db399b"), looks := true }, kinds := [], alts := [], laidByText := true, laidKinds := [.data, .data, .data, .data, .sentinel, .sentinel, .pinned], laidTests := true, laidLooks := .later }
def FnSequencesCardSaid : Prop := Claim7.holds Tryz.pinned (.plain (OpenSpec.ofChange fnSequencesSpec)) fnSequencesCard

/-- THE SECOND FORM's CARD OF 'laws.FnSequences'. -/
def fnSequencesUptoCard : Claim7 := { stood := { row := fnSequencesUptoRow, standIns := [], harness := (true, "74e31870e19bb9fb3dd2bfb4a7c0c7db763bd4373981f303ce20b3a568db399b"), looks := true }, kinds := [], alts := [], laidByText := true, laidKinds := [.data, .data, .data, .data, .sentinel, .sentinel, .pinned], laidTests := true, laidLooks := .later }
def FnSequencesUptoCardSaid : Prop := Claim7.holds Tryz.pinned (.plain (OpenSpec.upto fnSequencesSpec)) fnSequencesUptoCard
end Rows
end Go.Proofs.YtojcdhnpdinbpaaGreatDoor
