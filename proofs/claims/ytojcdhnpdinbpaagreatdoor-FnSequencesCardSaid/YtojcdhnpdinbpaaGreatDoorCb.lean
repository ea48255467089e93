/- A byte of the call's own as a text. -/
import Derived.Test.YtojcdhnpdinbpaaGreatDoorRows
import Derived.WalkKit
import Derived.WalkSpells
import Derived.WalkLawsBesides
import Derived.Laws.IdiomStrings
namespace Go.Proofs.YtojcdhnpdinbpaaGreatDoor
open Go.RowKit

@[go_sem] theorem conv_one (w : World) (b cap : Nat) (x : Int) (hc : w.cell? ⟨b, 0, none⟩ = some (.int .u8 x)) :
    (convert 22 9 (.slice (some ⟨b, 0, none⟩) 1 cap)).run Tryz.prog w = .ok (.string ⟨#[UInt8.ofNat x.toNat]⟩) w := by
  rw [run_convert_bytes_string w _ _ 5 _ _ _ Tryz.underlying22 Tryz.underlying5 Tryz.underlying9]
  have hl := run_loadCells_list (P := Tryz.prog) w ⟨b, 0, none⟩ ([x].map (Value.int .u8)) (fun j v hj => by
    match j, hj with
    | 0, hj => simp at hj; subst hj; simpa [Addr.add] using hc
    | j + 1, hj => simp at hj)
  simp only [List.map_cons, List.map_nil, List.length_cons, List.length_nil] at hl
  rw [run_bytesToString w ⟨b, 0, none⟩ 1 cap [x] hl]
  rfl
end Go.Proofs.YtojcdhnpdinbpaaGreatDoor
