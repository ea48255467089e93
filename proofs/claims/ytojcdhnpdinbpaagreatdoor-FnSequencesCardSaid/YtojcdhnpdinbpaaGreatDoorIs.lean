/- The law of IsSequence. -/
import Derived.Test.YtojcdhnpdinbpaaGreatDoorP4
import Derived.Test.YtojcdhnpdinbpaaGreatDoorIi
namespace Go.Proofs.YtojcdhnpdinbpaaGreatDoor
open Go.RowKit

theorem specIs_ok {w : World} {v : Value} {n : Nat} {P : Nat → Pu} (h : Rd w v n P) (hn : n ≤ 1048576) :
    Calls Tryz.prog 9 #[v] w fun e w' => e = .returned (.bool (seqB n P)) ∧ w = w' := by
  have H := Lib.hid (l05Is_ok h hn)
  obtain ⟨a, cap, rfl, _⟩ := h
  go_enter Tryz.func9, Tryz.ntmps9
  go_wp2_with fail
  refine H.out.mono ?_
  rintro e w' ⟨rfl, rfl⟩
  go_wp2_with fail
  go_ret
  exact ⟨rfl, rfl⟩
