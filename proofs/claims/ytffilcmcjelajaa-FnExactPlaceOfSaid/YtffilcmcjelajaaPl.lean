/- Walks: PlaceOf of the program and of the specification. -/
import Derived.Test.YtffilcmcjelajaaW2
namespace Go.Proofs.Ytffilcmcjelajaa
open Go.RowKit

/-- What PlaceOf hands back. -/
def placeRes (x : Nat) : Value := if fin x then .tuple #[.int .i64 (place x), .int .i64 0] else .tuple #[.int .i64 0, .int .i64 1]

theorem implPlaceOf (x : Nat) (w : World) (hx : x < 4294967296) :
    Calls Try.prog 8 #[.float .f32 x] w fun e w' => e = .returned (placeRes x) ∧ w = w' := by
  have hp : ∀ w, Calls Try.prog 24 #[.float .f32 x] w fun e w' => e = .returned (.int .i64 (place x)) ∧ w = w' := fun w => placeOf_any x w hx
  have HP := Lib.hid hp
  clear hp
  unfold placeRes
  cases hf : fin x
  all_goals
    have hn := fun w => isNumber_any x w hx
    rw [hf] at hn
    have HN := Lib.hid hn
    clear hn hf
    go_enter Try.func8, Try.ntmps8
    go_wp2_with (first | (go_at_call 23; refine (HN.out _).mono ?_; rintro e w' ⟨rfl, rfl⟩) | (go_at_call 24; refine (HP.out _).mono ?_; rintro e w' ⟨rfl, rfl⟩))
    go_ret2
    exact ⟨rfl, rfl⟩

theorem specPlaceOf (x : Nat) (w : World) (hx : x < 4294967296) :
    Calls Try.prog 9 #[.float .f32 x] w fun e w' => e = .returned (placeRes x) ∧ ∃ n, w.drewN n = w' := by
  unfold placeRes
  cases hf : fin x
  · have HN := Lib.hid (fun w => fine_no x w hx hf)
    clear hf
    go_enter Try.func9, Try.ntmps9
    go_wp2_with (go_at_call 25; refine (HN.out _).mono ?_; rintro e w' ⟨rfl, rfl⟩)
    go_ret2
    exact ⟨rfl, 1, rfl⟩
  · have HN := Lib.hid (fun w => fine_yes x w hx hf)
    have HP := Lib.hid (fun w => bits_fin x w hx hf)
    clear hf
    go_enter Try.func9, Try.ntmps9
    go_wp2_with (first | (go_at_call 25; refine (HN.out _).mono ?_; rintro e w' ⟨rfl, rfl⟩) | (go_at_call 26; refine (HP.out _).mono ?_; rintro e w' ⟨rfl, rfl⟩))
    go_ret2
    exact ⟨rfl, 0, rfl⟩
end Go.Proofs.Ytffilcmcjelajaa
