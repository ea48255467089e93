/- Walks: the text of a pulse, as the program writes it. -/
import Derived.Test.YtojcdhnpdinbpaaGreatDoorIw
import Derived.Test.YtojcdhnpdinbpaaGreatDoorTp
import Derived.Test.YtojcdhnpdinbpaaGreatDoorLib
namespace Go.Proofs.YtojcdhnpdinbpaaGreatDoor
open Go.RowKit

theorem app_data (a b : ByteArray) : (a ++ b).data.toList = a.data.toList ++ b.data.toList := by
  rw [ByteArray.data_append, Array.toList_append]

theorem dtx_len (k : Nat) : (dtx k).length ≤ 2 := by
  unfold dtx
  split
  · exact Nat.le_succ 1
  · exact Nat.le_refl 2

theorem format_small (n : Int) (h0 : 0 ≤ n) (h1 : n < 100) (w : World) : Calls Tryz.prog 46 #[.int .i64 n, .int .i64 10] w fun e w' => e = .returned (.string ⟨(dtx n.toNat).toArray⟩) ∧ w' = w := by
  obtain ⟨k, rfl⟩ := Int.eq_ofNat_of_zero_le h0
  have := Tryz.strconv_FormatInt_10_small k (by omega) w
  rw [dtx_dec (by omega)] at this
  exact this

set_option maxRecDepth 100000 in
set_option maxHeartbeats 1000000 in
theorem text_any (p : Pu) (hp : okP p = true) (w : World) :
    Calls Tryz.prog 29 #[p.v] w fun e w' => ∃ t : ByteArray, e = .returned (.string t) ∧ t.data.toList = ptext p ∧ Below w.heap.size w w' := by
  unfold okP at hp
  simp only [Bool.and_eq_true, decide_eq_true_eq] at hp
  obtain ⟨⟨h0, h1⟩, h2, h3⟩ := hp
  have HF := Lib.hid (fun w => format_small p.ha h2 (by omega) w)
  obtain ⟨x, y, z⟩ := p
  unfold Pu.v ptext
  simp only at h0 h1 h2 h3 HF ⊢
  have hdl := dtx_len y.toNat
  generalize dtx y.toNat = D at *
  have hd1 : ¬ 9223372036854775807 < 1 + D.length := by omega
  have hd2 : ¬ 9223372036854775807 < 1 + (1 + D.length) := by omega
  have hx : x = 0 ∨ x = 1 ∨ x = 2 := by omega
  rcases hx with rfl | rfl | rfl <;> cases z
  all_goals
    go_enter Tryz.func29, Tryz.ntmps29
    go_wp2_with fail
    refine tail_still 10 (by kernel_rfl) (by kernel_rfl) ?_
    simp only [List.take_succ_cons, List.take_zero, List.drop_succ_cons, List.drop_zero]
    iterate 5 still_step
    simp only [show IntKind.i64.wrap 1 = 1 from by decide, show IntKind.i64.wrap 2 = 2 from by decide, show IntKind.i64.wrap 3 = 3 from by decide]
    iterate 3 still_step
    still_call ((HF.out _).mono (by rintro e w' ⟨rfl, rfl⟩; exact ⟨rfl, rfl⟩))
    iterate 1 still_step
    refine wpStill_nil ?_
    go_wp2_with fail
    go_ret
    refine ⟨_, rfl, ?_, ?_⟩
    · simp only [app_data]
      rfl
    · first
        | exact ((Below.refl _ _).alloc (Nat.le_refl _) _).drew
        | exact (((Below.refl _ _).alloc (Nat.le_refl _) _).drew).drew
end Go.Proofs.YtojcdhnpdinbpaaGreatDoor
