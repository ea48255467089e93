/- DriftOfPrecession: both sides, whole. -/
import Derived.Test.YtaghfffbhgpalaaPi
import Derived.Test.YtaghfffbhgpalaaKca
namespace Go.Proofs.Ytaghfffbhgpalaa
open Go.RowKit

theorem givesD_congr {f : FuncId} {a b c h m : Nat} {n code : Int} {X Y : Nat → Nat} (e : ∀ i, i < m → X i = Y i) (g : GivesD f a b c h n m X code) : GivesD f a b c h n m Y code := by
  intro w
  refine (g w).mono ?_
  rintro e1 w1 ⟨u, rfl, hb, ho⟩
  exact ⟨u, rfl, hb, ownv_congr ho (fun i hi => by rw [e i hi])⟩

theorem driftOfPrecessionOk : DriftOfPrecessionOk := by
  intro a b c h n ha hb hc hh _
  by_cases H : ((fin a && fin b && fin c) && fin h) = true
  · obtain ⟨fa, fb, fc, fh⟩ := num_of H
    have na : Num a := ⟨ha, fa⟩
    have nb : Num b := ⟨hb, fb⟩
    have nc : Num c := ⟨hc, fc⟩
    have nh : Num h := ⟨hh, fh⟩
    by_cases hn : 1 ≤ n ∧ n ≤ 300
    · obtain ⟨k, rfl⟩ : ∃ k : Nat, n = (k : Int) := ⟨n.toNat, by omega⟩
      have k1 : 1 ≤ k := by omega
      have k2 : k ≤ 300 := by omega
      cases HQ : finO (qO a b c h)
      · exact ⟨0, fun _ => 0, 3, by omega, fun i hi => absurd hi (Nat.not_lt_zero i), specD_lim na nb nc nh k1 k2 HQ, implD_lim na nb nc nh k1 k2 HQ⟩
      · obtain ⟨nw, nx, ny, nz, hN⟩ := nrm_of na nb nc nh HQ
        have hT6 := step_tb na nb nc nh HQ
        refine ⟨k, fun i => driftS (pwS (stepTb a b c h) i), 0, by omega, fun i hi => (pw_drift hN hT6 i (by omega)).2, specD_in na nb nc nh k1 k2 HQ, ?_⟩
        exact givesD_congr (fun i hi => ((pw_drift hN hT6 i (by omega)).1).symm) (implD_in na nb nc nh k1 k2 HQ)
    · exact ⟨0, fun _ => 0, 2, by omega, fun i hi => absurd hi (Nat.not_lt_zero i), specD_out na nb nc nh hn, implD_out na nb nc nh hn⟩
  · have H' : ((fin a && fin b && fin c) && fin h) = false := by simpa using H
    exact ⟨0, fun _ => 0, 1, by omega, fun i hi => absurd hi (Nat.not_lt_zero i), specD_no ha hb hc hh H', implD_no ha hb hc hh H'⟩

theorem driftPrecHolds : Rows.FnExactDriftOfPrecessionSaid := DriftOfPrecession.holds driftOfPrecessionOk

end Go.Proofs.Ytaghfffbhgpalaa
