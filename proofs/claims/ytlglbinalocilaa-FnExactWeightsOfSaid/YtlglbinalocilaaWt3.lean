/- The law of WeightsOf, over what it wants of the program. -/
import Derived.Test.YtlglbinalocilaaWt2
namespace Go.Proofs.Ytlglbinalocilaa
open Go.RowKit

/-- What the law wants of the program. -/
def WtsOk : Prop := ∀ c : Nat, c < 4294967296 → GivesW 18 c (wtN c) (wtW c) (wtC c)

theorem wts_num {c : Nat} (hc : c < 4294967296) : wtN c ≤ 64 ∧ ∀ i, i < wtN c → wtW c i < 4294967296 ∧ fin (wtW c i) = true := by
  unfold wtN
  split
  · rename_i h
    simp only [Bool.and_eq_true] at h
    obtain ⟨_, _, nr, _⟩ := on_way ⟨hc, h.1⟩ h.2
    refine ⟨by omega, fun i _ => ?_⟩
    unfold wtW
    split
    · exact (hv_ok _ (one_add nr).2).2
    · exact (hv_ok _ (one_sub nr).2).2
  · exact ⟨by omega, fun i hi => absurd hi (by omega)⟩

set_option maxRecDepth 100000 in
set_option maxHeartbeats 4000000 in
theorem law_weights (H : WtsOk) (c : Nat) (W : World) (hc : c < 4294967296) :
    Calls Try.prog 4 #[.float .f32 c] W fun e w' => e = .returned (.bool true) ∧ Below W.heap.size W w' := by
  have SP := Lib.hid (specWts c hc)
  have IM := Lib.hid (H c hc)
  obtain ⟨hm, hX⟩ := wts_num hc
  clear H hc
  generalize wtN c = m at *
  generalize wtW c = X at *
  generalize wtC c = code at *
  go_enter Try.func4, Try.ntmps4
  go_wp2_with fail
  refine (SP.out _).mono ?_
  rintro e w2 ⟨w0, rfl, hb, ho⟩
  have B2 := Lib.hid hb
  have O2 := Lib.hid ho
  have z2 := hb.size
  clear hb ho
  go_wp2_with fail
  refine (IM.out _).mono ?_
  rintro e w4 ⟨g4, rfl, hb, ho⟩
  have G4 := Lib.hid ho
  have O4 := Lib.hid (ownv_below O2.out hb)
  have B4 := Lib.hid (B2.out.trans (hb.mono B2.out.size))
  clear hb ho
  go_wp2_with fail
  refine (eqFloat32S_ok (ownv_rd G4.out) (ownv_rd O4.out) hm hX).mono ?_
  rintro e w5 ⟨rfl, hb⟩
  have O5 := Lib.hid (ownv_below O4.out hb)
  have G5 := Lib.hid (ownv_below G4.out hb)
  have B5 := Lib.hid (B4.out.trans (hb.mono B4.out.size))
  clear hb
  go_wp2_with fail
  refine (mark_Float32S G5.out hm (show 1 ≤ 4 by omega)).mono ?_
  rintro e w10 ⟨rfl, ho, hs⟩
  have O10 := Lib.hid (ownv_save O5.out hs (by first | exact .inl (by omega) | exact .inr (by omega)))
  have G10 := Lib.hid ho
  have B10 := Lib.hid (hs.below B5.out z2)
  clear ho hs
  go_wp2_with fail
  refine (held_Float32S G10.out hm (show 1 ≤ 4 by omega)).mono ?_
  rintro e w' ⟨rfl, rfl⟩
  go_wp2_with fail
  refine (IM.out _).mono ?_
  rintro e w12 ⟨g12, rfl, hb, ho⟩
  have U12 := Lib.hid ho
  have O12 := Lib.hid (ownv_below O10.out hb)
  have G12 := Lib.hid (ownv_below G10.out hb)
  have B12 := Lib.hid (B10.out.trans (hb.mono B10.out.size))
  clear hb ho
  go_wp2_with fail
  refine (eqFloat32S_ok (ownv_rd U12.out) (ownv_rd O12.out) hm hX).mono ?_
  rintro e w13 ⟨rfl, hb⟩
  have G13 := Lib.hid (ownv_below G12.out hb)
  have B13 := Lib.hid (B12.out.trans (hb.mono B12.out.size))
  clear hb
  go_wp2_with fail
  refine (held_Float32S G13.out hm (show 1 ≤ 4 by omega)).mono ?_
  rintro e w' ⟨rfl, rfl⟩
  go_wp2_with fail
  go_ret
  exact ⟨rfl, B13.out⟩
end Go.Proofs.Ytlglbinalocilaa
