/- The law of ParseSequence: a text there, a list of pulses back. -/
import Derived.Test.YtikaabpldnhbkaaDoorP4
import Derived.Test.YtikaabpldnhbkaaDoorP5
import Derived.Test.YtikaabpldnhbkaaDoorRv
namespace Go.Proofs.YtikaabpldnhbkaaDoor
open Go.RowKit

set_option maxRecDepth 100000 in
set_option maxHeartbeats 4000000 in
theorem law_read {W : World} {s : ByteArray} {m : Nat} {Q : Nat → Pu} {code : Int} (hm : m ≤ 1048576) (hsz : s.size ≤ 1048576) (hV : Vars W)
    (SP0 : ∀ (w : World), Calls Tryd.prog 10 #[.string s] w fun e w' => ∃ u, e = .returned (.tuple #[u, .int .i64 code]) ∧ Below w.heap.size w w' ∧ Own w' u m Q w.heap.size w'.heap.size)
    (IM0 : ∀ (w : World), Vars w → Calls Tryd.prog 11 #[.string s] w fun e w' => ∃ u, e = .returned (.tuple #[u, .int .i64 code]) ∧ Below w.heap.size w w' ∧ Own w' u m Q w.heap.size w'.heap.size) :
    Calls Tryd.prog 4 #[.string s] W fun e w' => e = .returned (.bool true) ∧ Below W.heap.size W w' := by
  have hs1 : ¬ (1048576 : Int) < (s.size : Int) := by omega
  have SP := Lib.hid SP0
  have IM := Lib.hid IM0
  have HV := Lib.hid hV
  clear SP0 IM0 hV hsz
  go_enter Tryd.func4, Tryd.ntmps4
  go_wp2_with fail
  refine (SP.out _).mono ?_
  rintro e w2 ⟨w0, rfl, hb, ho⟩
  have B2 := Lib.hid hb
  have O2 := Lib.hid ho
  clear hb ho
  go_wp2_with fail
  refine (IM.out _ (HV.out.below B2.out)).mono ?_
  rintro e w4 ⟨g4, rfl, hb, ho⟩
  have G4 := Lib.hid ho
  have O4 := Lib.hid (own_below O2.out hb)
  have B4 := Lib.hid (B2.out.trans (hb.mono B2.out.size))
  clear hb ho
  go_wp2_with fail
  refine (eqPulseS_ok (own_rd G4.out) (own_rd O4.out) (fun _ _ => rfl) hm).mono ?_
  rintro e w5 ⟨rfl, hb⟩
  have O5 := Lib.hid (own_below O4.out hb)
  have G5 := Lib.hid (own_below G4.out hb)
  have B5 := Lib.hid (B4.out.trans (hb.mono B4.out.size))
  clear hb
  go_wp2_with fail
  refine (mark_own G5.out hm (show 1 ≤ 4 by omega)).mono ?_
  rintro e w10 ⟨rfl, ho, hs⟩
  have O10 := Lib.hid (own_save O5.out hs (by first | exact .inl (by omega) | exact .inr (by omega)))
  have G10 := Lib.hid ho
  have B10 := Lib.hid (hs.below B5.out B2.out.size)
  clear ho hs
  go_wp2_with fail
  refine (held_own G10.out hm (show 1 ≤ 4 by omega)).mono ?_
  rintro e w' ⟨rfl, rfl⟩
  go_wp2_with fail
  refine (IM.out _ (HV.out.below B10.out)).mono ?_
  rintro e w12 ⟨g12, rfl, hb, ho⟩
  have U12 := Lib.hid ho
  have O12 := Lib.hid (own_below O10.out hb)
  have G12 := Lib.hid (own_below G10.out hb)
  have B12 := Lib.hid (B10.out.trans (hb.mono B10.out.size))
  clear hb ho
  go_wp2_with fail
  refine (eqPulseS_ok (own_rd U12.out) (own_rd O12.out) (fun _ _ => rfl) hm).mono ?_
  rintro e w13 ⟨rfl, hb⟩
  have O13 := Lib.hid (own_below O12.out hb)
  have G13 := Lib.hid (own_below G12.out hb)
  have U13 := Lib.hid (own_below U12.out hb)
  have B13 := Lib.hid (B12.out.trans (hb.mono B12.out.size))
  clear hb
  go_wp2_with fail
  refine (held_own G13.out hm (show 1 ≤ 4 by omega)).mono ?_
  rintro e w' ⟨rfl, rfl⟩
  go_wp2_with fail
  go_ret
  exact ⟨rfl, B13.out⟩

theorem law_read_all (s : ByteArray) (W : World) (hV : Vars W) :
    Calls Tryd.prog 4 #[.string s] W fun e w' => e = .returned (.bool true) ∧ Below W.heap.size W w' := by
  by_cases hbig : s.size ≤ 1048576
  · exact law_read (Nat.le_trans (nRead_small _) (by omega)) hbig hV (specRead s hbig) (implRead s hbig)
  · have hs1 : (1048576 : Int) < (s.size : Int) := by omega
    clear hV hbig
    go_enter Tryd.func4, Tryd.ntmps4
    go_wp2_with fail
    go_ret
    exact ⟨rfl, Below.refl _ _⟩
end Go.Proofs.YtikaabpldnhbkaaDoor
