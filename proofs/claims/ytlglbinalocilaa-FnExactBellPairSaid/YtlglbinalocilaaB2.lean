/- The law of BellPair, over what it wants of the program. -/
import Derived.Test.YtlglbinalocilaaB1
namespace Go.Proofs.Ytlglbinalocilaa
open Go.RowKit

/-- What the law wants of the program. -/
def BellOk : Prop := ∀ (k : Int) (w : World), -9223372036854775808 ≤ k → k ≤ 9223372036854775807 → Calls Try.prog 23 #[.int .i64 k] w fun e w' => e = .returned (bellRes k) ∧ Below w.heap.size w w'

theorem bellRes_form (k : Int) : ∃ (a b c d e f g h : Nat) (j : Int), bellRes k = .tuple #[.agg #[.complex .f32 a b, .complex .f32 c d, .complex .f32 e f, .complex .f32 g h], .int .i64 j] ∧ Num a ∧ Num b ∧ Num c ∧ Num d ∧ Num e ∧ Num f ∧ Num g ∧ Num h := by
  obtain ⟨n1, n2, n3, n4⟩ := hR_num
  unfold bellRes
  split
  · unfold bellOf
    split
    · exact ⟨_, _, _, _, _, _, _, _, _, rfl, n1, n4, n4, n4, n4, n4, n1, n4⟩
    · split
      · exact ⟨_, _, _, _, _, _, _, _, _, rfl, n1, n4, n4, n4, n4, n4, n2, n3⟩
      · split
        · exact ⟨_, _, _, _, _, _, _, _, _, rfl, n4, n4, n1, n4, n1, n4, n4, n4⟩
        · exact ⟨_, _, _, _, _, _, _, _, _, rfl, n4, n4, n1, n4, n2, n3, n4, n4⟩
  · exact ⟨_, _, _, _, _, _, _, _, _, rfl, n4, n4, n4, n4, n4, n4, n4, n4⟩

set_option maxRecDepth 100000 in
set_option maxHeartbeats 1000000 in
theorem law_bell (H : BellOk) (k : Int) (w : World) (h1 : -9223372036854775808 ≤ k) (h2 : k ≤ 9223372036854775807) :
    Calls Try.prog 5 #[.int .i64 k] w fun e w' => e = .returned (.bool true) ∧ Below w.heap.size w w' := by
  have HI := Lib.hid (fun w => H k w h1 h2)
  have HS := Lib.hid (fun w => specBell k w)
  obtain ⟨a, b, c, d, e', f, g, h, j, hres, n0, n1, n2, n3, n4, n5, n6, n7⟩ := bellRes_form k
  rw [hres] at HI HS
  have HE := Lib.hid (fun w => eqPair_ok n0 n1 n2 n3 n4 n5 n6 n7 w)
  clear hres h1 h2 H n0 n1 n2 n3 n4 n5 n6 n7
  go_enter Try.func5, Try.ntmps5
  go_wp2_with fail
  refine (HS.out _).mono ?_
  rintro e w2 ⟨rfl, hb2⟩
  have HB2 := Lib.hid hb2
  have hs2 := hb2.size
  clear hb2
  go_wp2_with fail
  refine (HI.out _).mono ?_
  rintro e w4 ⟨rfl, hb4⟩
  obtain ⟨hc4, hf4⟩ := bcell hb4
  have hz4 : w2.heap.size < w4.heap.size := by have := hb4.size; simp at this; omega
  have HB4 := Lib.hid hb4
  clear hb4
  go_wp2_with fail
  refine (HE.out _).mono ?_
  rintro e w5 ⟨rfl, hb5⟩
  have HB5 := Lib.hid hb5
  clear hb5
  go_wp2_with fail
  go_ret
  refine ⟨rfl, ?_⟩
  refine below_step HB5.out ?_ ?_
  all_goals repeat first
    | exact Below.refl _ _
    | refine Below.setCell ?_ ?_ _
    | refine Below.alloc ?_ ?_ _
    | refine below_step HB4.out ?_ ?_
    | refine below_step HB2.out ?_ ?_
  all_goals first | omega | (simp; done) | (simp; omega)
end Go.Proofs.Ytlglbinalocilaa
