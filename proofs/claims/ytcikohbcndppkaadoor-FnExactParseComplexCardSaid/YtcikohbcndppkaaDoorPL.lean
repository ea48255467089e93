/- The law of ParseComplex. -/
import Derived.Test.YtcikohbcndppkaaDoorRd
import Derived.Test.YtcikohbcndppkaaDoorSame
namespace Go.Proofs.YtcikohbcndppkaaDoor
open Go.RowKit

theorem word_fin (i : Int) (h : InRange i) : wordAt i < 4294967296 ∧ fin (wordAt i) = true := by
  obtain ⟨h1, h2⟩ := h
  unfold fin mag wordAt
  split
  · exact ⟨by omega, decide_eq_true (by omega)⟩
  · exact ⟨by omega, decide_eq_true (by omega)⟩

/-- A complex number of finite parts, made wide, is the same as itself. -/
theorem cx_same (x y : Nat) (hx : x < 4294967296) (hy : y < 4294967296) (fx : fin x = true) (fy : fin y = true) :
    ∃ a b, (∀ w, (convert 22 26 (.complex .f32 x y)).run Tryd.prog w = .ok (.complex .f64 a b) w) ∧
      ∀ w, Calls Tryd.prog 6 #[.complex .f64 a b, .complex .f64 a b] w fun e w' => e = .returned (.bool true) ∧ w = w' := by
  obtain ⟨a, ha, sa⟩ := wide_same x hx fx
  obtain ⟨b, hb, sb⟩ := wide_same y hy fy
  refine ⟨a, b, fun w => run_convert_complex w 22 26 .f32 .f64 x y a b (by rw [Tryd.underlying22]; rfl) Tryd.underlying26 (by unfold cConvBits; rw [ha, hb]; rfl), fun w => ?_⟩
  have SA := Lib.hid sa
  have SB := Lib.hid sb
  clear sa sb ha hb fx fy hx hy
  go_enter Tryd.func6, Tryd.ntmps6
  go_wp2_with fail
  refine (SA.out _).mono ?_
  rintro e w' ⟨rfl, rfl⟩
  go_wp2_with fail
  refine (SB.out _).mono ?_
  rintro e w' ⟨rfl, rfl⟩
  go_wp2_with fail
  go_ret
  exact ⟨rfl, rfl⟩

theorem both (s : ByteArray) (hmax : s.size ≤ 1048576) : ∃ (x y : Nat) (k : Int), x < 4294967296 ∧ y < 4294967296 ∧ fin x = true ∧ fin y = true ∧
    (∀ w, Vars w → Calls Tryd.prog 5 #[.string s] w fun e w' => e = .returned (.tuple #[.complex .f32 x y, .int .i64 k]) ∧ Below w.heap.size w w') ∧
    (∀ w, Calls Tryd.prog 4 #[.string s] w fun e w' => e = .returned (.tuple #[.complex .f32 x y, .int .i64 k]) ∧ Below w.heap.size w w') := by
  by_cases h : ∃ i j, IsText s.data.toList i j
  · obtain ⟨i, j, h⟩ := h
    exact ⟨wordAt i, wordAt j, 0, (word_fin i h.1).1, (word_fin j h.2.1).1, (word_fin i h.1).2, (word_fin j h.2.1).2, fun w hV => implRead_yes s i j h hmax w hV, fun w => specParse_yes s i j h hmax w⟩
  · have h' : ∀ i j, ¬ IsText s.data.toList i j := fun i j e => h ⟨i, j, e⟩
    exact ⟨0, 0, 6, by omega, by omega, by decide +kernel, by decide +kernel, fun w hV => implRead_no s h' hmax w hV, fun w => specParse_no s h' hmax w⟩

set_option maxRecDepth 100000 in
theorem parse_law (s : ByteArray) (hs : s.size ≤ 9223372036854775807) (w : World) (hV : Vars w) :
    Calls Tryd.prog 3 #[.string s] w fun e w' => e = .returned (.bool true) ∧ Below w.heap.size w w' := by
  by_cases hmax : s.size ≤ 1048576
  · obtain ⟨x, y, k, hx, hy, fx, fy, hi, hsp⟩ := both s hmax
    obtain ⟨a, b, hcv, hsame⟩ := cx_same x y hx hy fx fy
    have HI := Lib.hid hi
    have HS := Lib.hid hsp
    have HE := Lib.hid hsame
    have HV := Lib.hid hV
    have hz : decide ((1048576 : Int) < (s.size : Int)) = false := decide_eq_false (by omega)
    clear hi hsp hsame hV hx hy fx fy hs hmax
    go_enter Tryd.func3, Tryd.ntmps3
    go_wp2_with fail
    refine (HS.out _).mono ?_
    rintro e w1 ⟨rfl, hb1⟩
    have HB1 := Lib.hid hb1
    clear hb1
    go_wp2_with fail
    refine (HI.out _ (HV.out.below HB1.out)).mono ?_
    rintro e w2 ⟨rfl, hb2⟩
    have HB2 := Lib.hid (HB1.out.trans (hb2.mono HB1.out.size))
    clear hb2
    go_wp2_with fail
    refine (HE.out _).mono ?_
    rintro e w3 ⟨rfl, rfl⟩
    go_wp2_with fail
    go_ret
    exact ⟨rfl, HB2.out⟩
  · have hz : decide ((1048576 : Int) < (s.size : Int)) = true := decide_eq_true (by omega)
    clear hV hs hmax
    go_enter Tryd.func3, Tryd.ntmps3
    go_wp2_with fail
    go_ret
    exact ⟨rfl, Below.refl _ _⟩
end Go.Proofs.YtcikohbcndppkaaDoor
