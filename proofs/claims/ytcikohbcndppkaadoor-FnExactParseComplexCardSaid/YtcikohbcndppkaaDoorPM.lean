/- The program's parseNumber. -/
import Derived.Test.YtcikohbcndppkaaDoorPN
import Derived.Test.YtcikohbcndppkaaDoorF3
namespace Go.Proofs.YtcikohbcndppkaaDoor
open Go.RowKit

def InRange (i : Int) : Prop := -2139095040 < i ∧ i < 2139095040

def Vars (w : World) : Prop := ErrVars w ∧ TabVar w
theorem Vars.below {w w' : World} (h : Vars w) (hb : Below w.heap.size w w') : Vars w' := ⟨h.1.below hb, h.2.below hb⟩

theorem same_text (l : List UInt8) (s : ByteArray) : (l == s.toList) = decide (l = s.data.toList) := by
  rw [ByteArray.toList_eq, Bool.eq_iff_iff, beq_iff_eq, decide_eq_true_eq]

set_option maxRecDepth 100000 in
theorem parse_good (s : ByteArray) (i : Int) (h0 : -9223372036854775808 ≤ i) (h1 : i ≤ 9223372036854775807) (hs : s.data.toList = Hex.itxt i) (hmax : s.size ≤ 1048576) (w : World) (hV : Vars w) :
    Calls Tryd.prog 9 #[.string s] w fun e w' => e = .returned (if -2139095040 < i ∧ i < 2139095040 then .tuple #[.float .f32 (wordAt i), .int .i64 0] else .tuple #[.float .f32 0, .int .i64 6]) ∧ Below w.heap.size w w' := by
  have HV := Lib.hid hV
  have HP := Lib.hid (fun w => pub_good s i h0 h1 hs (by omega) w)
  have HT := Lib.hid (fun w hT => placeText i h0 h1 w hT)
  have HF := Lib.hid (fun w => implFloatAt i w h0 h1)
  have hne := same_text (Hex.itxt i) s
  rw [decide_eq_true hs.symm] at hne
  unfold atRes at HF
  clear hV hs h0 h1 hmax
  by_cases hr : -2139095040 < i ∧ i < 2139095040
  all_goals
    simp only [hr, and_self, if_true, if_false] at HF ⊢
    clear hr
    go_enter Tryd.func9, Tryd.ntmps9
    go_wp2_with fail
    refine (HP.out _).mono ?_
    rintro e w1 ⟨rfl, hb1⟩
    have HB1 := Lib.hid hb1
    clear hb1
    go_wp2_with fail
    refine (HT.out _ (HV.out.below HB1.out).2).mono ?_
    rintro e w2 ⟨rfl, hb2⟩
    have HB2 := Lib.hid (HB1.out.trans (hb2.mono HB1.out.size))
    clear hb2
    go_wp2_with fail
    refine (HF.out _).mono ?_
    rintro e w3 ⟨rfl, rfl⟩
    go_wp2_with fail
    go_ret2
    exact ⟨rfl, HB2.out⟩

set_option maxRecDepth 100000 in
theorem parse_none (s : ByteArray) (hno : ∀ i : Int, -9223372036854775808 ≤ i → i ≤ 9223372036854775807 → s.data.toList ≠ Hex.itxt i) (hmax : s.size ≤ 1048576) (w : World) (hV : Vars w) :
    Calls Tryd.prog 9 #[.string s] w fun e w' => e = .returned (.tuple #[.float .f32 0, .int .i64 6]) ∧ Below w.heap.size w w' := by
  have HV := Lib.hid hV
  have HP := Lib.hid (fun w hv => pub_any s (by omega) w hv)
  have HNo := Lib.hid hno
  clear hV hno hmax
  go_enter Tryd.func9, Tryd.ntmps9
  go_wp2_with fail
  refine (HP.out _ HV.out.1).mono ?_
  rintro e w1 ⟨⟨x, v, rfl, x0, x1, hv⟩, hb1⟩
  have HB1 := Lib.hid hb1
  clear hb1
  rcases hv with rfl | ⟨te, pe, rfl⟩
  · have hne := same_text (Hex.itxt x) s
    rw [decide_eq_false (fun h => HNo.out x x0 x1 h.symm)] at hne
    have HT := Lib.hid (fun w hT => placeText x x0 x1 w hT)
    clear x0 x1
    go_wp2_with fail
    refine (HT.out _ (HV.out.below HB1.out).2).mono ?_
    rintro e w2 ⟨rfl, hb2⟩
    have HB2 := Lib.hid (HB1.out.trans (hb2.mono HB1.out.size))
    clear hb2
    go_wp2_with fail
    go_ret2
    exact ⟨rfl, HB2.out⟩
  · go_wp2_with fail
    go_ret2
    exact ⟨rfl, HB1.out⟩

/-- What parseNumber hands back. -/
theorem parse_yes (s : ByteArray) (i : Int) (hr : InRange i) (hs : s.data.toList = Hex.itxt i) (hmax : s.size ≤ 1048576) (w : World) (hV : Vars w) :
    Calls Tryd.prog 9 #[.string s] w fun e w' => e = .returned (.tuple #[.float .f32 (wordAt i), .int .i64 0]) ∧ Below w.heap.size w w' := by
  have h := parse_good s i (by have := hr.1; omega) (by have := hr.2; omega) hs hmax w hV
  rw [if_pos (show -2139095040 < i ∧ i < 2139095040 from hr)] at h
  exact h

theorem parse_no (s : ByteArray) (hno : ∀ i : Int, InRange i → s.data.toList ≠ Hex.itxt i) (hmax : s.size ≤ 1048576) (w : World) (hV : Vars w) :
    Calls Tryd.prog 9 #[.string s] w fun e w' => e = .returned (.tuple #[.float .f32 0, .int .i64 6]) ∧ Below w.heap.size w w' := by
  by_cases h : ∃ i : Int, -9223372036854775808 ≤ i ∧ i ≤ 9223372036854775807 ∧ s.data.toList = Hex.itxt i
  · obtain ⟨i, h0, h1, hs⟩ := h
    have hp := parse_good s i h0 h1 hs hmax w hV
    rw [if_neg (show ¬(-2139095040 < i ∧ i < 2139095040) from fun hr => hno i hr hs)] at hp
    exact hp
  · exact parse_none s (fun i h0 h1 hs => h ⟨i, h0, h1, hs⟩) hmax w hV
end Go.Proofs.YtcikohbcndppkaaDoor
