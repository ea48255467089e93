/- strings.Cut at a comma. -/
import Derived.Test.YtcikohbcndppkaaDoorPM
import Derived.Lib.IndexLaws
import Derived.Deep.QuietTactic
import Derived.BigQuiet
namespace Go.Proofs.YtcikohbcndppkaaDoor
open Go.RowKit

theorem index_at (a b : List UInt8) (c : UInt8) (h : c ∉ a) : Lib.indexByte (a ++ c :: b) c = (a.length : Int) := by
  induction a with
  | nil => simp [Lib.indexByte]
  | cons d a ih =>
    have hd : (d == c) = false := by
      rw [beq_eq_false_iff_ne]; intro e; exact h (by rw [e]; exact List.mem_cons_self)
    have ih' := ih (fun hm => h (List.mem_cons_of_mem _ hm))
    rw [List.cons_append]
    unfold Lib.indexByte
    rw [hd, ih']
    have h1 : ((a.length : Int) == -1) = false := by rw [beq_eq_false_iff_ne]; omega
    simp only [Bool.false_eq_true, if_false, h1, List.length_cons]
    omega

theorem index_no (a : List UInt8) (c : UInt8) (h : c ∉ a) : Lib.indexByte a c = -1 := by
  induction a with
  | nil => rfl
  | cons d a ih =>
    have hd : (d == c) = false := by
      rw [beq_eq_false_iff_ne]; intro e; exact h (by rw [e]; exact List.mem_cons_self)
    have ih' := ih (fun hm => h (List.mem_cons_of_mem _ hm))
    unfold Lib.indexByte
    rw [hd, ih']
    rfl

theorem parts_of (s : ByteArray) (a b : List UInt8) (h : s.data.toList = a ++ 44 :: b) : s.size = a.length + 1 + b.length ∧ (s.extract 0 a.length).data.toList = a ∧ (s.extract (a.length + 1) s.size).data.toList = b ∧
    (∀ (P : Program) W (ty : TypeId), P.underlying ty = some .string → (Instr.slice ty (.string s) none (some (.int .i64 (a.length : Int))) none).run P W = .ok (.string (s.extract 0 a.length)) W) ∧
    (∀ (P : Program) W (ty : TypeId), P.underlying ty = some .string → (Instr.slice ty (.string s) (some (.int .i64 ((a.length : Int) + 1))) none none).run P W = .ok (.string (s.extract (a.length + 1) s.size)) W) := by
  have hs : s.size = a.length + 1 + b.length := by rw [Lib.size_eq, h]; simp; omega
  refine ⟨hs, ?_, ?_, fun P W ty ht => ?_, fun P W ty ht => ?_⟩
  · rw [Lib.extract_data, h]; simp
  · rw [Lib.extract_data, h, hs]
    rw [show a ++ 44 :: b = (a ++ [44]) ++ b by simp]
    rw [List.drop_append_of_le_length (by simp), List.drop_of_length_le (by simp)]
    rw [List.nil_append, List.take_of_length_le (by omega)]
  · rw [run_slice_string_to_if W ty s .i64 _ ht, if_pos ⟨by omega, by omega⟩]
    rfl
  · rw [run_slice_string_from_if W ty s .i64 _ ht, if_pos ⟨by omega, by omega⟩]
    rfl

theorem inner_cut_yes (s : ByteArray) (a b : List UInt8) (h : s.data.toList = a ++ 44 :: b) (ha : (44 : UInt8) ∉ a) (hmax : s.size ≤ 1048576) (w : World) :
    Calls Tryd.prog 13 #[.string s, .string ⟨#[44]⟩] w fun e w' => e = .returned (.tuple #[.string (s.extract 0 a.length), .string (s.extract (a.length + 1) s.size), .bool true]) ∧ Below w.heap.size w w' := by
  obtain ⟨hs, _, _, h3, h4⟩ := parts_of s a b h
  have h3 := fun W => h3 Tryd.prog W 9 Tryd.underlying9
  have h4 := fun W => h4 Tryd.prog W 9 Tryd.underlying9
  have HI := Lib.hid (fun w => Tryd.stringslite_Index_one s 44 w)
  rw [h, index_at a b 44 ha] at HI
  generalize s.extract 0 a.length = s1 at *
  generalize s.extract (a.length + 1) s.size = s2 at *
  have h0 : (0 : Int) ≤ (a.length : Int) := by omega
  have hq : (a.length : Int) ≤ 1048576 := by omega
  clear h ha hs hmax
  generalize (a.length : Int) = p at *
  go_enter Tryd.func13, Tryd.ntmps13
  go_wp2_with fail
  refine (HI.out _).mono ?_
  rintro e w' ⟨rfl, rfl⟩
  go_wp2_with fail
  go_quiet (fail)
  go_wp2_with fail
  go_ret3
  exact ⟨rfl, below_drewN (Below.refl _ _) _⟩

theorem inner_cut_no (s : ByteArray) (h : (44 : UInt8) ∉ s.data.toList) (w : World) :
    Calls Tryd.prog 13 #[.string s, .string ⟨#[44]⟩] w fun e w' => e = .returned (.tuple #[.string s, .string ⟨#[]⟩, .bool false]) ∧ Below w.heap.size w w' := by
  have HI := Lib.hid (fun w => Tryd.stringslite_Index_one s 44 w)
  rw [index_no _ 44 h] at HI
  clear h
  go_enter Tryd.func13, Tryd.ntmps13
  go_wp2_with fail
  refine (HI.out _).mono ?_
  rintro e w' ⟨rfl, rfl⟩
  go_wp2_with fail
  go_ret3
  exact ⟨rfl, Below.refl _ _⟩

theorem cut_yes (s : ByteArray) (a b : List UInt8) (h : s.data.toList = a ++ 44 :: b) (ha : (44 : UInt8) ∉ a) (hmax : s.size ≤ 1048576) (w : World) :
    Calls Tryd.prog 8 #[.string s, .string ⟨#[44]⟩] w fun e w' => e = .returned (.tuple #[.string (s.extract 0 a.length), .string (s.extract (a.length + 1) s.size), .bool true]) ∧ Below w.heap.size w w' := by
  have HC := Lib.hid (inner_cut_yes s a b h ha hmax w)
  generalize s.extract 0 a.length = s1 at *
  generalize s.extract (a.length + 1) s.size = s2 at *
  clear h ha hmax
  go_enter Tryd.func8, Tryd.ntmps8
  go_wp2_with fail
  refine HC.out.mono ?_
  rintro e w' ⟨rfl, hb⟩
  go_wp2_with fail
  go_ret3
  exact ⟨rfl, hb⟩

theorem cut_no (s : ByteArray) (h : (44 : UInt8) ∉ s.data.toList) (w : World) :
    Calls Tryd.prog 8 #[.string s, .string ⟨#[44]⟩] w fun e w' => e = .returned (.tuple #[.string s, .string ⟨#[]⟩, .bool false]) ∧ Below w.heap.size w w' := by
  have HC := Lib.hid (inner_cut_no s h w)
  clear h
  go_enter Tryd.func8, Tryd.ntmps8
  go_wp2_with fail
  refine HC.out.mono ?_
  rintro e w' ⟨rfl, hb⟩
  go_wp2_with fail
  go_ret3
  exact ⟨rfl, hb⟩

theorem comma_txt (i : Int) : (44 : UInt8) ∉ Hex.itxt i := by
  have hno : (44 : UInt8) ∉ Hex.txt i.natAbs := fun h => by
    have := Hex.all_txt _ _ h
    revert this; decide
  unfold Hex.itxt
  split
  · intro h
    rcases List.mem_cons.1 h with h | h
    · revert h; decide
    · exact hno h
  · exact hno

theorem first_comma (l : List UInt8) (h : (44 : UInt8) ∈ l) : ∃ a b, l = a ++ 44 :: b ∧ (44 : UInt8) ∉ a := by
  induction l with
  | nil => simp at h
  | cons c l ih =>
    by_cases hc : c = 44
    · exact ⟨[], l, by rw [hc]; rfl, by simp⟩
    · obtain ⟨a, b, hab, ha⟩ := ih (by
        rcases List.mem_cons.1 h with h | h
        · exact absurd h.symm hc
        · exact h)
      refine ⟨c :: a, b, by rw [hab]; rfl, fun hm => ?_⟩
      rcases List.mem_cons.1 hm with hm | hm
      · exact hc hm.symm
      · exact ha hm

/-- The text of a complex number, by the places of its parts. -/
def IsText (l : List UInt8) (i j : Int) : Prop := InRange i ∧ InRange j ∧ l = Hex.itxt i ++ 44 :: Hex.itxt j

set_option maxRecDepth 100000 in
theorem implRead_yes (s : ByteArray) (i j : Int) (h : IsText s.data.toList i j) (hmax : s.size ≤ 1048576) (w : World) (hV : Vars w) :
    Calls Tryd.prog 5 #[.string s] w fun e w' => e = .returned (.tuple #[.complex .f32 (wordAt i) (wordAt j), .int .i64 0]) ∧ Below w.heap.size w w' := by
  obtain ⟨hi, hj, hl⟩ := h
  obtain ⟨hs, he1, he2, _, _⟩ := parts_of s _ _ hl
  have HV := Lib.hid hV
  have HC := Lib.hid (fun w => cut_yes s _ _ hl (comma_txt i) hmax w)
  have hz1 : (s.extract 0 (Hex.itxt i).length).size ≤ 1048576 := by rw [Lib.size_eq, he1]; omega
  have hz2 : (s.extract ((Hex.itxt i).length + 1) s.size).size ≤ 1048576 := by rw [Lib.size_eq, he2]; omega
  generalize s.extract 0 (Hex.itxt i).length = s1 at *
  generalize s.extract ((Hex.itxt i).length + 1) s.size = s2 at *
  have H1 := Lib.hid (fun w hV => parse_yes s1 i hi he1 hz1 w hV)
  have H2 := Lib.hid (fun w hV => parse_yes s2 j hj he2 hz2 w hV)
  clear hi hj hl hs he1 he2 hz1 hz2 hV hmax
  go_enter Tryd.func5, Tryd.ntmps5
  go_wp2_with fail
  refine (HC.out _).mono ?_
  rintro e w1 ⟨rfl, hb1⟩
  have HB1 := Lib.hid hb1
  clear hb1
  go_wp2_with fail
  refine (H1.out _ (HV.out.below HB1.out)).mono ?_
  rintro e w2 ⟨rfl, hb2⟩
  have HB2 := Lib.hid (HB1.out.trans (hb2.mono HB1.out.size))
  clear hb2
  go_wp2_with fail
  refine (H2.out _ (HV.out.below HB2.out)).mono ?_
  rintro e w3 ⟨rfl, hb3⟩
  have HB3 := Lib.hid (HB2.out.trans (hb3.mono HB2.out.size))
  clear hb3
  go_wp2_with fail
  go_ret2
  exact ⟨rfl, HB3.out⟩

set_option maxRecDepth 100000 in
theorem implRead_no (s : ByteArray) (h : ∀ i j, ¬ IsText s.data.toList i j) (hmax : s.size ≤ 1048576) (w : World) (hV : Vars w) :
    Calls Tryd.prog 5 #[.string s] w fun e w' => e = .returned (.tuple #[.complex .f32 0 0, .int .i64 6]) ∧ Below w.heap.size w w' := by
  by_cases hc : (44 : UInt8) ∈ s.data.toList
  · obtain ⟨a, b, hl, ha⟩ := first_comma _ hc
    obtain ⟨hs, he1, he2, _, _⟩ := parts_of s _ _ hl
    have HV := Lib.hid hV
    have HC := Lib.hid (fun w => cut_yes s _ _ hl ha hmax w)
    have hz1 : (s.extract 0 a.length).size ≤ 1048576 := by rw [Lib.size_eq, he1]; omega
    have hz2 : (s.extract (a.length + 1) s.size).size ≤ 1048576 := by rw [Lib.size_eq, he2]; omega
    generalize s.extract 0 a.length = s1 at *
    generalize s.extract (a.length + 1) s.size = s2 at *
    by_cases hi : ∃ i, InRange i ∧ a = Hex.itxt i
    · obtain ⟨i, hi, rfl⟩ := hi
      have H1 := Lib.hid (fun w hV => parse_yes s1 i hi he1 hz1 w hV)
      have H2 := Lib.hid (fun w hV => parse_no s2 (fun j hj e => h i j ⟨hi, hj, by rw [hl, ← e, he2]⟩) hz2 w hV)
      clear hi hl hs he1 he2 hz1 hz2 hV hmax hc ha h
      go_enter Tryd.func5, Tryd.ntmps5
      go_wp2_with fail
      refine (HC.out _).mono ?_
      rintro e w1 ⟨rfl, hb1⟩
      have HB1 := Lib.hid hb1
      clear hb1
      go_wp2_with fail
      refine (H1.out _ (HV.out.below HB1.out)).mono ?_
      rintro e w2 ⟨rfl, hb2⟩
      have HB2 := Lib.hid (HB1.out.trans (hb2.mono HB1.out.size))
      clear hb2
      go_wp2_with fail
      refine (H2.out _ (HV.out.below HB2.out)).mono ?_
      rintro e w3 ⟨rfl, hb3⟩
      have HB3 := Lib.hid (HB2.out.trans (hb3.mono HB2.out.size))
      clear hb3
      go_wp2_with fail
      go_ret2
      exact ⟨rfl, HB3.out⟩
    · have H1 := Lib.hid (fun w hV => parse_no s1 (fun i hr e => hi ⟨i, hr, by rw [← e, he1]⟩) hz1 w hV)
      clear hi hl hs he1 he2 hz1 hz2 hV hmax hc ha h
      go_enter Tryd.func5, Tryd.ntmps5
      go_wp2_with fail
      refine (HC.out _).mono ?_
      rintro e w1 ⟨rfl, hb1⟩
      have HB1 := Lib.hid hb1
      clear hb1
      go_wp2_with fail
      refine (H1.out _ (HV.out.below HB1.out)).mono ?_
      rintro e w2 ⟨rfl, hb2⟩
      have HB2 := Lib.hid (HB1.out.trans (hb2.mono HB1.out.size))
      clear hb2
      go_wp2_with fail
      go_ret2
      exact ⟨rfl, HB2.out⟩
  · have HC := Lib.hid (fun w => cut_no s hc w)
    clear hV hmax hc h
    go_enter Tryd.func5, Tryd.ntmps5
    go_wp2_with fail
    refine (HC.out _).mono ?_
    rintro e w1 ⟨rfl, hb1⟩
    have HB1 := Lib.hid hb1
    clear hb1
    go_wp2_with fail
    go_ret2
    exact ⟨rfl, HB1.out⟩
end Go.Proofs.YtcikohbcndppkaaDoor
