/- The specification's ParseComplex. -/
import Derived.Test.YtcikohbcndppkaaDoorSpl
namespace Go.Proofs.YtcikohbcndppkaaDoor
open Go.RowKit

theorem ofList (p : List UInt8) : ((⟨p.toArray⟩ : ByteArray)).data.toList = p := rfl

theorem owns_two {w : World} {base : Nat} {e : TypeId} {v : Value} {a b : Value} (h : w.ownsRow base e 1 v 2 [a, b]) : ∃ g cap, v = .slice (some ⟨g, 0, none⟩) 2 cap ∧ w.cell? ⟨g, 0, none⟩ = some a ∧ w.cell? ⟨g, 1, none⟩ = some b := by
  have hc := fun g hg => World.ownsRow.cells h (g := g) hg
  obtain ⟨_, ⟨_, h0⟩ | ⟨g, cap, cur, rfl, _⟩⟩ := h
  · exact absurd h0 (by omega)
  · have h0 := hc g rfl 0 a rfl
    have h1 := hc g rfl 1 b rfl
    rw [Lib.add_plain] at h0 h1
    exact ⟨g, cap, rfl, h0, h1⟩

theorem owns_len {w : World} {base : Nat} {e : TypeId} {v : Value} {n : Nat} {xs : List Value} (h : w.ownsRow base e 1 v n xs) : ∃ a cap, v = .slice a n cap := by
  obtain ⟨_, ⟨h1, h0⟩ | ⟨g, cap, cur, rfl, _⟩⟩ := h
  · exact ⟨_, _, by rw [h1, h0]⟩
  · exact ⟨_, _, rfl⟩

def noCx : Value := .tuple #[.complex .f32 0 0, .bool false]

set_option maxRecDepth 100000 in
/-- Two pieces, of which x, y and whether they are numbers is known. -/
theorem read_two (s : ByteArray) (p q : List UInt8) (x y : Nat) (b c : Bool) (hmax : s.size ≤ 1048576) (hs : splitAux [] s.data.toList = [p, q])
    (hp : ∀ w, Calls Tryd.prog 12 #[str p] w fun e w' => e = .returned (.tuple #[.float .f32 x, .bool b]) ∧ w = w')
    (hq : ∀ w, Calls Tryd.prog 12 #[str q] w fun e w' => e = .returned (.tuple #[.float .f32 y, .bool c]) ∧ w = w') (w : World) :
    Calls Tryd.prog 7 #[.string s] w fun e w' => e = .returned (if b && c then .tuple #[.complex .f32 x y, .bool true] else noCx) ∧ Below w.heap.size w w' := by
  have HS := Lib.hid (fun w => split_any s hmax w)
  have HE := Lib.hid hs
  have HP := Lib.hid hp
  have HQ := Lib.hid hq
  clear hmax hs hp hq
  cases b <;> cases c
  all_goals
    go_enter Tryd.func7, Tryd.ntmps7
    go_wp2_with fail
    refine (HS.out _).mono ?_
    rintro e w1 ⟨v, rfl, hown, hb⟩
    rw [HE.out] at hown
    obtain ⟨g, cap, rfl, h0, h1⟩ := owns_two hown
    have HB := Lib.hid hb
    clear hb hown
    go_wp2_with fail
    refine (HP.out _).mono ?_
    rintro e w2 ⟨rfl, rfl⟩
    go_wp2_with fail
    refine (HQ.out _).mono ?_
    rintro e w2 ⟨rfl, rfl⟩
    go_wp2_with fail
    go_ret2
    exact ⟨rfl, HB.out⟩

set_option maxRecDepth 100000 in
theorem read_not (s : ByteArray) (hmax : s.size ≤ 1048576) (hs : (splitAux [] s.data.toList).length ≠ 2) (w : World) :
    Calls Tryd.prog 7 #[.string s] w fun e w' => e = .returned noCx ∧ Below w.heap.size w w' := by
  have HS := Lib.hid (fun w => split_any s hmax w)
  have HE : Hid ((((splitAux [] s.data.toList).length : Int) == 2) = false) := Lib.hid (by rw [beq_eq_false_iff_ne]; omega)
  clear hmax hs
  go_enter Tryd.func7, Tryd.ntmps7
  go_wp2_with fail
  refine (HS.out _).mono ?_
  rintro e w1 ⟨v, rfl, hown, hb⟩
  obtain ⟨a, cap, rfl⟩ := owns_len hown
  have h2 := HE.out
  generalize (splitAux [] s.data.toList).length = n at h2 ⊢
  have HB := Lib.hid hb
  clear hb hown HE
  go_wp2_with fail
  go_ret2
  exact ⟨rfl, HB.out⟩

theorem ite_noCx (x y : Nat) (b c : Bool) (h : b = false ∨ c = false) : (if b && c then Value.tuple #[.complex .f32 x y, .bool true] else noCx) = noCx := by
  rcases h with rfl | rfl
  · rfl
  · rw [Bool.and_false]; rfl

theorem specRead_yes (s : ByteArray) (i j : Int) (h : IsText s.data.toList i j) (hmax : s.size ≤ 1048576) (w : World) :
    Calls Tryd.prog 7 #[.string s] w fun e w' => e = .returned (.tuple #[.complex .f32 (wordAt i) (wordAt j), .bool true]) ∧ Below w.heap.size w w' := by
  obtain ⟨hi, hj, hl⟩ := h
  have hs : splitAux [] s.data.toList = [Hex.itxt i, Hex.itxt j] := by
    rw [hl, split_at _ _ _ (comma_txt i), split_no _ _ (comma_txt j)]; rfl
  exact read_two s _ _ (wordAt i) (wordAt j) true true hmax hs (fun w => seen_yes _ i hi (ofList _) w) (fun w => seen_yes _ j hj (ofList _) w) w

theorem seen_some (p : List UInt8) : ∃ (x : Nat) (b : Bool), (∀ w, Calls Tryd.prog 12 #[str p] w fun e w' => e = .returned (.tuple #[.float .f32 x, .bool b]) ∧ w = w') ∧ (b = true → ∃ i, InRange i ∧ p = Hex.itxt i) := by
  by_cases h : ∃ i, InRange i ∧ p = Hex.itxt i
  · obtain ⟨i, hr, rfl⟩ := h
    exact ⟨wordAt i, true, fun w => seen_yes _ i hr (ofList _) w, fun _ => ⟨i, hr, rfl⟩⟩
  · exact ⟨0, false, fun w => seen_no _ (fun i hr e => h ⟨i, hr, (ofList p).symm.trans e⟩) w, fun hb => by cases hb⟩

theorem specRead_no (s : ByteArray) (h : ∀ i j, ¬ IsText s.data.toList i j) (hmax : s.size ≤ 1048576) (w : World) :
    Calls Tryd.prog 7 #[.string s] w fun e w' => e = .returned noCx ∧ Below w.heap.size w w' := by
  by_cases hc : (44 : UInt8) ∈ s.data.toList
  · obtain ⟨a, b, hl, ha⟩ := first_comma _ hc
    by_cases hb : (44 : UInt8) ∈ b
    · obtain ⟨a', b', hl', ha'⟩ := first_comma _ hb
      refine read_not s hmax ?_ w
      rw [hl, split_at _ _ _ ha, hl', split_at _ _ _ ha']
      have := split_pos [] b'
      simp only [List.length_cons]
      omega
    · have hs : splitAux [] s.data.toList = [a, b] := by rw [hl, split_at _ _ _ ha, split_no _ _ hb]; rfl
      obtain ⟨x, bx, hx, kx⟩ := seen_some a
      obtain ⟨y, cy, hy, ky⟩ := seen_some b
      have hr := read_two s a b x y bx cy hmax hs hx hy w
      rw [ite_noCx] at hr
      · exact hr
      · cases bx
        · exact .inl rfl
        · cases cy
          · exact .inr rfl
          · obtain ⟨i, hi, ei⟩ := kx rfl
            obtain ⟨j, hj, ej⟩ := ky rfl
            exact absurd ⟨hi, hj, by rw [hl, ei, ej]⟩ (h i j)
  · refine read_not s hmax ?_ w
    rw [split_no _ _ hc]
    simp

theorem specParse_yes (s : ByteArray) (i j : Int) (h : IsText s.data.toList i j) (hmax : s.size ≤ 1048576) (w : World) :
    Calls Tryd.prog 4 #[.string s] w fun e w' => e = .returned (.tuple #[.complex .f32 (wordAt i) (wordAt j), .int .i64 0]) ∧ Below w.heap.size w w' := by
  have HR := Lib.hid (specRead_yes s i j h hmax w)
  clear h hmax
  go_enter Tryd.func4, Tryd.ntmps4
  go_wp2_with fail
  refine HR.out.mono ?_
  rintro e w1 ⟨rfl, hb⟩
  go_wp2_with fail
  go_ret2
  exact ⟨rfl, hb⟩

theorem specParse_no (s : ByteArray) (h : ∀ i j, ¬ IsText s.data.toList i j) (hmax : s.size ≤ 1048576) (w : World) :
    Calls Tryd.prog 4 #[.string s] w fun e w' => e = .returned (.tuple #[.complex .f32 0 0, .int .i64 6]) ∧ Below w.heap.size w w' := by
  have hr := specRead_no s h hmax w
  unfold noCx at hr
  have HR := Lib.hid hr
  clear hr
  clear h hmax
  go_enter Tryd.func4, Tryd.ntmps4
  go_wp2_with fail
  refine HR.out.mono ?_
  rintro e w1 ⟨rfl, hb⟩
  go_wp2_with fail
  go_ret2
  exact ⟨rfl, hb⟩
end Go.Proofs.YtcikohbcndppkaaDoor
