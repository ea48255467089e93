/- NewDesk: desks held against each other, marked, looked at again; the new desk of the specification; the law over the program's contract. -/
import Derived.Test.YtfplcckfljemeaaT4
import Derived.LoopTactic
namespace Go.Proofs.Ytfplcckfljemeaa
open Go.RowKit

theorem num_zero : Num 0 := ⟨by omega, by decide +kernel⟩
theorem num_one : Num 1065353216 := ⟨by omega, by decide +kernel⟩

set_option maxHeartbeats 1000000 in
theorem eqSpinor_any (a b c d : Nat) (w : World) (ha : Num a) (hb : Num b) (hc : Num c) (hd : Num d) :
    Calls Try.prog 11 #[.agg #[.complex .f32 a b, .complex .f32 c d], .agg #[.complex .f32 a b, .complex .f32 c d]] w fun e w' => e = .returned (.bool true) ∧ Below w.heap.size w w' := by
  obtain ⟨x0, y0, cv0, sm0⟩ := same_pair a b ha.1 hb.1 ha.2 hb.2
  obtain ⟨x1, y1, cv1, sm1⟩ := same_pair c d hc.1 hd.1 hc.2 hd.2
  have S0 := Lib.hid sm0
  have S1 := Lib.hid sm1
  clear sm0 sm1 ha hb hc hd
  go_enter Try.func11, Try.ntmps11
  go_wp2
  go_loopw [5] (fun i wr => (i = .int .i64 0 ∨ i = .int .i64 1 ∨ i = .int .i64 2) ∧ ∃ n, wr = ((w.alloc (.cells #[.complex .f32 a b, .complex .f32 c d] 24)).alloc (.cells #[.complex .f32 a b, .complex .f32 c d] 24)).drewN n) (fun i _ => 2 - (intOf i).toNat)
  case atStart => exact ⟨.inl rfl, 0, rfl⟩
  case round =>
    obtain ⟨rfl | rfl | rfl, n, rfl⟩ := hrel
    · go_wp2_with fail
      go_quiet ((go_at_call 16; exact still_call S0.out _ _ _))
      go_wp2_with fail
      go_roundw
      case rel => exact ⟨.inr (.inl (by go_num)), _, rfl⟩
      case measure => simp [intOf]
    · go_wp2_with fail
      go_quiet ((go_at_call 16; exact still_call S1.out _ _ _))
      go_wp2_with fail
      go_roundw
      case rel => exact ⟨.inr (.inr (by go_num)), _, rfl⟩
      case measure => simp [intOf]
    · go_wp2_with fail
      go_ret
      exact ⟨rfl, below_drewN (((Below.refl _ _).alloc (Nat.le_refl _) _).alloc (by simp) _) _⟩

theorem eqSpinors_nil (w : World) : Calls Try.prog 13 #[.slice none 0 0, .slice none 0 0] w fun e w' => e = .returned (.bool true) ∧ w = w' := by
  go_enter Try.func13, Try.ntmps13
  go_wp2
  go_loopw [5] (fun i wr => i = .int .i64 0 ∧ wr = w) (fun _ _ => 0)
  case atStart => exact ⟨rfl, rfl⟩
  case round =>
    obtain ⟨rfl, rfl⟩ := hrel
    go_wp2_with fail
    go_ret
    exact ⟨rfl, rfl⟩

theorem markSpinors_nil (k : Int) (w : World) : Calls Try.prog 14 #[.slice none 0 0, .int .i64 k] w fun e w' => e = .returned (.int .i64 k) ∧ w = w' := by
  go_enter Try.func14, Try.ntmps14
  go_wp2
  go_loopw [1, 5] (fun k' i wr => k' = .int .i64 k ∧ i = .int .i64 0 ∧ wr = w) (fun _ _ _ => 0)
  case atStart => exact ⟨rfl, rfl, rfl⟩
  case round =>
    obtain ⟨rfl, rfl, rfl⟩ := hrel
    go_wp2_with fail
    go_ret
    exact ⟨rfl, rfl⟩

theorem heldSpinors_nil (k : Int) (w : World) : Calls Try.prog 15 #[.slice none 0 0, .int .i64 k] w fun e w' => e = .returned (.int .i64 k) ∧ w = w' := by
  go_enter Try.func15, Try.ntmps15
  go_wp2
  go_loopw [1, 5] (fun k' i wr => k' = .int .i64 k ∧ i = .int .i64 0 ∧ wr = w) (fun _ _ _ => 0)
  case atStart => exact ⟨rfl, rfl, rfl⟩
  case round =>
    obtain ⟨rfl, rfl, rfl⟩ := hrel
    go_wp2_with fail
    go_ret
    exact ⟨rfl, rfl⟩

/-- The new desk, in a block. -/
structure DK (W : World) (B : Nat) : Prop where
  c0 : W.cell? ⟨B, 0, none⟩ = some (.complex .f32 1065353216 0)
  c1 : W.cell? ⟨B, 1, none⟩ = some (.complex .f32 0 0)
  c2 : W.cell? ⟨B, 2, none⟩ = some (.complex .f32 0 0)
  c3 : W.cell? ⟨B, 3, none⟩ = some (.complex .f32 1065353216 0)
  c4 : W.cell? ⟨B, 4, none⟩ = some (.complex .f32 1065353216 0)
  c5 : W.cell? ⟨B, 5, none⟩ = some (.complex .f32 0 0)
  c6 : W.cell? ⟨B, 6, none⟩ = some (.complex .f32 0 0)
  c7 : W.cell? ⟨B, 7, none⟩ = some (.complex .f32 1065353216 0)
  c8 : W.cell? ⟨B, 8, none⟩ = some (.slice none 0 0)
  lt : B < W.heap.size

theorem DK.below {W W' : World} {B : Nat} (h : DK W B) (hb : Below W.heap.size W W') : DK W' B :=
  ⟨(hb.cell (p := ⟨B, 0, none⟩) h.lt).trans h.c0, (hb.cell (p := ⟨B, 1, none⟩) h.lt).trans h.c1, (hb.cell (p := ⟨B, 2, none⟩) h.lt).trans h.c2, (hb.cell (p := ⟨B, 3, none⟩) h.lt).trans h.c3,
   (hb.cell (p := ⟨B, 4, none⟩) h.lt).trans h.c4, (hb.cell (p := ⟨B, 5, none⟩) h.lt).trans h.c5, (hb.cell (p := ⟨B, 6, none⟩) h.lt).trans h.c6, (hb.cell (p := ⟨B, 7, none⟩) h.lt).trans h.c7,
   (hb.cell (p := ⟨B, 8, none⟩) h.lt).trans h.c8, Nat.lt_of_lt_of_le h.lt hb.size⟩

theorem DK.new (W : World) (T : TypeId) : DK (W.alloc (.cells #[.complex .f32 1065353216 0, .complex .f32 0 0, .complex .f32 0 0, .complex .f32 1065353216 0, .complex .f32 1065353216 0, .complex .f32 0 0, .complex .f32 0 0, .complex .f32 1065353216 0, .slice none 0 0] T)) W.heap.size :=
  ⟨by simp [go_sem], by simp [go_sem], by simp [go_sem], by simp [go_sem], by simp [go_sem], by simp [go_sem], by simp [go_sem], by simp [go_sem], by simp [go_sem], by simp⟩

def deskV : Value := .agg #[.complex .f32 1065353216 0, .complex .f32 0 0, .complex .f32 0 0, .complex .f32 1065353216 0, .complex .f32 1065353216 0, .complex .f32 0 0, .complex .f32 0 0, .complex .f32 1065353216 0, .slice none 0 0]

set_option maxRecDepth 100000 in
set_option maxHeartbeats 2000000 in
theorem eqDesk_new (w : World) : Calls Try.prog 6 #[deskV, deskV] w fun e w' => e = .returned (.bool true) ∧ Below w.heap.size w w' := by
  have E1 := Lib.hid (fun w => eqSpinor_any 1065353216 0 0 0 w num_one num_zero num_zero num_zero)
  have E2 := Lib.hid (fun w => eqSpinor_any 0 0 1065353216 0 w num_zero num_zero num_one num_zero)
  have ET := Lib.hid (fun w => eqTurn_any 1065353216 0 0 0 0 0 1065353216 0 w num_one num_zero num_zero num_zero num_zero num_zero num_one num_zero)
  have D1 := Lib.hid ((DK.new w 29).below ((Below.refl _ _).alloc (Nat.le_refl _) (.cells #[.complex .f32 1065353216 0, .complex .f32 0 0, .complex .f32 0 0, .complex .f32 1065353216 0, .complex .f32 1065353216 0, .complex .f32 0 0, .complex .f32 0 0, .complex .f32 1065353216 0, .slice none 0 0] 29)))
  have D2 := Lib.hid (show DK ((w.alloc (.cells #[.complex .f32 1065353216 0, .complex .f32 0 0, .complex .f32 0 0, .complex .f32 1065353216 0, .complex .f32 1065353216 0, .complex .f32 0 0, .complex .f32 0 0, .complex .f32 1065353216 0, .slice none 0 0] 29)).alloc (.cells #[.complex .f32 1065353216 0, .complex .f32 0 0, .complex .f32 0 0, .complex .f32 1065353216 0, .complex .f32 1065353216 0, .complex .f32 0 0, .complex .f32 0 0, .complex .f32 1065353216 0, .slice none 0 0] 29)) (w.heap.size + 1) by
    have := DK.new (w.alloc (.cells #[.complex .f32 1065353216 0, .complex .f32 0 0, .complex .f32 0 0, .complex .f32 1065353216 0, .complex .f32 1065353216 0, .complex .f32 0 0, .complex .f32 0 0, .complex .f32 1065353216 0, .slice none 0 0] 29)) 29
    simpa using this)
  have HB := Lib.hid (((Below.refl w.heap.size w).alloc (Nat.le_refl _) (.cells #[.complex .f32 1065353216 0, .complex .f32 0 0, .complex .f32 0 0, .complex .f32 1065353216 0, .complex .f32 1065353216 0, .complex .f32 0 0, .complex .f32 0 0, .complex .f32 1065353216 0, .slice none 0 0] 29)).alloc (by simp) (.cells #[.complex .f32 1065353216 0, .complex .f32 0 0, .complex .f32 0 0, .complex .f32 1065353216 0, .complex .f32 1065353216 0, .complex .f32 0 0, .complex .f32 0 0, .complex .f32 1065353216 0, .slice none 0 0] 29))
  have EN := Lib.hid eqSpinors_nil
  unfold deskV
  go_enter Try.func6, Try.ntmps6
  go_wp2_with fail
  refine (E1.out _).mono ?_
  rintro e w1 ⟨rfl, hb⟩
  have D11 := Lib.hid (D1.out.below hb)
  have D21 := Lib.hid (D2.out.below hb)
  have HB1 := Lib.hid (below_step hb HB.out HB.out.size)
  clear hb
  obtain ⟨a0, a1, a2, a3, a4, a5, a6, a7, a8, al⟩ := D11.out
  obtain ⟨b0, b1, b2, b3, b4, b5, b6, b7, b8, bl⟩ := D21.out
  go_wp2_with fail
  refine (E2.out _).mono ?_
  rintro e w2 ⟨rfl, hb⟩
  have D12 := Lib.hid (D11.out.below hb)
  have D22 := Lib.hid (D21.out.below hb)
  have HB2 := Lib.hid (below_step hb HB1.out HB1.out.size)
  clear hb a0 a1 a2 a3 a4 a5 a6 a7 a8 al b0 b1 b2 b3 b4 b5 b6 b7 b8 bl
  obtain ⟨a0, a1, a2, a3, a4, a5, a6, a7, a8, al⟩ := D12.out
  obtain ⟨b0, b1, b2, b3, b4, b5, b6, b7, b8, bl⟩ := D22.out
  go_wp2_with fail
  refine (ET.out _).mono ?_
  rintro e w3 ⟨rfl, hb⟩
  have D13 := Lib.hid (D12.out.below hb)
  have D23 := Lib.hid (D22.out.below hb)
  have HB3 := Lib.hid (below_step hb HB2.out HB2.out.size)
  clear hb a0 a1 a2 a3 a4 a5 a6 a7 a8 al b0 b1 b2 b3 b4 b5 b6 b7 b8 bl
  obtain ⟨a0, a1, a2, a3, a4, a5, a6, a7, a8, al⟩ := D13.out
  obtain ⟨b0, b1, b2, b3, b4, b5, b6, b7, b8, bl⟩ := D23.out
  go_wp2_with fail
  refine (EN.out _).mono ?_
  rintro e w4 ⟨rfl, rfl⟩
  go_wp2_with fail
  go_ret
  exact ⟨rfl, HB3.out⟩

set_option maxHeartbeats 1000000 in
theorem markDesk_new (k : Int) (w : World) : Calls Try.prog 7 #[deskV, .int .i64 k] w fun e w' => e = .returned (.int .i64 k) ∧ Below w.heap.size w w' := by
  have EN := Lib.hid (fun w => markSpinors_nil k w)
  unfold deskV
  go_enter Try.func7, Try.ntmps7
  go_wp2_with fail
  refine (EN.out _).mono ?_
  rintro e w4 ⟨rfl, rfl⟩
  go_wp2_with fail
  go_ret
  exact ⟨rfl, (Below.refl _ _).alloc (Nat.le_refl _) _⟩

set_option maxHeartbeats 1000000 in
theorem heldDesk_new (w : World) : Calls Try.prog 8 #[deskV, .int .i64 1] w fun e w' => e = .returned (.int .i64 1) ∧ Below w.heap.size w w' := by
  have EN := Lib.hid (fun w => heldSpinors_nil 1 w)
  unfold deskV
  go_enter Try.func8, Try.ntmps8
  go_wp2_with fail
  refine (EN.out _).mono ?_
  rintro e w4 ⟨rfl, rfl⟩
  go_wp2_with fail
  go_ret
  exact ⟨rfl, (Below.refl _ _).alloc (Nat.le_refl _) _⟩
end Go.Proofs.Ytfplcckfljemeaa
