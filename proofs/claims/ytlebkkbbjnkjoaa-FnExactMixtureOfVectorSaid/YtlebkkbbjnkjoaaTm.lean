/- Walks: products of tables, those of the program. -/
import Derived.Test.YtlebkkbbjnkjoaaTb
namespace Go.Proofs.Ytlebkkbbjnkjoaa
open Go.RowKit

def pair (z w : Cx) : Value := .agg #[z.v, w.v]

/-- What the program's entry walks over. -/
theorem ent_add {z w z' w' : Cx} (h : EntOk z w z' w') (W : World) :
    Calls Try.prog 125 #[z.v, w.v, z'.v, w'.v] W fun e W' => e = .returned (.tuple #[(ent z w z' w').v, .int .i64 0]) ∧ W = W' := by
  obtain ⟨k, h⟩ := h
  exact addProducts_ok h W

set_option maxRecDepth 100000 in
set_option maxHeartbeats 2000000 in
theorem apply_ok {s : Tb} {x y : Cx} (h0 : EntOk s.a x s.b y) (h1 : EntOk s.c x s.d y) (w : World) :
    Calls Try.prog 100 #[s.v, pair x y] w fun e w' => e = .returned (.tuple #[pair (ent s.a x s.b y) (ent s.c x s.d y), .int .i64 0]) ∧ Below w.heap.size w w' := by
  have p0 := ent_add h0
  have p1 := ent_add h1
  unfold pair Tb.v
  clear h0 h1
  generalize ent s.a x s.b y = e0 at *
  generalize ent s.c x s.d y = e1 at *
  obtain ⟨⟨a0, a1⟩, ⟨a2, a3⟩, ⟨a4, a5⟩, ⟨a6, a7⟩⟩ := s
  obtain ⟨xr, xi⟩ := x
  obtain ⟨yr, yi⟩ := y
  obtain ⟨e0r, e0i⟩ := e0
  obtain ⟨e1r, e1i⟩ := e1
  simp only [Cx.v] at *
  have P0 := Lib.hid p0
  have P1 := Lib.hid p1
  clear p0 p1
  have hmk : ∀ w, (Instr.makeSlice 143 (.int .i64 0) (.int .i64 2)).run Try.prog w = .ok (.slice (some ⟨w.heap.size, 0, none⟩) 0 2) (w.alloc (.cells #[.complex .f32 0 0, .complex .f32 0 0] 24)) := fun _ => by kernel_rfl
  have hi0 : ∀ w, (Instr.index 27 (.agg #[.complex .f32 a0 a1, .complex .f32 a2 a3, .complex .f32 a4 a5, .complex .f32 a6 a7]) (.int .i64 0)).run Try.prog w = .ok (.agg #[.complex .f32 a0 a1, .complex .f32 a2 a3]) w := fun _ => by kernel_rfl
  have hi1 : ∀ w, (Instr.index 27 (.agg #[.complex .f32 a0 a1, .complex .f32 a2 a3, .complex .f32 a4 a5, .complex .f32 a6 a7]) (.int .i64 1)).run Try.prog w = .ok (.agg #[.complex .f32 a4 a5, .complex .f32 a6 a7]) w := fun _ => by kernel_rfl
  have hat : ∀ (b : Nat) w, (Instr.arrayAt 53 (.slice (some ⟨b, 0, none⟩) 2 2)).run Try.prog w = .ok (.pointer (some ⟨b, 0, none⟩)) w := fun _ _ => by kernel_rfl
  go_enter Try.func100, Try.ntmps100
  go_wp2
  generalize hW0 : (((w.alloc (.cells #[.complex .f32 a0 a1, .complex .f32 a2 a3, .complex .f32 a4 a5, .complex .f32 a6 a7] 27)).alloc (.cells #[.complex .f32 xr xi, .complex .f32 yr yi] 53)).alloc (.cells #[.complex .f32 0 0, .complex .f32 0 0] 53)) = W0
  have hs : W0.heap.size = w.heap.size + 1 + 1 + 1 := by subst hW0; simp
  go_loopw [6, 13] (fun s i wr => (i = .int .i64 0 ∧ s = .slice (some ⟨w.heap.size + 1 + 1 + 1, 0, none⟩) 0 2 ∧ wr = W0.alloc (.cells #[.complex .f32 0 0, .complex .f32 0 0] 24)) ∨
    (i = .int .i64 1 ∧ s = .slice (some ⟨w.heap.size + 1 + 1 + 1, 0, none⟩) 1 2 ∧ wr = ((W0.alloc (.cells #[.complex .f32 e0r e0i, .complex .f32 0 0] 24)).alloc (.cells #[.complex .f32 a0 a1, .complex .f32 a2 a3] 25)).alloc (.cells #[.complex .f32 e0r e0i] 24)) ∨
    (i = .int .i64 2 ∧ s = .slice (some ⟨w.heap.size + 1 + 1 + 1, 0, none⟩) 2 2 ∧ wr = ((((W0.alloc (.cells #[.complex .f32 e0r e0i, .complex .f32 e1r e1i] 24)).alloc (.cells #[.complex .f32 a0 a1, .complex .f32 a2 a3] 25)).alloc (.cells #[.complex .f32 e0r e0i] 24)).alloc (.cells #[.complex .f32 a4 a5, .complex .f32 a6 a7] 25)).alloc (.cells #[.complex .f32 e1r e1i] 24))) (fun _ i _ => 2 - (intOf i).toNat)
  case atStart => exact .inl ⟨rfl, rfl, rfl⟩
  case round =>
    clear hs
    rcases hrel with ⟨rfl, rfl, rfl⟩ | ⟨rfl, rfl, rfl⟩ | ⟨rfl, rfl, rfl⟩
    · subst hW0
      go_wp2_with fail
      refine (P0.out _).mono ?_
      rintro e w' ⟨rfl, rfl⟩
      go_wp2_with fail
      go_roundw
      case rel => exact .inr (.inl ⟨by go_num, rfl, by first | rfl | trivial⟩)
      case measure => simp [intOf]
    · subst hW0
      go_wp2_with fail
      refine (P1.out _).mono ?_
      rintro e w' ⟨rfl, rfl⟩
      go_wp2_with fail
      go_roundw
      case rel => exact .inr (.inr ⟨by go_num, rfl, by first | rfl | trivial⟩)
      case measure => simp [intOf]
    · subst hW0
      go_wp2_with fail
      refine bodyPost_ret (v := .tuple #[.agg #[.complex .f32 e0r e0i, .complex .f32 e1r e1i], .int .i64 0]) (by simp [results, Try.results100, go_sem]) rfl ⟨rfl, ?_⟩
      all_goals repeat first
        | exact Below.refl _ _
        | refine Below.alloc ?_ ?_ _
        | refine Below.setCell ?_ ?_ _
      all_goals first | omega | (simp; done) | (simp; omega)
end Go.Proofs.Ytlebkkbbjnkjoaa
