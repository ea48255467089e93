/- Walks: whether a table is a mixture, of the program. -/
import Derived.Test.YtlebkkbbjnkjoaaMi
namespace Go.Proofs.Ytlebkkbbjnkjoaa
open Go.RowKit

/-- A row, a table, held against itself. -/
theorem eql_row {a b c d : Nat} (ha : Num a) (hb : Num b) (hc : Num c) (hd : Num d) (w : World) :
    (Op.equalIn 9999 25 (.agg #[.complex .f32 a b, .complex .f32 c d]) (.agg #[.complex .f32 a b, .complex .f32 c d])).run Try.prog w = .ok true w := by
  rw [run_equalIn_array w 9998 2 1 25 24 _ _ Try.underlying25 (by kernel_rfl)]
  have h0 : ∀ (x y z u : Nat) (w : World), (part 24 #[.complex .f32 x y, .complex .f32 z u] (0 * 1)).run Try.prog w = .ok (.complex .f32 x y) w := fun _ _ _ _ _ => by kernel_rfl
  have h1 : ∀ (x y z u : Nat) (w : World), (part 24 #[.complex .f32 x y, .complex .f32 z u] (1 * 1)).run Try.prog w = .ok (.complex .f32 z u) w := fun _ _ _ _ _ => by kernel_rfl
  have he : ∀ {x y : Nat} (_ : Num x) (_ : Num y) (w : World), (Op.equalIn 9998 24 (.complex .f32 x y) (.complex .f32 x y)).run Try.prog w = .ok true w := fun {x y} hx hy w => by
    rw [run_equalIn_complex w 9997 24 .f32 .f32 x y x y Try.underlying24, ord_self x hx.1 hx.2, ord_self y hy.1 hy.2]; rfl
  show (eqElems 9998 24 1 _ _ [0, 1]).run Try.prog w = _
  simp only [eqElems, Sem.run_bind, h0, h1, Result.andThen_ok, he ha hb, he hc hd, Sem.run_ite, Sem.run_pure]
  rfl

theorem eql_self {a b c d e f g h : Nat} (ha : Num a) (hb : Num b) (hc : Num c) (hd : Num d) (he : Num e) (hf : Num f) (hg : Num g) (hh : Num h) (w : World) :
    (binOp .eql 27 (.agg #[.complex .f32 a b, .complex .f32 c d, .complex .f32 e f, .complex .f32 g h]) (.agg #[.complex .f32 a b, .complex .f32 c d, .complex .f32 e f, .complex .f32 g h])).run Try.prog w = .ok (.bool true) w := by
  rw [run_eql_struct]
  rw [run_equalIn_array w 9999 2 2 27 25 _ _ Try.underlying27 (by kernel_rfl)]
  have h0 : ∀ (x y z u : Value) (w : World), (part 25 #[x, y, z, u] (0 * 2)).run Try.prog w = .ok (.agg #[x, y]) w := fun _ _ _ _ _ => by kernel_rfl
  have h1 : ∀ (x y z u : Value) (w : World), (part 25 #[x, y, z, u] (1 * 2)).run Try.prog w = .ok (.agg #[z, u]) w := fun _ _ _ _ _ => by kernel_rfl
  show ((eqElems 9999 25 2 _ _ [0, 1]).run Try.prog w).andThen _ = _
  simp only [eqElems, Sem.run_bind, h0, h1, Result.andThen_ok, eql_row ha hb hc hd, eql_row he hf hg hh, Sem.run_ite, Sem.run_pure]
  rfl

/-- How two numbers stand to 0: seven cases. -/
theorem geq_cases {a d : Nat} (ha : Num a) (hd : Num d) :
    (FloatKind.f32.format.order a 0 = some .lt ∧ (geq0 a && geq0 d) = false) ∨ (FloatKind.f32.format.order a 0 = some .eq ∧ FloatKind.f32.format.order d 0 = some .lt ∧ (geq0 a && geq0 d) = false) ∨ (FloatKind.f32.format.order a 0 = some .gt ∧ FloatKind.f32.format.order d 0 = some .lt ∧ (geq0 a && geq0 d) = false) ∨
      (FloatKind.f32.format.order a 0 = some .eq ∧ FloatKind.f32.format.order d 0 = some .eq ∧ (geq0 a && geq0 d) = true) ∨ (FloatKind.f32.format.order a 0 = some .eq ∧ FloatKind.f32.format.order d 0 = some .gt ∧ (geq0 a && geq0 d) = true) ∨
      (FloatKind.f32.format.order a 0 = some .gt ∧ FloatKind.f32.format.order d 0 = some .eq ∧ (geq0 a && geq0 d) = true) ∨ (FloatKind.f32.format.order a 0 = some .gt ∧ FloatKind.f32.format.order d 0 = some .gt ∧ (geq0 a && geq0 d) = true) := by
  have hga : ∀ c, FloatKind.f32.format.order a 0 = some c → geq0 a = (c != .lt) := fun c h => by unfold geq0; rw [h]; cases c <;> rfl
  have hgd : ∀ c, FloatKind.f32.format.order d 0 = some c → geq0 d = (c != .lt) := fun c h => by unfold geq0; rw [h]; cases c <;> rfl
  rcases ord_three ha with h | h | h
  · exact .inl ⟨h, by rw [hga _ h]; rfl⟩
  · rcases ord_three hd with g | g | g
    · exact .inr (.inl ⟨h, g, by rw [hga _ h, hgd _ g]; rfl⟩)
    · exact .inr (.inr (.inr (.inl ⟨h, g, by rw [hga _ h, hgd _ g]; rfl⟩)))
    · exact .inr (.inr (.inr (.inr (.inl ⟨h, g, by rw [hga _ h, hgd _ g]; rfl⟩))))
  · rcases ord_three hd with g | g | g
    · exact .inr (.inr (.inl ⟨h, g, by rw [hga _ h, hgd _ g]; rfl⟩))
    · exact .inr (.inr (.inr (.inr (.inr (.inl ⟨h, g, by rw [hga _ h, hgd _ g]; rfl⟩)))))
    · exact .inr (.inr (.inr (.inr (.inr (.inr ⟨h, g, by rw [hga _ h, hgd _ g]; rfl⟩)))))

set_option maxRecDepth 100000 in
set_option maxHeartbeats 2000000 in
theorem isMixture_ok {a d x y : Nat} (ha : Num a) (hd : Num d) (hx : Num x) (hy : Num y) (w : World) :
    Calls Try.prog 17 #[(mixTb a d x y).v] w fun e w' => e = .returned (.bool (geq0 a && geq0 d)) ∧ Below w.heap.size w w' := by
  have HI := Lib.hid (fun w => isTable_ok (mix_tf ha hd hx hy) w)
  have HT := Lib.hid (fun w => table_any a d x y w)
  have hq := eql_self ha num_nought hx (num_neg' hy) hx hy hd num_nought
  have hcase := geq_cases ha hd
  clear ha hd hx hy
  generalize (geq0 a && geq0 d) = p at *
  unfold mixTb Tb.v at *
  simp only [Cx.v] at *
  generalize Op.negFloat .f32 y = z at *
  rcases hcase with ⟨h1, rfl⟩ | ⟨h1, h2, rfl⟩ | ⟨h1, h2, rfl⟩ | ⟨h1, h2, rfl⟩ | ⟨h1, h2, rfl⟩ | ⟨h1, h2, rfl⟩ | ⟨h1, h2, rfl⟩
  all_goals
    go_enter Try.func17, Try.ntmps17
    go_wp2_with fail
    refine (mixtureIn_any _ _ _ _ _ _ _ _ _).mono ?_
    rintro e w1 ⟨rfl, hb1⟩
    obtain ⟨hc, hf⟩ := bcell hb1
    have hz : w.heap.size < w1.heap.size := by have := hb1.size; simp at this; omega
    have HB1 := Lib.hid hb1
    clear hb1
    go_wp2_with fail
    generalize hW0 : w1.alloc (.cells #[.float .f32 a, .float .f32 d, .complex .f32 x y] 69) = W0
    have hs : W0.heap.size = w1.heap.size + 1 := by subst hW0; simp
    have k0 := cell_regrown (w := W0) (a := ⟨w.heap.size, 0, none⟩) (v := .complex .f32 a 0) (by subst hW0; simp [go_sem, hc, hz])
    have k1 := cell_regrown (w := W0) (a := ⟨w.heap.size, 1, none⟩) (v := .complex .f32 x z) (by subst hW0; simp [go_sem, hc, hz])
    have k2 := cell_regrown (w := W0) (a := ⟨w.heap.size, 2, none⟩) (v := .complex .f32 x y) (by subst hW0; simp [go_sem, hc, hz])
    have k3 := cell_regrown (w := W0) (a := ⟨w.heap.size, 3, none⟩) (v := .complex .f32 d 0) (by subst hW0; simp [go_sem, hc, hz])
    have k4 := cell_regrown (w := W0) (a := ⟨w1.heap.size, 0, none⟩) (v := .float .f32 a) (by subst hW0; simp [go_sem])
    have k5 := cell_regrown (w := W0) (a := ⟨w1.heap.size, 1, none⟩) (v := .float .f32 d) (by subst hW0; simp [go_sem])
    have k6 := cell_regrown (w := W0) (a := ⟨w1.heap.size, 2, none⟩) (v := .complex .f32 x y) (by subst hW0; simp [go_sem])
    have HB := Lib.hid (show Below w.heap.size w W0 by
      rw [← hW0]
      refine Below.alloc ?_ (by omega) _
      refine below_step HB1.out ?_ ?_
      · exact (Below.refl _ _).alloc (Nat.le_refl _) _
      · simp)
    clear hW0 HB1 hc hf
    refine wp_region_quiet_below (by kernel_rfl) (by kernel_rfl) ?_
    repeat (go_big_quiet_step (first | (go_at_call 73; exact Calls.regrown_of (HI.out _)) | (go_at_call 50; exact Calls.regrown_of (HT.out _))))
    refine wpQuiet_nil ?_
    intro _ hw'
    obtain ⟨⟨dq, osq⟩, hw''⟩ := hw'
    subst hw''
    go_wp2_with fail
    go_ret
    exact ⟨rfl, below_step (below_regrown W0 dq osq) HB.out (by omega)⟩
end Go.Proofs.Ytlebkkbbjnkjoaa
