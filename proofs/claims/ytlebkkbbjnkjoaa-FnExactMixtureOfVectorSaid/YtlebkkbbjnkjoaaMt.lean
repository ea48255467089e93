/- Walks: mixtures of vectors, those of the specification: whether a table is a mixture. -/
import Derived.Test.YtlebkkbbjnkjoaaMs
import Derived.Lib.QuietBelow
namespace Go.Proofs.Ytlebkkbbjnkjoaa
open Go.RowKit

theorem ord_three {x : Nat} (h : Num x) : FloatKind.f32.format.order x 0 = some .lt ∨ FloatKind.f32.format.order x 0 = some .eq ∨ FloatKind.f32.format.order x 0 = some .gt := by
  obtain ⟨s, m, e, _, hf, rfl⟩ := fin_fit x h.1 h.2
  rw [ord0S s m e hf]
  rcases compare (Flt.sv s m) 0 with _ | _ | _ <;> simp

set_option maxHeartbeats 1000000 in
theorem l06Is_ok {a d x y : Nat} (ha : Num a) (hd : Num d) (hx : Num x) (hy : Num y) (w : World) :
    Calls Try.prog 48 #[(mixTb a d x y).v] w fun e w' => e = .returned (.bool (geq0 a && geq0 d)) ∧ Below w.heap.size w w' := by
  have A := Lib.hid (fun w => isTableS_ok (mix_tf ha hd hx hy) w)
  have C := Lib.hid (fun w => l01Conj_any x y w)
  have o0 : FloatKind.f32.format.order 0 0 = some .eq := by decide +kernel
  have o1 : FloatKind.f32.format.order x x = some .eq := ord_self x hx.1 hx.2
  have o2 : FloatKind.f32.format.order (Op.negFloat .f32 y) (Op.negFloat .f32 y) = some .eq := ord_self _ (num_neg' hy).1 (num_neg' hy).2
  have hoa := ord_three ha
  have hod := ord_three hd
  have hga : ∀ c, FloatKind.f32.format.order a 0 = some c → geq0 a = (c != .lt) := fun c h => by unfold geq0; rw [h]; cases c <;> rfl
  have hgd : ∀ c, FloatKind.f32.format.order d 0 = some c → geq0 d = (c != .lt) := fun c h => by unfold geq0; rw [h]; cases c <;> rfl
  have hcase : (FloatKind.f32.format.order a 0 = some .lt ∧ (geq0 a && geq0 d) = false) ∨ (FloatKind.f32.format.order a 0 = some .eq ∧ FloatKind.f32.format.order d 0 = some .lt ∧ (geq0 a && geq0 d) = false) ∨ (FloatKind.f32.format.order a 0 = some .gt ∧ FloatKind.f32.format.order d 0 = some .lt ∧ (geq0 a && geq0 d) = false) ∨
      (FloatKind.f32.format.order a 0 = some .eq ∧ FloatKind.f32.format.order d 0 = some .eq ∧ (geq0 a && geq0 d) = true) ∨ (FloatKind.f32.format.order a 0 = some .eq ∧ FloatKind.f32.format.order d 0 = some .gt ∧ (geq0 a && geq0 d) = true) ∨
      (FloatKind.f32.format.order a 0 = some .gt ∧ FloatKind.f32.format.order d 0 = some .eq ∧ (geq0 a && geq0 d) = true) ∨ (FloatKind.f32.format.order a 0 = some .gt ∧ FloatKind.f32.format.order d 0 = some .gt ∧ (geq0 a && geq0 d) = true) := by
    rcases hoa with h | h | h
    · exact .inl ⟨h, by rw [hga _ h]; rfl⟩
    · rcases hod with g | g | g
      · exact .inr (.inl ⟨h, g, by rw [hga _ h, hgd _ g]; rfl⟩)
      · exact .inr (.inr (.inr (.inl ⟨h, g, by rw [hga _ h, hgd _ g]; rfl⟩)))
      · exact .inr (.inr (.inr (.inr (.inl ⟨h, g, by rw [hga _ h, hgd _ g]; rfl⟩))))
    · rcases hod with g | g | g
      · exact .inr (.inr (.inl ⟨h, g, by rw [hga _ h, hgd _ g]; rfl⟩))
      · exact .inr (.inr (.inr (.inr (.inr (.inl ⟨h, g, by rw [hga _ h, hgd _ g]; rfl⟩)))))
      · exact .inr (.inr (.inr (.inr (.inr (.inr ⟨h, g, by rw [hga _ h, hgd _ g]; rfl⟩)))))
  clear ha hd hx hy hoa hod hga hgd
  generalize (geq0 a && geq0 d) = p at *
  unfold mixTb Tb.v at *
  simp only [Cx.v] at *
  generalize Op.negFloat .f32 y = z at *
  rcases hcase with ⟨h1, rfl⟩ | ⟨h1, h2, rfl⟩ | ⟨h1, h2, rfl⟩ | ⟨h1, h2, rfl⟩ | ⟨h1, h2, rfl⟩ | ⟨h1, h2, rfl⟩ | ⟨h1, h2, rfl⟩
  all_goals
    go_enter Try.func48, Try.ntmps48
    go_wp2_with fail
    generalize hW0 : w.alloc (.cells #[.complex .f32 a 0, .complex .f32 x z, .complex .f32 x y, .complex .f32 d 0] 27) = W0
    have hs : W0.heap.size = w.heap.size + 1 := by subst hW0; simp
    have k0 := cell_regrown (w := W0) (a := ⟨w.heap.size, 0, none⟩) (v := .complex .f32 a 0) (by subst hW0; simp [go_sem])
    have k1 := cell_regrown (w := W0) (a := ⟨w.heap.size, 1, none⟩) (v := .complex .f32 x z) (by subst hW0; simp [go_sem])
    have k2 := cell_regrown (w := W0) (a := ⟨w.heap.size, 2, none⟩) (v := .complex .f32 x y) (by subst hW0; simp [go_sem])
    have k3 := cell_regrown (w := W0) (a := ⟨w.heap.size, 3, none⟩) (v := .complex .f32 d 0) (by subst hW0; simp [go_sem])
    have HB := Lib.hid ((Below.refl w.heap.size w).alloc (Nat.le_refl _) (.cells #[.complex .f32 a 0, .complex .f32 x z, .complex .f32 x y, .complex .f32 d 0] 27))
    rw [hW0] at HB
    clear hW0
    refine wp_region_quiet_below (by kernel_rfl) (by kernel_rfl) ?_
    repeat (go_big_quiet_step (first | (go_at_call 65; exact Calls.regrown_of (A.out _)) | (go_at_call 86; exact Calls.regrown_of ((C.out _).mono (by rintro e w' ⟨rfl, rfl⟩; exact ⟨rfl, Below.refl _ _⟩)))))
    refine wpQuiet_nil ?_
    intro _ hw'
    obtain ⟨⟨dq, osq⟩, hw''⟩ := hw'
    subst hw''
    go_wp2_with fail
    go_ret
    exact ⟨rfl, below_step (below_regrown W0 dq osq) HB.out (by omega)⟩
end Go.Proofs.Ytlebkkbbjnkjoaa
