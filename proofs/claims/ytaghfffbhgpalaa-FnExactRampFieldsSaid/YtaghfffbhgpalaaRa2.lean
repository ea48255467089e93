/- A field of a ramp, of the program. -/
import Derived.Test.YtaghfffbhgpalaaRa1
import Derived.Test.YtaghfffbhgpalaaG5
import Derived.Test.YtaghfffbhgpalaaCr2
import Derived.LoopTactic
namespace Go.Proofs.Ytaghfffbhgpalaa
open Go.RowKit

theorem vr_drewN {W : World} {B x y z : Nat} (h : VR W B x y z) (n : Nat) : VR (W.drewN n) B x y z := h.below (below_drewN (Below.refl _ _) n)

theorem vr_set0 {W : World} {B x y z : Nat} (h : VR W B x y z) (v : Nat) : VR (W.setCell ⟨B, 0, none⟩ (.float .f32 v)) B v y z := by
  obtain ⟨c0, c1, c2, f0, f1, f2, lt⟩ := h
  exact ⟨World.cell?_setCell_same W ⟨B, 0, none⟩ _ c0, (World.cell?_setCell_other W ⟨B, 0, none⟩ ⟨B, 1, none⟩ _ (by intro e; injection e with _ e _; exact absurd e (by omega))).trans c1, (World.cell?_setCell_other W ⟨B, 0, none⟩ ⟨B, 2, none⟩ _ (by intro e; injection e with _ e _; exact absurd e (by omega))).trans c2, by simp [f0], by simp [f1], by simp [f2], by simpa using lt⟩

theorem vr_set1 {W : World} {B x y z : Nat} (h : VR W B x y z) (v : Nat) : VR (W.setCell ⟨B, 1, none⟩ (.float .f32 v)) B x v z := by
  obtain ⟨c0, c1, c2, f0, f1, f2, lt⟩ := h
  exact ⟨(World.cell?_setCell_other W ⟨B, 1, none⟩ ⟨B, 0, none⟩ _ (by intro e; injection e with _ e _; exact absurd e (by omega))).trans c0, World.cell?_setCell_same W ⟨B, 1, none⟩ _ c1, (World.cell?_setCell_other W ⟨B, 1, none⟩ ⟨B, 2, none⟩ _ (by intro e; injection e with _ e _; exact absurd e (by omega))).trans c2, by simp [f0], by simp [f1], by simp [f2], by simpa using lt⟩

theorem vr_set2 {W : World} {B x y z : Nat} (h : VR W B x y z) (v : Nat) : VR (W.setCell ⟨B, 2, none⟩ (.float .f32 v)) B x y v := by
  obtain ⟨c0, c1, c2, f0, f1, f2, lt⟩ := h
  exact ⟨(World.cell?_setCell_other W ⟨B, 2, none⟩ ⟨B, 0, none⟩ _ (by intro e; injection e with _ e _; exact absurd e (by omega))).trans c0, (World.cell?_setCell_other W ⟨B, 2, none⟩ ⟨B, 1, none⟩ _ (by intro e; injection e with _ e _; exact absurd e (by omega))).trans c1, World.cell?_setCell_same W ⟨B, 2, none⟩ _ c2, by simp [f0], by simp [f1], by simp [f2], by simpa using lt⟩

theorem vr_far {W : World} {B x y z p i : Nat} (h : VR W B x y z) (hne : p ≠ B) (v : Value) : VR (W.setCell ⟨p, i, none⟩ v) B x y z := by
  have o : ∀ j, (W.setCell ⟨p, i, none⟩ v).cell? ⟨B, j, none⟩ = W.cell? ⟨B, j, none⟩ := fun j => World.cell?_setCell_other W ⟨p, i, none⟩ ⟨B, j, none⟩ v (by intro e; injection e with e1; exact hne e1)
  obtain ⟨c0, c1, c2, f0, f1, f2, lt⟩ := h
  exact ⟨(o 0).trans c0, (o 1).trans c1, (o 2).trans c2, by simp [f0], by simp [f1], by simp [f2], by simpa using lt⟩

theorem vr_alloc {W : World} {B x y z : Nat} (h : VR W B x y z) (o : Obj) : VR (W.alloc o) B x y z := h.below ((Below.refl _ _).alloc (Nat.le_refl _) _)

theorem vecOr_of {x y z : Nat} (k : Int) : ∃ (r0 r1 r2 : Nat) (j : Int), vecOr k x y z = .tuple #[.agg #[.float .f32 r0, .float .f32 r1, .float .f32 r2], .int .i64 j] := by
  unfold vecOr
  split
  · exact ⟨_, _, _, _, rfl⟩
  · exact ⟨_, _, _, _, rfl⟩

/-- Four blocks at the head of a call's memory. -/
structure Bx (w W : World) (a b c a' b' c' x y z : Nat) : Prop where
  v0 : VR W w.heap.size a b c
  v1 : VR W (w.heap.size + 1) a' b' c'
  v2 : VR W (w.heap.size + 1 + 1) 0 0 0
  v3 : VR W (w.heap.size + 1 + 1 + 1) x y z
  hb : Below w.heap.size w W

theorem Bx.drewN {w W : World} {a b c a' b' c' x y z : Nat} (h : Bx w W a b c a' b' c' x y z) (n : Nat) : Bx w (W.drewN n) a b c a' b' c' x y z :=
  ⟨vr_drewN h.v0 n, vr_drewN h.v1 n, vr_drewN h.v2 n, vr_drewN h.v3 n, below_drewN h.hb n⟩

theorem Bx.set {w W : World} {a b c a' b' c' x y z x' y' z' i : Nat} {v : Value} (h : Bx w W a b c a' b' c' x y z) (h3 : VR (W.setCell ⟨w.heap.size + 1 + 1 + 1, i, none⟩ v) (w.heap.size + 1 + 1 + 1) x' y' z') : Bx w (W.setCell ⟨w.heap.size + 1 + 1 + 1, i, none⟩ v) a b c a' b' c' x' y' z' :=
  ⟨vr_far h.v0 (by omega) _, vr_far h.v1 (by omega) _, vr_far h.v2 (by omega) _, h3, h.hb.setCell (show w.heap.size ≤ w.heap.size + 1 + 1 + 1 by omega) _⟩

set_option maxRecDepth 100000 in
set_option maxHeartbeats 4000000 in
theorem fieldBetween_ok {a b c a' b' c' t u0 v0 x u1 v1 y u2 v2 z : Nat} (H0 : Btw a a' t u0 v0 x) (H1 : Btw b b' t u1 v1 y) (H2 : Btw c c' t u2 v2 z) (w : World) :
    Calls Try.prog 20 #[.agg #[.float .f32 a, .float .f32 b, .float .f32 c], .agg #[.float .f32 a', .float .f32 b', .float .f32 c'], .float .f32 t] w fun e w' => e = .returned (vecOr 3 x y z) ∧ Below w.heap.size w w' := by
  have HL := Lib.hid (fun w => vectorOrLimit_any x y z w H0.lt H1.lt H2.lt)
  obtain ⟨r0, r1, r2, j, hform⟩ := vecOr_of (x := x) (y := y) (z := z) 3
  rw [hform] at HL ⊢
  have p0 : ∀ w, (binOp .sub 22 (.float .f32 a') (.float .f32 a)).run Try.prog w = .ok (.float .f32 u0) w := fun w => run_float_arith w .sub _ .f32 _ _ _ H0.h0
  have p1 : ∀ w, (binOp .mul 22 (.float .f32 u0) (.float .f32 t)).run Try.prog w = .ok (.float .f32 v0) w := fun w => run_float_arith w .mul _ .f32 _ _ _ H0.h1
  have p2 : ∀ w, (binOp .add 22 (.float .f32 a) (.float .f32 v0)).run Try.prog w = .ok (.float .f32 x) w := fun w => run_float_arith w .add _ .f32 _ _ _ H0.h2
  have q0 : ∀ w, (binOp .sub 22 (.float .f32 b') (.float .f32 b)).run Try.prog w = .ok (.float .f32 u1) w := fun w => run_float_arith w .sub _ .f32 _ _ _ H1.h0
  have q1 : ∀ w, (binOp .mul 22 (.float .f32 u1) (.float .f32 t)).run Try.prog w = .ok (.float .f32 v1) w := fun w => run_float_arith w .mul _ .f32 _ _ _ H1.h1
  have q2 : ∀ w, (binOp .add 22 (.float .f32 b) (.float .f32 v1)).run Try.prog w = .ok (.float .f32 y) w := fun w => run_float_arith w .add _ .f32 _ _ _ H1.h2
  have s0 : ∀ w, (binOp .sub 22 (.float .f32 c') (.float .f32 c)).run Try.prog w = .ok (.float .f32 u2) w := fun w => run_float_arith w .sub _ .f32 _ _ _ H2.h0
  have s1 : ∀ w, (binOp .mul 22 (.float .f32 u2) (.float .f32 t)).run Try.prog w = .ok (.float .f32 v2) w := fun w => run_float_arith w .mul _ .f32 _ _ _ H2.h1
  have s2 : ∀ w, (binOp .add 22 (.float .f32 c) (.float .f32 v2)).run Try.prog w = .ok (.float .f32 z) w := fun w => run_float_arith w .add _ .f32 _ _ _ H2.h2
  clear H0 H1 H2 hform
  have X0 := Lib.hid (show Bx w ((((w.alloc (.cells #[.float .f32 a, .float .f32 b, .float .f32 c] 27)).alloc (.cells #[.float .f32 a', .float .f32 b', .float .f32 c'] 27)).alloc (.cells #[.float .f32 0, .float .f32 0, .float .f32 0] 27)).alloc (.cells #[.float .f32 0, .float .f32 0, .float .f32 0] 27)) a b c a' b' c' 0 0 0 by
    refine ⟨vr_alloc (vr_alloc (vr_alloc (VR.new w 27 a b c) _) _) _, ?_, ?_, ?_, (((((Below.refl _ _).alloc (Nat.le_refl _) _).alloc (by simp) _).alloc (by simp; omega) _).alloc (by simp; omega) _)⟩
    · have := vr_alloc (vr_alloc (VR.new (w.alloc (.cells #[.float .f32 a, .float .f32 b, .float .f32 c] 27)) 27 a' b' c') (.cells #[.float .f32 0, .float .f32 0, .float .f32 0] 27)) (.cells #[.float .f32 0, .float .f32 0, .float .f32 0] 27)
      simpa using this
    · have := vr_alloc (VR.new ((w.alloc (.cells #[.float .f32 a, .float .f32 b, .float .f32 c] 27)).alloc (.cells #[.float .f32 a', .float .f32 b', .float .f32 c'] 27)) 27 0 0 0) (.cells #[.float .f32 0, .float .f32 0, .float .f32 0] 27)
      simpa using this
    · have := VR.new (((w.alloc (.cells #[.float .f32 a, .float .f32 b, .float .f32 c] 27)).alloc (.cells #[.float .f32 a', .float .f32 b', .float .f32 c'] 27)).alloc (.cells #[.float .f32 0, .float .f32 0, .float .f32 0] 27)) 27 0 0 0
      simpa using this)
  go_enter Try.func20, Try.ntmps20
  go_wp2_with fail
  go_loopw [10] (fun i wr => i = .int .i64 0 ∧ Bx w wr a b c a' b' c' 0 0 0 ∨ i = .int .i64 1 ∧ Bx w wr a b c a' b' c' x 0 0 ∨ i = .int .i64 2 ∧ Bx w wr a b c a' b' c' x y 0 ∨ i = .int .i64 3 ∧ Bx w wr a b c a' b' c' x y z) (fun i _ => 3 - (intOf i).toNat)
  case atStart => exact .inl ⟨rfl, X0.out⟩
  case round =>
    clear X0
    rcases hrel with ⟨rfl, X⟩ | ⟨rfl, X⟩ | ⟨rfl, X⟩ | ⟨rfl, X⟩
    · have XX := Lib.hid X
      obtain ⟨⟨c0, c1, c2, _, _, _, l0⟩, ⟨d0, d1, d2, _, _, _, l1⟩, _, ⟨e0, e1, e2, f0, f1, f2, l3⟩, _⟩ := X
      go_wp2_with fail
      refine still_tail 15 (by kernel_rfl) (by kernel_rfl) ?_
      simp only [List.take_succ_cons, List.take_zero, List.drop_succ_cons, List.drop_zero]
      iterate 15 still_step
      refine wpStill_nil ?_
      go_wp2_with fail
      exact ⟨.inr (.inl ⟨rfl, (XX.out.set (vr_set0 XX.out.v3 x)).drewN 1⟩), by simp [intOf]⟩
    · have XX := Lib.hid X
      obtain ⟨⟨c0, c1, c2, _, _, _, l0⟩, ⟨d0, d1, d2, _, _, _, l1⟩, _, ⟨e0, e1, e2, f0, f1, f2, l3⟩, _⟩ := X
      go_wp2_with fail
      refine still_tail 15 (by kernel_rfl) (by kernel_rfl) ?_
      simp only [List.take_succ_cons, List.take_zero, List.drop_succ_cons, List.drop_zero]
      iterate 15 still_step
      refine wpStill_nil ?_
      go_wp2_with fail
      exact ⟨.inr (.inr (.inl ⟨rfl, (XX.out.set (vr_set1 XX.out.v3 y)).drewN 1⟩)), by simp [intOf]⟩
    · have XX := Lib.hid X
      obtain ⟨⟨c0, c1, c2, _, _, _, l0⟩, ⟨d0, d1, d2, _, _, _, l1⟩, _, ⟨e0, e1, e2, f0, f1, f2, l3⟩, _⟩ := X
      go_wp2_with fail
      refine still_tail 15 (by kernel_rfl) (by kernel_rfl) ?_
      simp only [List.take_succ_cons, List.take_zero, List.drop_succ_cons, List.drop_zero]
      iterate 15 still_step
      refine wpStill_nil ?_
      go_wp2_with fail
      exact ⟨.inr (.inr (.inr ⟨rfl, (XX.out.set (vr_set2 XX.out.v3 z)).drewN 1⟩)), by simp [intOf]⟩
    · have XX := Lib.hid X
      obtain ⟨_, _, _, ⟨e0, e1, e2, f0, f1, f2, l3⟩, _⟩ := X
      go_wp2_with fail
      refine (HL.out _).mono ?_
      rintro e w2 ⟨rfl, hb2⟩
      obtain ⟨y0, y1, y2, g0, g1, g2, hl⟩ := XX.out.v2.below hb2
      have HB := Lib.hid (below_step hb2 XX.out.hb XX.out.hb.size)
      clear hb2 e0 e1 e2 f0 f1 f2 l3 XX
      go_wp2_with fail
      exact bodyPost_ret (v := .tuple #[.agg #[.float .f32 r0, .float .f32 r1, .float .f32 r2], .int .i64 j]) (by simp [results, Try.results20, go_sem, y0, y1, y2, g0, g1, g2, hl]) rfl ⟨rfl, ((HB.out.setCell (by simp; omega) _).setCell (by simp; omega) _).setCell (by simp; omega) _⟩

end Go.Proofs.Ytaghfffbhgpalaa
