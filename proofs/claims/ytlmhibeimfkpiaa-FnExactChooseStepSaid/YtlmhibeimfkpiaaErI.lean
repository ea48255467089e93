/- The error of a step, of the program: two steps, each of which may panic, in a region that draws its order. Made by gen_err.py. -/
import Derived.Test.YtlmhibeimfkpiaaStI
import Derived.Test.YtlmhibeimfkpiaaTd
import Derived.Deep.RegionHeld3
import Derived.Deep.DeepCutAuto
import Derived.Lib.QuietBelow
import Derived.BigQuiet
namespace Go.Proofs.Ytlmhibeimfkpiaa
open Go.RowKit

/-- The vector in its block, and nothing below turned. -/
def SE (w : World) (B a b c : Nat) (W : World) : Prop :=
  (W.cell? ⟨B, 0, none⟩ = some (.float .f32 a) ∧ W.cell? ⟨B, 1, none⟩ = some (.float .f32 b) ∧ W.cell? ⟨B, 2, none⟩ = some (.float .f32 c)) ∧ B < W.heap.size ∧ Below w.heap.size w W

theorem se_step {w W W' : World} {B a b c : Nat} (h : SE w B a b c W) (hb : Below W.heap.size W W') : SE w B a b c W' := by
  obtain ⟨⟨c0, c1, c2⟩, hl, hB⟩ := h
  have V := VF.below ⟨c0, c1, c2, hl⟩ hb
  exact ⟨⟨V.c0, V.c1, V.c2⟩, V.lt, below_step hb hB hB.size⟩

theorem se_far1 {w W : World} {B a b c p i : Nat} (h : SE w B a b c W) (hw : w.heap.size ≤ p) (hp : B < p) (v : Value) : SE w B a b c (W.setCell ⟨p, i, none⟩ v) := by
  have hne : p ≠ B := by omega
  have o : ∀ j, (W.setCell ⟨p, i, none⟩ v).cell? ⟨B, j, none⟩ = W.cell? ⟨B, j, none⟩ := fun j => World.cell?_setCell_other W ⟨p, i, none⟩ ⟨B, j, none⟩ v (by intro e; injection e with e1; exact hne e1)
  obtain ⟨⟨c0, c1, c2⟩, hl, hB⟩ := h
  exact ⟨⟨(o 0).trans c0, (o 1).trans c1, (o 2).trans c2⟩, by simpa using hl, hB.setCell hw _⟩

theorem se_put {w W : World} {a b c p : Nat} (h : SE w w.heap.size a b c W) (hp : w.heap.size < p) (X : Tb) : SE w w.heap.size a b c ((((W.setCell ⟨p, 0, none⟩ (.complex .f32 X.a.re X.a.im)).setCell ⟨p, 1, none⟩ (.complex .f32 X.b.re X.b.im)).setCell ⟨p, 2, none⟩ (.complex .f32 X.c.re X.c.im)).setCell ⟨p, 3, none⟩ (.complex .f32 X.d.re X.d.im)) :=
  se_far1 (se_far1 (se_far1 (se_far1 h (Nat.le_of_lt hp) hp _) (Nat.le_of_lt hp) hp _) (Nat.le_of_lt hp) hp _) (Nat.le_of_lt hp) hp _

/-- A region that draws, its world by a letter. -/
theorem region_named {P : Program} {id : Nat} {ops : Array Oper} {Q : Exit → Act → World → Prop} {S : World → Prop} {a : Act} {w : World} (hm : P.follows .mixedOrders = true) (hS : S w.drew) (h : ∀ W, S W → wpAnyH P .any ops Q S ops.size (Array.replicate ops.size false) a W) : (Code.region id ops true).wp P Q a w :=
  wp_region_held_drew hm hS (h _)

/-- A new block of zeros: its world by a letter. -/
theorem name_alloc {K : Act → World → Prop} {a : Act} {W : World} {T : TypeId} (h : ∀ W', TC W' W.heap.size nilTb → Below W.heap.size W W' → K a W') : K a (W.alloc (.cells #[.complex .f32 0 0, .complex .f32 0 0, .complex .f32 0 0, .complex .f32 0 0] T)) :=
  h _ (TC.nil W T) ((Below.refl _ _).alloc (Nat.le_refl _) _)

theorem se_new (w : World) (T : TypeId) (a b c : Nat) : SE w w.heap.size a b c (w.alloc (.cells #[.float .f32 a, .float .f32 b, .float .f32 c] T)) :=
  ⟨⟨by simp [go_sem], by simp [go_sem], by simp [go_sem]⟩, by simp, (Below.refl _ _).alloc (Nat.le_refl _) _⟩

set_option maxRecDepth 100000 in
set_option maxHeartbeats 4000000 in
theorem err_no1 {a b c h k : Nat} (qk : floatBits .quo .f32 h 1073741824 = some k)
    (HX : ∀ w, Calls Try.prog 45 #[.agg #[.float .f32 a, .float .f32 b, .float .f32 c], .float .f32 h] w fun e w' => e = panicC 3 ∧ Below w.heap.size w w') (w : World) :
    Calls Try.prog 57 #[.agg #[.float .f32 a, .float .f32 b, .float .f32 c], .float .f32 h] w fun e w' => e = panicC 3 ∧ Below w.heap.size w w' := by
  replace HX := Lib.hid HX
  have rk : ∀ w, (binOp .quo 22 (.float .f32 h) (.float .f32 1073741824)).run Try.prog w = .ok (.float .f32 k) w := fun w => run_float_arith w .quo _ .f32 h 1073741824 k qk
  have hS0 := se_new w 24 a b c
  clear qk
  unfold panicC at *
  go_enter Try.func57, Try.ntmps57
  go_wp2_with fail
  refine region_named (S := SE w w.heap.size a b c) (by kernel_rfl) (se_step hS0 (below_drewN (Below.refl _ _) 1)) ?_
  intro W0 hHeld
  refine wpAnyH_take (i := 0) (v := ?v0) rfl (by kernel_rfl) (by kernel_rfl) (by kernel_rfl) (fun _ _ _ h => h) (Or.inl ⟨by rfl, ?h0⟩) (by assumption) ?r0
  case h0 => intro w' hSw; obtain ⟨⟨q0, q1, q2⟩, _⟩ := hSw; go_simp; all_goals with_reducible rfl
  try simp only [Act.put, List.setIfInBounds_toArray, List.set_cons_zero, List.set_cons_succ]
  refine wpAnyH_take (i := 1) (v := ?v1) rfl (by kernel_rfl) (by kernel_rfl) (by kernel_rfl) (fun _ _ _ h => h) (Or.inl ⟨by rfl, ?h1⟩) (by assumption) ?r1
  case h1 => intro w' hSw; obtain ⟨⟨q0, q1, q2⟩, _⟩ := hSw; go_simp; all_goals with_reducible rfl
  try simp only [Act.put, List.setIfInBounds_toArray, List.set_cons_zero, List.set_cons_succ]
  refine wpAnyH_take (i := 3) (v := ?v3) rfl (by kernel_rfl) (by kernel_rfl) (by kernel_rfl) (fun _ _ _ h => h) (Or.inl ⟨by rfl, ?h3⟩) (by assumption) ?r3
  case h3 => intro w' hSw; obtain ⟨⟨q0, q1, q2⟩, _⟩ := hSw; go_simp; all_goals with_reducible rfl
  try simp only [Act.put, List.setIfInBounds_toArray, List.set_cons_zero, List.set_cons_succ]
  refine wpAnyH_take (i := 4) (v := ?v4) rfl (by kernel_rfl) (by kernel_rfl) (by kernel_rfl) (fun _ _ _ h => h) (Or.inl ⟨by rfl, ?h4⟩) (by assumption) ?r4
  case h4 => intro w' hSw; obtain ⟨⟨q0, q1, q2⟩, _⟩ := hSw; go_simp; all_goals with_reducible rfl
  try simp only [Act.put, List.setIfInBounds_toArray, List.set_cons_zero, List.set_cons_succ]
  refine wpAnyH_take (i := 5) (v := ?v5) rfl (by kernel_rfl) (by kernel_rfl) (by kernel_rfl) (fun _ _ _ h => h) (Or.inl ⟨by rfl, ?h5⟩) (by assumption) ?r5
  case h5 => intro w' hSw; obtain ⟨⟨q0, q1, q2⟩, _⟩ := hSw; go_simp; all_goals with_reducible rfl
  try simp only [Act.put, List.setIfInBounds_toArray, List.set_cons_zero, List.set_cons_succ]
  refine wpAnyH_ready (rs := [2, 7, 8]) (by kernel_rfl) (by simp) ?_
  refine AllReadyH.cons rfl (fun K hK => ?_) ?_
  · go_simp
    go_wp2_with ((go_at_call 45; with_reducible refine (HX.out _).mono ?_; rintro e w1 ⟨rfl, hb1⟩))
    exact ⟨rfl, rfl, (se_step hHeld hb1).2.2⟩
  refine AllReadyH.cons rfl (fun K hK => ?_) ?_
  · go_simp
    refine name_alloc ?_
    intro w2 T2 hb2
    refine hK.out _ _ (se_step hHeld hb2) ?_
    clear hK K
    replace hHeld := se_step hHeld hb2
    intro _
    try simp only [Act.put, List.setIfInBounds_toArray, List.set_cons_zero, List.set_cons_succ]
    refine wpAnyH_ready (rs := [2, 8]) (by kernel_rfl) (by simp) ?_
    refine AllReadyH.cons rfl (fun K hK => ?_) ?_
    · go_simp
      go_wp2_with ((go_at_call 45; with_reducible refine (HX.out _).mono ?_; rintro e w3 ⟨rfl, hb3⟩))
      exact ⟨rfl, rfl, (se_step hHeld hb3).2.2⟩
    refine AllReadyH.cons rfl (fun K hK => ?_) ?_
    · go_simp
      refine name_alloc ?_
      intro w4 T4 hb4
      refine hK.out _ _ (se_step hHeld hb4) ?_
      clear hK K
      replace hHeld := se_step hHeld hb4
      intro _
      try simp only [Act.put, List.setIfInBounds_toArray, List.set_cons_zero, List.set_cons_succ]
      refine wpAnyH_ready (rs := [2]) (by kernel_rfl) (by simp) ?_
      refine AllReadyH.cons rfl (fun K hK => ?_) ?_
      · go_simp
        go_wp2_with ((go_at_call 45; with_reducible refine (HX.out _).mono ?_; rintro e w5 ⟨rfl, hb5⟩))
        exact ⟨rfl, rfl, (se_step hHeld hb5).2.2⟩
      exact AllReadyH.nil
    exact AllReadyH.nil
  refine AllReadyH.cons rfl (fun K hK => ?_) ?_
  · go_simp
    refine name_alloc ?_
    intro w6 T6 hb6
    refine hK.out _ _ (se_step hHeld hb6) ?_
    clear hK K
    replace hHeld := se_step hHeld hb6
    intro _
    try simp only [Act.put, List.setIfInBounds_toArray, List.set_cons_zero, List.set_cons_succ]
    refine wpAnyH_ready (rs := [2, 7]) (by kernel_rfl) (by simp) ?_
    refine AllReadyH.cons rfl (fun K hK => ?_) ?_
    · go_simp
      go_wp2_with ((go_at_call 45; with_reducible refine (HX.out _).mono ?_; rintro e w7 ⟨rfl, hb7⟩))
      exact ⟨rfl, rfl, (se_step hHeld hb7).2.2⟩
    refine AllReadyH.cons rfl (fun K hK => ?_) ?_
    · go_simp
      refine name_alloc ?_
      intro w8 T8 hb8
      refine hK.out _ _ (se_step hHeld hb8) ?_
      clear hK K
      replace hHeld := se_step hHeld hb8
      intro _
      try simp only [Act.put, List.setIfInBounds_toArray, List.set_cons_zero, List.set_cons_succ]
      refine wpAnyH_ready (rs := [2]) (by kernel_rfl) (by simp) ?_
      refine AllReadyH.cons rfl (fun K hK => ?_) ?_
      · go_simp
        go_wp2_with ((go_at_call 45; with_reducible refine (HX.out _).mono ?_; rintro e w9 ⟨rfl, hb9⟩))
        exact ⟨rfl, rfl, (se_step hHeld hb9).2.2⟩
      exact AllReadyH.nil
    exact AllReadyH.nil
  exact AllReadyH.nil

set_option maxRecDepth 100000 in
set_option maxHeartbeats 4000000 in
theorem err_no2 {a b c h k : Nat} {X : Tb} (qk : floatBits .quo .f32 h 1073741824 = some k)
    (HX : ∀ w, Calls Try.prog 45 #[.agg #[.float .f32 a, .float .f32 b, .float .f32 c], .float .f32 h] w fun e w' => e = .returned X.v ∧ Below w.heap.size w w')
    (HY : ∀ w, Calls Try.prog 45 #[.agg #[.float .f32 a, .float .f32 b, .float .f32 c], .float .f32 k] w fun e w' => e = panicC 3 ∧ Below w.heap.size w w') (w : World) :
    Calls Try.prog 57 #[.agg #[.float .f32 a, .float .f32 b, .float .f32 c], .float .f32 h] w fun e w' => e = panicC 3 ∧ Below w.heap.size w w' := by
  rw [four] at HX
  replace HX := Lib.hid HX
  replace HY := Lib.hid HY
  have rk : ∀ w, (binOp .quo 22 (.float .f32 h) (.float .f32 1073741824)).run Try.prog w = .ok (.float .f32 k) w := fun w => run_float_arith w .quo _ .f32 h 1073741824 k qk
  have hS0 := se_new w 24 a b c
  clear qk
  unfold panicC at *
  go_enter Try.func57, Try.ntmps57
  go_wp2_with fail
  refine region_named (S := SE w w.heap.size a b c) (by kernel_rfl) (se_step hS0 (below_drewN (Below.refl _ _) 1)) ?_
  intro W0 hHeld
  refine wpAnyH_take (i := 0) (v := ?v0) rfl (by kernel_rfl) (by kernel_rfl) (by kernel_rfl) (fun _ _ _ h => h) (Or.inl ⟨by rfl, ?h0⟩) (by assumption) ?r0
  case h0 => intro w' hSw; obtain ⟨⟨q0, q1, q2⟩, _⟩ := hSw; go_simp; all_goals with_reducible rfl
  try simp only [Act.put, List.setIfInBounds_toArray, List.set_cons_zero, List.set_cons_succ]
  refine wpAnyH_take (i := 1) (v := ?v1) rfl (by kernel_rfl) (by kernel_rfl) (by kernel_rfl) (fun _ _ _ h => h) (Or.inl ⟨by rfl, ?h1⟩) (by assumption) ?r1
  case h1 => intro w' hSw; obtain ⟨⟨q0, q1, q2⟩, _⟩ := hSw; go_simp; all_goals with_reducible rfl
  try simp only [Act.put, List.setIfInBounds_toArray, List.set_cons_zero, List.set_cons_succ]
  refine wpAnyH_take (i := 3) (v := ?v3) rfl (by kernel_rfl) (by kernel_rfl) (by kernel_rfl) (fun _ _ _ h => h) (Or.inl ⟨by rfl, ?h3⟩) (by assumption) ?r3
  case h3 => intro w' hSw; obtain ⟨⟨q0, q1, q2⟩, _⟩ := hSw; go_simp; all_goals with_reducible rfl
  try simp only [Act.put, List.setIfInBounds_toArray, List.set_cons_zero, List.set_cons_succ]
  refine wpAnyH_take (i := 4) (v := ?v4) rfl (by kernel_rfl) (by kernel_rfl) (by kernel_rfl) (fun _ _ _ h => h) (Or.inl ⟨by rfl, ?h4⟩) (by assumption) ?r4
  case h4 => intro w' hSw; obtain ⟨⟨q0, q1, q2⟩, _⟩ := hSw; go_simp; all_goals with_reducible rfl
  try simp only [Act.put, List.setIfInBounds_toArray, List.set_cons_zero, List.set_cons_succ]
  refine wpAnyH_take (i := 5) (v := ?v5) rfl (by kernel_rfl) (by kernel_rfl) (by kernel_rfl) (fun _ _ _ h => h) (Or.inl ⟨by rfl, ?h5⟩) (by assumption) ?r5
  case h5 => intro w' hSw; obtain ⟨⟨q0, q1, q2⟩, _⟩ := hSw; go_simp; all_goals with_reducible rfl
  try simp only [Act.put, List.setIfInBounds_toArray, List.set_cons_zero, List.set_cons_succ]
  refine wpAnyH_ready (rs := [2, 7, 8]) (by kernel_rfl) (by simp) ?_
  refine AllReadyH.cons rfl (fun K hK => ?_) ?_
  · go_simp
    go_wp2_with ((go_at_call 45; with_reducible refine (HX.out _).mono ?_; rintro e w1 ⟨rfl, hb1⟩))
    refine hK.out _ _ (se_step hHeld hb1) ?_
    clear hK K
    replace hHeld := se_step hHeld hb1
    intro _
    try simp only [Act.put, List.setIfInBounds_toArray, List.set_cons_zero, List.set_cons_succ]
    refine wpAnyH_ready (rs := [6, 7, 8]) (by kernel_rfl) (by simp) ?_
    refine AllReadyH.cons rfl (fun K hK => ?_) ?_
    · go_simp
      go_wp2_with ((go_at_call 45; with_reducible refine (HY.out _).mono ?_; rintro e w2 ⟨rfl, hb2⟩))
      exact ⟨rfl, rfl, (se_step hHeld hb2).2.2⟩
    refine AllReadyH.cons rfl (fun K hK => ?_) ?_
    · go_simp
      refine name_alloc ?_
      intro w3 T3 hb3
      refine hK.out _ _ (se_step hHeld hb3) ?_
      clear hK K
      replace hHeld := se_step hHeld hb3
      intro _
      try simp only [Act.put, List.setIfInBounds_toArray, List.set_cons_zero, List.set_cons_succ]
      refine wpAnyH_ready (rs := [6, 8]) (by kernel_rfl) (by simp) ?_
      refine AllReadyH.cons rfl (fun K hK => ?_) ?_
      · go_simp
        go_wp2_with ((go_at_call 45; with_reducible refine (HY.out _).mono ?_; rintro e w4 ⟨rfl, hb4⟩))
        exact ⟨rfl, rfl, (se_step hHeld hb4).2.2⟩
      refine AllReadyH.cons rfl (fun K hK => ?_) ?_
      · go_simp
        refine name_alloc ?_
        intro w5 T5 hb5
        refine hK.out _ _ (se_step hHeld hb5) ?_
        clear hK K
        replace hHeld := se_step hHeld hb5
        intro _
        try simp only [Act.put, List.setIfInBounds_toArray, List.set_cons_zero, List.set_cons_succ]
        refine wpAnyH_ready (rs := [6]) (by kernel_rfl) (by simp) ?_
        refine AllReadyH.cons rfl (fun K hK => ?_) ?_
        · go_simp
          go_wp2_with ((go_at_call 45; with_reducible refine (HY.out _).mono ?_; rintro e w6 ⟨rfl, hb6⟩))
          exact ⟨rfl, rfl, (se_step hHeld hb6).2.2⟩
        exact AllReadyH.nil
      exact AllReadyH.nil
    refine AllReadyH.cons rfl (fun K hK => ?_) ?_
    · go_simp
      refine name_alloc ?_
      intro w7 T7 hb7
      refine hK.out _ _ (se_step hHeld hb7) ?_
      clear hK K
      replace hHeld := se_step hHeld hb7
      intro _
      try simp only [Act.put, List.setIfInBounds_toArray, List.set_cons_zero, List.set_cons_succ]
      refine wpAnyH_ready (rs := [6, 7]) (by kernel_rfl) (by simp) ?_
      refine AllReadyH.cons rfl (fun K hK => ?_) ?_
      · go_simp
        go_wp2_with ((go_at_call 45; with_reducible refine (HY.out _).mono ?_; rintro e w8 ⟨rfl, hb8⟩))
        exact ⟨rfl, rfl, (se_step hHeld hb8).2.2⟩
      refine AllReadyH.cons rfl (fun K hK => ?_) ?_
      · go_simp
        refine name_alloc ?_
        intro w9 T9 hb9
        refine hK.out _ _ (se_step hHeld hb9) ?_
        clear hK K
        replace hHeld := se_step hHeld hb9
        intro _
        try simp only [Act.put, List.setIfInBounds_toArray, List.set_cons_zero, List.set_cons_succ]
        refine wpAnyH_ready (rs := [6]) (by kernel_rfl) (by simp) ?_
        refine AllReadyH.cons rfl (fun K hK => ?_) ?_
        · go_simp
          go_wp2_with ((go_at_call 45; with_reducible refine (HY.out _).mono ?_; rintro e w10 ⟨rfl, hb10⟩))
          exact ⟨rfl, rfl, (se_step hHeld hb10).2.2⟩
        exact AllReadyH.nil
      exact AllReadyH.nil
    exact AllReadyH.nil
  refine AllReadyH.cons rfl (fun K hK => ?_) ?_
  · go_simp
    refine name_alloc ?_
    intro w11 T11 hb11
    refine hK.out _ _ (se_step hHeld hb11) ?_
    clear hK K
    replace hHeld := se_step hHeld hb11
    intro _
    try simp only [Act.put, List.setIfInBounds_toArray, List.set_cons_zero, List.set_cons_succ]
    refine wpAnyH_ready (rs := [2, 8]) (by kernel_rfl) (by simp) ?_
    refine AllReadyH.cons rfl (fun K hK => ?_) ?_
    · go_simp
      go_wp2_with ((go_at_call 45; with_reducible refine (HX.out _).mono ?_; rintro e w12 ⟨rfl, hb12⟩))
      refine hK.out _ _ (se_step hHeld hb12) ?_
      clear hK K
      replace hHeld := se_step hHeld hb12
      intro _
      try simp only [Act.put, List.setIfInBounds_toArray, List.set_cons_zero, List.set_cons_succ]
      refine wpAnyH_ready (rs := [6, 8]) (by kernel_rfl) (by simp) ?_
      refine AllReadyH.cons rfl (fun K hK => ?_) ?_
      · go_simp
        go_wp2_with ((go_at_call 45; with_reducible refine (HY.out _).mono ?_; rintro e w13 ⟨rfl, hb13⟩))
        exact ⟨rfl, rfl, (se_step hHeld hb13).2.2⟩
      refine AllReadyH.cons rfl (fun K hK => ?_) ?_
      · go_simp
        refine name_alloc ?_
        intro w14 T14 hb14
        refine hK.out _ _ (se_step hHeld hb14) ?_
        clear hK K
        replace hHeld := se_step hHeld hb14
        intro _
        try simp only [Act.put, List.setIfInBounds_toArray, List.set_cons_zero, List.set_cons_succ]
        refine wpAnyH_ready (rs := [6]) (by kernel_rfl) (by simp) ?_
        refine AllReadyH.cons rfl (fun K hK => ?_) ?_
        · go_simp
          go_wp2_with ((go_at_call 45; with_reducible refine (HY.out _).mono ?_; rintro e w15 ⟨rfl, hb15⟩))
          exact ⟨rfl, rfl, (se_step hHeld hb15).2.2⟩
        exact AllReadyH.nil
      exact AllReadyH.nil
    refine AllReadyH.cons rfl (fun K hK => ?_) ?_
    · go_simp
      refine name_alloc ?_
      intro w16 T16 hb16
      refine hK.out _ _ (se_step hHeld hb16) ?_
      clear hK K
      replace hHeld := se_step hHeld hb16
      intro _
      try simp only [Act.put, List.setIfInBounds_toArray, List.set_cons_zero, List.set_cons_succ]
      refine wpAnyH_ready (rs := [2]) (by kernel_rfl) (by simp) ?_
      refine AllReadyH.cons rfl (fun K hK => ?_) ?_
      · go_simp
        go_wp2_with ((go_at_call 45; with_reducible refine (HX.out _).mono ?_; rintro e w17 ⟨rfl, hb17⟩))
        refine hK.out _ _ (se_step hHeld hb17) ?_
        clear hK K
        replace hHeld := se_step hHeld hb17
        intro _
        try simp only [Act.put, List.setIfInBounds_toArray, List.set_cons_zero, List.set_cons_succ]
        refine wpAnyH_ready (rs := [6]) (by kernel_rfl) (by simp) ?_
        refine AllReadyH.cons rfl (fun K hK => ?_) ?_
        · go_simp
          go_wp2_with ((go_at_call 45; with_reducible refine (HY.out _).mono ?_; rintro e w18 ⟨rfl, hb18⟩))
          exact ⟨rfl, rfl, (se_step hHeld hb18).2.2⟩
        exact AllReadyH.nil
      exact AllReadyH.nil
    exact AllReadyH.nil
  refine AllReadyH.cons rfl (fun K hK => ?_) ?_
  · go_simp
    refine name_alloc ?_
    intro w19 T19 hb19
    refine hK.out _ _ (se_step hHeld hb19) ?_
    clear hK K
    replace hHeld := se_step hHeld hb19
    intro _
    try simp only [Act.put, List.setIfInBounds_toArray, List.set_cons_zero, List.set_cons_succ]
    refine wpAnyH_ready (rs := [2, 7]) (by kernel_rfl) (by simp) ?_
    refine AllReadyH.cons rfl (fun K hK => ?_) ?_
    · go_simp
      go_wp2_with ((go_at_call 45; with_reducible refine (HX.out _).mono ?_; rintro e w20 ⟨rfl, hb20⟩))
      refine hK.out _ _ (se_step hHeld hb20) ?_
      clear hK K
      replace hHeld := se_step hHeld hb20
      intro _
      try simp only [Act.put, List.setIfInBounds_toArray, List.set_cons_zero, List.set_cons_succ]
      refine wpAnyH_ready (rs := [6, 7]) (by kernel_rfl) (by simp) ?_
      refine AllReadyH.cons rfl (fun K hK => ?_) ?_
      · go_simp
        go_wp2_with ((go_at_call 45; with_reducible refine (HY.out _).mono ?_; rintro e w21 ⟨rfl, hb21⟩))
        exact ⟨rfl, rfl, (se_step hHeld hb21).2.2⟩
      refine AllReadyH.cons rfl (fun K hK => ?_) ?_
      · go_simp
        refine name_alloc ?_
        intro w22 T22 hb22
        refine hK.out _ _ (se_step hHeld hb22) ?_
        clear hK K
        replace hHeld := se_step hHeld hb22
        intro _
        try simp only [Act.put, List.setIfInBounds_toArray, List.set_cons_zero, List.set_cons_succ]
        refine wpAnyH_ready (rs := [6]) (by kernel_rfl) (by simp) ?_
        refine AllReadyH.cons rfl (fun K hK => ?_) ?_
        · go_simp
          go_wp2_with ((go_at_call 45; with_reducible refine (HY.out _).mono ?_; rintro e w23 ⟨rfl, hb23⟩))
          exact ⟨rfl, rfl, (se_step hHeld hb23).2.2⟩
        exact AllReadyH.nil
      exact AllReadyH.nil
    refine AllReadyH.cons rfl (fun K hK => ?_) ?_
    · go_simp
      refine name_alloc ?_
      intro w24 T24 hb24
      refine hK.out _ _ (se_step hHeld hb24) ?_
      clear hK K
      replace hHeld := se_step hHeld hb24
      intro _
      try simp only [Act.put, List.setIfInBounds_toArray, List.set_cons_zero, List.set_cons_succ]
      refine wpAnyH_ready (rs := [2]) (by kernel_rfl) (by simp) ?_
      refine AllReadyH.cons rfl (fun K hK => ?_) ?_
      · go_simp
        go_wp2_with ((go_at_call 45; with_reducible refine (HX.out _).mono ?_; rintro e w25 ⟨rfl, hb25⟩))
        refine hK.out _ _ (se_step hHeld hb25) ?_
        clear hK K
        replace hHeld := se_step hHeld hb25
        intro _
        try simp only [Act.put, List.setIfInBounds_toArray, List.set_cons_zero, List.set_cons_succ]
        refine wpAnyH_ready (rs := [6]) (by kernel_rfl) (by simp) ?_
        refine AllReadyH.cons rfl (fun K hK => ?_) ?_
        · go_simp
          go_wp2_with ((go_at_call 45; with_reducible refine (HY.out _).mono ?_; rintro e w26 ⟨rfl, hb26⟩))
          exact ⟨rfl, rfl, (se_step hHeld hb26).2.2⟩
        exact AllReadyH.nil
      exact AllReadyH.nil
    exact AllReadyH.nil
  exact AllReadyH.nil

set_option maxRecDepth 100000 in
set_option maxHeartbeats 4000000 in
theorem err_yes {a b c h k : Nat} {X Y Z : Tb} {d : Nat} (HM : ∀ w, Calls Try.prog 81 #[Y.v, Y.v] w fun e w' => e = .returned (.tuple #[Z.v, .int .i64 0]) ∧ Below w.heap.size w w')
    (HD : ∀ w, Calls Try.prog 80 #[X.v, Z.v] w fun e w' => e = .returned (.tuple #[.float .f32 d, .int .i64 0]) ∧ Below w.heap.size w w') (qk : floatBits .quo .f32 h 1073741824 = some k)
    (HX : ∀ w, Calls Try.prog 45 #[.agg #[.float .f32 a, .float .f32 b, .float .f32 c], .float .f32 h] w fun e w' => e = .returned X.v ∧ Below w.heap.size w w')
    (HY : ∀ w, Calls Try.prog 45 #[.agg #[.float .f32 a, .float .f32 b, .float .f32 c], .float .f32 k] w fun e w' => e = .returned Y.v ∧ Below w.heap.size w w') (w : World) :
    Calls Try.prog 57 #[.agg #[.float .f32 a, .float .f32 b, .float .f32 c], .float .f32 h] w fun e w' => e = .returned (.float .f32 d) ∧ Below w.heap.size w w' := by
  rw [four] at HX HY
  rw [four, four] at HM
  rw [four, four] at HD
  replace HX := Lib.hid HX
  replace HY := Lib.hid HY
  replace HM := Lib.hid HM
  replace HD := Lib.hid HD
  have HT := Lib.hid (fun w => by have := mustT_yes Z w; rw [four] at this; exact this)
  have HF := Lib.hid (fun w => show Calls Try.prog 68 #[.float .f32 d, .int .i64 0] w fun e w' => e = .returned (.float .f32 d) ∧ Below w.heap.size w w' from (mustF_yes d w).mono (fun e w' ⟨he, hw⟩ => ⟨he, hw ▸ Below.refl _ _⟩))
  have rk : ∀ w, (binOp .quo 22 (.float .f32 h) (.float .f32 1073741824)).run Try.prog w = .ok (.float .f32 k) w := fun w => run_float_arith w .quo _ .f32 h 1073741824 k qk
  have hS0 := se_new w 24 a b c
  clear qk
  go_enter Try.func57, Try.ntmps57
  go_upto_region 1 with fail
  go_cut [5, 6] (fun s5 s6 wx => ∃ p q, s5 = .pointer (some ⟨p, 0, none⟩) ∧ s6 = .pointer (some ⟨q, 0, none⟩) ∧ TC wx p X ∧ TC wx q Y ∧ Below w.heap.size w wx)
  case first =>
    refine region_named (S := SE w w.heap.size a b c) (by kernel_rfl) (se_step hS0 (below_drewN (Below.refl _ _) 1)) ?_
    intro W0 hHeld
    refine wpAnyH_take (i := 0) (v := ?v0) rfl (by kernel_rfl) (by kernel_rfl) (by kernel_rfl) (fun _ _ _ h => h) (Or.inl ⟨by rfl, ?h0⟩) (by assumption) ?r0
    case h0 => intro w' hSw; obtain ⟨⟨q0, q1, q2⟩, _⟩ := hSw; go_simp; all_goals with_reducible rfl
    try simp only [Act.put, List.setIfInBounds_toArray, List.set_cons_zero, List.set_cons_succ]
    refine wpAnyH_take (i := 1) (v := ?v1) rfl (by kernel_rfl) (by kernel_rfl) (by kernel_rfl) (fun _ _ _ h => h) (Or.inl ⟨by rfl, ?h1⟩) (by assumption) ?r1
    case h1 => intro w' hSw; obtain ⟨⟨q0, q1, q2⟩, _⟩ := hSw; go_simp; all_goals with_reducible rfl
    try simp only [Act.put, List.setIfInBounds_toArray, List.set_cons_zero, List.set_cons_succ]
    refine wpAnyH_take (i := 3) (v := ?v3) rfl (by kernel_rfl) (by kernel_rfl) (by kernel_rfl) (fun _ _ _ h => h) (Or.inl ⟨by rfl, ?h3⟩) (by assumption) ?r3
    case h3 => intro w' hSw; obtain ⟨⟨q0, q1, q2⟩, _⟩ := hSw; go_simp; all_goals with_reducible rfl
    try simp only [Act.put, List.setIfInBounds_toArray, List.set_cons_zero, List.set_cons_succ]
    refine wpAnyH_take (i := 4) (v := ?v4) rfl (by kernel_rfl) (by kernel_rfl) (by kernel_rfl) (fun _ _ _ h => h) (Or.inl ⟨by rfl, ?h4⟩) (by assumption) ?r4
    case h4 => intro w' hSw; obtain ⟨⟨q0, q1, q2⟩, _⟩ := hSw; go_simp; all_goals with_reducible rfl
    try simp only [Act.put, List.setIfInBounds_toArray, List.set_cons_zero, List.set_cons_succ]
    refine wpAnyH_take (i := 5) (v := ?v5) rfl (by kernel_rfl) (by kernel_rfl) (by kernel_rfl) (fun _ _ _ h => h) (Or.inl ⟨by rfl, ?h5⟩) (by assumption) ?r5
    case h5 => intro w' hSw; obtain ⟨⟨q0, q1, q2⟩, _⟩ := hSw; go_simp; all_goals with_reducible rfl
    try simp only [Act.put, List.setIfInBounds_toArray, List.set_cons_zero, List.set_cons_succ]
    refine wpAnyH_ready (rs := [2, 7, 8]) (by kernel_rfl) (by simp) ?_
    refine AllReadyH.cons rfl (fun K hK => ?_) ?_
    · go_simp
      go_wp2_with ((go_at_call 45; with_reducible refine (HX.out _).mono ?_; rintro e w1 ⟨rfl, hb1⟩))
      refine hK.out _ _ (se_step hHeld hb1) ?_
      clear hK K
      replace hHeld := se_step hHeld hb1
      intro _
      try simp only [Act.put, List.setIfInBounds_toArray, List.set_cons_zero, List.set_cons_succ]
      refine wpAnyH_ready (rs := [6, 7, 8]) (by kernel_rfl) (by simp) ?_
      refine AllReadyH.cons rfl (fun K hK => ?_) ?_
      · go_simp
        go_wp2_with ((go_at_call 45; with_reducible refine (HY.out _).mono ?_; rintro e w2 ⟨rfl, hb2⟩))
        refine hK.out _ _ (se_step hHeld hb2) ?_
        clear hK K
        replace hHeld := se_step hHeld hb2
        intro _
        try simp only [Act.put, List.setIfInBounds_toArray, List.set_cons_zero, List.set_cons_succ]
        refine wpAnyH_ready (rs := [7, 8]) (by kernel_rfl) (by simp) ?_
        refine AllReadyH.cons rfl (fun K hK => ?_) ?_
        · go_simp
          refine name_alloc ?_
          intro w3 T3 hb3
          have hp3 := hHeld.2.1
          refine hK.out _ _ (se_step hHeld hb3) ?_
          clear hK K
          replace hHeld := se_step hHeld hb3
          intro _
          try simp only [Act.put, List.setIfInBounds_toArray, List.set_cons_zero, List.set_cons_succ]
          refine wpAnyH_ready (rs := [8]) (by kernel_rfl) (by simp) ?_
          refine AllReadyH.cons rfl (fun K hK => ?_) ?_
          · go_simp
            refine name_alloc ?_
            intro w4 T4 hb4
            have hp4 := hHeld.2.1
            have hq4 := Nat.ne_of_lt T3.lt
            have T3_4 := T3.below hb4
            refine hK.out _ _ (se_step hHeld hb4) ?_
            clear hK K
            replace hHeld := se_step hHeld hb4
            intro _
            try simp only [Act.put, List.setIfInBounds_toArray, List.set_cons_zero, List.set_cons_succ]
            refine wpAnyH_ready (rs := [9]) (by kernel_rfl) (by simp) ?_
            refine AllReadyH.cons rfl (fun K hK => ?_) ?_
            · obtain ⟨c0, c1, c2, c3, g0, g1, g2, g3, hl⟩ := id T3_4
              simp only [nilTb] at c0 c1 c2 c3
              go_simp
              refine hK.out _ _ (se_put hHeld hp3 X) ?_
              clear hK K c0 c1 c2 c3 g0 g1 g2 g3 hl
              replace hHeld := se_put hHeld hp3 X
              intro _
              try simp only [Act.put, List.setIfInBounds_toArray, List.set_cons_zero, List.set_cons_succ]
              have T6' := tc_far T4 hq4 (.complex .f32 X.a.re X.a.im) (.complex .f32 X.b.re X.b.im) (.complex .f32 X.c.re X.c.im) (.complex .f32 X.d.re X.d.im)
              have T5' := T3_4.put X
              refine wpAnyH_ready (rs := [10]) (by kernel_rfl) (by simp) ?_
              refine AllReadyH.cons rfl (fun K hK => ?_) ?_
              · obtain ⟨c0, c1, c2, c3, g0, g1, g2, g3, hl⟩ := id T6'
                simp only [nilTb] at c0 c1 c2 c3
                go_simp
                refine hK.out _ _ (se_put hHeld hp4 Y) ?_
                clear hK K c0 c1 c2 c3 g0 g1 g2 g3 hl
                replace hHeld := se_put hHeld hp4 Y
                intro _
                try simp only [Act.put, List.setIfInBounds_toArray, List.set_cons_zero, List.set_cons_succ]
                have T5z := tc_far T5' (Ne.symm hq4) (.complex .f32 Y.a.re Y.a.im) (.complex .f32 Y.b.re Y.b.im) (.complex .f32 Y.c.re Y.c.im) (.complex .f32 Y.d.re Y.d.im)
                have T6z := T6'.put Y
                refine wpAnyH_done (by kernel_rfl) ?_ _
                go_wp2_with fail
                go_meet
                exact ⟨_, _, rfl, rfl, T5z, T6z, hHeld.2.2⟩
              exact AllReadyH.nil
            exact AllReadyH.nil
          exact AllReadyH.nil
        refine AllReadyH.cons rfl (fun K hK => ?_) ?_
        · go_simp
          refine name_alloc ?_
          intro w5 T5 hb5
          have hp5 := hHeld.2.1
          refine hK.out _ _ (se_step hHeld hb5) ?_
          clear hK K
          replace hHeld := se_step hHeld hb5
          intro _
          try simp only [Act.put, List.setIfInBounds_toArray, List.set_cons_zero, List.set_cons_succ]
          refine wpAnyH_ready (rs := [7]) (by kernel_rfl) (by simp) ?_
          refine AllReadyH.cons rfl (fun K hK => ?_) ?_
          · go_simp
            refine name_alloc ?_
            intro w6 T6 hb6
            have hp6 := hHeld.2.1
            have hq6 := Nat.ne_of_lt T5.lt
            have T5_6 := T5.below hb6
            refine hK.out _ _ (se_step hHeld hb6) ?_
            clear hK K
            replace hHeld := se_step hHeld hb6
            intro _
            try simp only [Act.put, List.setIfInBounds_toArray, List.set_cons_zero, List.set_cons_succ]
            refine wpAnyH_ready (rs := [9]) (by kernel_rfl) (by simp) ?_
            refine AllReadyH.cons rfl (fun K hK => ?_) ?_
            · obtain ⟨c0, c1, c2, c3, g0, g1, g2, g3, hl⟩ := id T6
              simp only [nilTb] at c0 c1 c2 c3
              go_simp
              refine hK.out _ _ (se_put hHeld hp6 X) ?_
              clear hK K c0 c1 c2 c3 g0 g1 g2 g3 hl
              replace hHeld := se_put hHeld hp6 X
              intro _
              try simp only [Act.put, List.setIfInBounds_toArray, List.set_cons_zero, List.set_cons_succ]
              have T6' := tc_far T5_6 (Ne.symm hq6) (.complex .f32 X.a.re X.a.im) (.complex .f32 X.b.re X.b.im) (.complex .f32 X.c.re X.c.im) (.complex .f32 X.d.re X.d.im)
              have T5' := T6.put X
              refine wpAnyH_ready (rs := [10]) (by kernel_rfl) (by simp) ?_
              refine AllReadyH.cons rfl (fun K hK => ?_) ?_
              · obtain ⟨c0, c1, c2, c3, g0, g1, g2, g3, hl⟩ := id T6'
                simp only [nilTb] at c0 c1 c2 c3
                go_simp
                refine hK.out _ _ (se_put hHeld hp5 Y) ?_
                clear hK K c0 c1 c2 c3 g0 g1 g2 g3 hl
                replace hHeld := se_put hHeld hp5 Y
                intro _
                try simp only [Act.put, List.setIfInBounds_toArray, List.set_cons_zero, List.set_cons_succ]
                have T5z := tc_far T5' hq6 (.complex .f32 Y.a.re Y.a.im) (.complex .f32 Y.b.re Y.b.im) (.complex .f32 Y.c.re Y.c.im) (.complex .f32 Y.d.re Y.d.im)
                have T6z := T6'.put Y
                refine wpAnyH_done (by kernel_rfl) ?_ _
                go_wp2_with fail
                go_meet
                exact ⟨_, _, rfl, rfl, T5z, T6z, hHeld.2.2⟩
              exact AllReadyH.nil
            exact AllReadyH.nil
          exact AllReadyH.nil
        exact AllReadyH.nil
      refine AllReadyH.cons rfl (fun K hK => ?_) ?_
      · go_simp
        refine name_alloc ?_
        intro w7 T7 hb7
        have hp7 := hHeld.2.1
        refine hK.out _ _ (se_step hHeld hb7) ?_
        clear hK K
        replace hHeld := se_step hHeld hb7
        intro _
        try simp only [Act.put, List.setIfInBounds_toArray, List.set_cons_zero, List.set_cons_succ]
        refine wpAnyH_ready (rs := [6, 8]) (by kernel_rfl) (by simp) ?_
        refine AllReadyH.cons rfl (fun K hK => ?_) ?_
        · go_simp
          go_wp2_with ((go_at_call 45; with_reducible refine (HY.out _).mono ?_; rintro e w8 ⟨rfl, hb8⟩))
          have T7_8 := T7.below hb8
          refine hK.out _ _ (se_step hHeld hb8) ?_
          clear hK K
          replace hHeld := se_step hHeld hb8
          intro _
          try simp only [Act.put, List.setIfInBounds_toArray, List.set_cons_zero, List.set_cons_succ]
          refine wpAnyH_ready (rs := [8]) (by kernel_rfl) (by simp) ?_
          refine AllReadyH.cons rfl (fun K hK => ?_) ?_
          · go_simp
            refine name_alloc ?_
            intro w9 T9 hb9
            have hp9 := hHeld.2.1
            have hq9 := Nat.ne_of_lt T7_8.lt
            have T7_8_9 := T7_8.below hb9
            refine hK.out _ _ (se_step hHeld hb9) ?_
            clear hK K
            replace hHeld := se_step hHeld hb9
            intro _
            try simp only [Act.put, List.setIfInBounds_toArray, List.set_cons_zero, List.set_cons_succ]
            refine wpAnyH_ready (rs := [9]) (by kernel_rfl) (by simp) ?_
            refine AllReadyH.cons rfl (fun K hK => ?_) ?_
            · obtain ⟨c0, c1, c2, c3, g0, g1, g2, g3, hl⟩ := id T7_8_9
              simp only [nilTb] at c0 c1 c2 c3
              go_simp
              refine hK.out _ _ (se_put hHeld hp7 X) ?_
              clear hK K c0 c1 c2 c3 g0 g1 g2 g3 hl
              replace hHeld := se_put hHeld hp7 X
              intro _
              try simp only [Act.put, List.setIfInBounds_toArray, List.set_cons_zero, List.set_cons_succ]
              have T6' := tc_far T9 hq9 (.complex .f32 X.a.re X.a.im) (.complex .f32 X.b.re X.b.im) (.complex .f32 X.c.re X.c.im) (.complex .f32 X.d.re X.d.im)
              have T5' := T7_8_9.put X
              refine wpAnyH_ready (rs := [10]) (by kernel_rfl) (by simp) ?_
              refine AllReadyH.cons rfl (fun K hK => ?_) ?_
              · obtain ⟨c0, c1, c2, c3, g0, g1, g2, g3, hl⟩ := id T6'
                simp only [nilTb] at c0 c1 c2 c3
                go_simp
                refine hK.out _ _ (se_put hHeld hp9 Y) ?_
                clear hK K c0 c1 c2 c3 g0 g1 g2 g3 hl
                replace hHeld := se_put hHeld hp9 Y
                intro _
                try simp only [Act.put, List.setIfInBounds_toArray, List.set_cons_zero, List.set_cons_succ]
                have T5z := tc_far T5' (Ne.symm hq9) (.complex .f32 Y.a.re Y.a.im) (.complex .f32 Y.b.re Y.b.im) (.complex .f32 Y.c.re Y.c.im) (.complex .f32 Y.d.re Y.d.im)
                have T6z := T6'.put Y
                refine wpAnyH_done (by kernel_rfl) ?_ _
                go_wp2_with fail
                go_meet
                exact ⟨_, _, rfl, rfl, T5z, T6z, hHeld.2.2⟩
              exact AllReadyH.nil
            exact AllReadyH.nil
          exact AllReadyH.nil
        refine AllReadyH.cons rfl (fun K hK => ?_) ?_
        · go_simp
          refine name_alloc ?_
          intro w10 T10 hb10
          have hp10 := hHeld.2.1
          have hq10 := Nat.ne_of_lt T7.lt
          have T7_10 := T7.below hb10
          refine hK.out _ _ (se_step hHeld hb10) ?_
          clear hK K
          replace hHeld := se_step hHeld hb10
          intro _
          try simp only [Act.put, List.setIfInBounds_toArray, List.set_cons_zero, List.set_cons_succ]
          refine wpAnyH_ready (rs := [6]) (by kernel_rfl) (by simp) ?_
          refine AllReadyH.cons rfl (fun K hK => ?_) ?_
          · go_simp
            go_wp2_with ((go_at_call 45; with_reducible refine (HY.out _).mono ?_; rintro e w11 ⟨rfl, hb11⟩))
            have T7_10_11 := T7_10.below hb11
            have T10_11 := T10.below hb11
            refine hK.out _ _ (se_step hHeld hb11) ?_
            clear hK K
            replace hHeld := se_step hHeld hb11
            intro _
            try simp only [Act.put, List.setIfInBounds_toArray, List.set_cons_zero, List.set_cons_succ]
            refine wpAnyH_ready (rs := [9]) (by kernel_rfl) (by simp) ?_
            refine AllReadyH.cons rfl (fun K hK => ?_) ?_
            · obtain ⟨c0, c1, c2, c3, g0, g1, g2, g3, hl⟩ := id T7_10_11
              simp only [nilTb] at c0 c1 c2 c3
              go_simp
              refine hK.out _ _ (se_put hHeld hp7 X) ?_
              clear hK K c0 c1 c2 c3 g0 g1 g2 g3 hl
              replace hHeld := se_put hHeld hp7 X
              intro _
              try simp only [Act.put, List.setIfInBounds_toArray, List.set_cons_zero, List.set_cons_succ]
              have T6' := tc_far T10_11 hq10 (.complex .f32 X.a.re X.a.im) (.complex .f32 X.b.re X.b.im) (.complex .f32 X.c.re X.c.im) (.complex .f32 X.d.re X.d.im)
              have T5' := T7_10_11.put X
              refine wpAnyH_ready (rs := [10]) (by kernel_rfl) (by simp) ?_
              refine AllReadyH.cons rfl (fun K hK => ?_) ?_
              · obtain ⟨c0, c1, c2, c3, g0, g1, g2, g3, hl⟩ := id T6'
                simp only [nilTb] at c0 c1 c2 c3
                go_simp
                refine hK.out _ _ (se_put hHeld hp10 Y) ?_
                clear hK K c0 c1 c2 c3 g0 g1 g2 g3 hl
                replace hHeld := se_put hHeld hp10 Y
                intro _
                try simp only [Act.put, List.setIfInBounds_toArray, List.set_cons_zero, List.set_cons_succ]
                have T5z := tc_far T5' (Ne.symm hq10) (.complex .f32 Y.a.re Y.a.im) (.complex .f32 Y.b.re Y.b.im) (.complex .f32 Y.c.re Y.c.im) (.complex .f32 Y.d.re Y.d.im)
                have T6z := T6'.put Y
                refine wpAnyH_done (by kernel_rfl) ?_ _
                go_wp2_with fail
                go_meet
                exact ⟨_, _, rfl, rfl, T5z, T6z, hHeld.2.2⟩
              exact AllReadyH.nil
            exact AllReadyH.nil
          exact AllReadyH.nil
        exact AllReadyH.nil
      refine AllReadyH.cons rfl (fun K hK => ?_) ?_
      · go_simp
        refine name_alloc ?_
        intro w12 T12 hb12
        have hp12 := hHeld.2.1
        refine hK.out _ _ (se_step hHeld hb12) ?_
        clear hK K
        replace hHeld := se_step hHeld hb12
        intro _
        try simp only [Act.put, List.setIfInBounds_toArray, List.set_cons_zero, List.set_cons_succ]
        refine wpAnyH_ready (rs := [6, 7]) (by kernel_rfl) (by simp) ?_
        refine AllReadyH.cons rfl (fun K hK => ?_) ?_
        · go_simp
          go_wp2_with ((go_at_call 45; with_reducible refine (HY.out _).mono ?_; rintro e w13 ⟨rfl, hb13⟩))
          have T12_13 := T12.below hb13
          refine hK.out _ _ (se_step hHeld hb13) ?_
          clear hK K
          replace hHeld := se_step hHeld hb13
          intro _
          try simp only [Act.put, List.setIfInBounds_toArray, List.set_cons_zero, List.set_cons_succ]
          refine wpAnyH_ready (rs := [7]) (by kernel_rfl) (by simp) ?_
          refine AllReadyH.cons rfl (fun K hK => ?_) ?_
          · go_simp
            refine name_alloc ?_
            intro w14 T14 hb14
            have hp14 := hHeld.2.1
            have hq14 := Nat.ne_of_lt T12_13.lt
            have T12_13_14 := T12_13.below hb14
            refine hK.out _ _ (se_step hHeld hb14) ?_
            clear hK K
            replace hHeld := se_step hHeld hb14
            intro _
            try simp only [Act.put, List.setIfInBounds_toArray, List.set_cons_zero, List.set_cons_succ]
            refine wpAnyH_ready (rs := [9]) (by kernel_rfl) (by simp) ?_
            refine AllReadyH.cons rfl (fun K hK => ?_) ?_
            · obtain ⟨c0, c1, c2, c3, g0, g1, g2, g3, hl⟩ := id T14
              simp only [nilTb] at c0 c1 c2 c3
              go_simp
              refine hK.out _ _ (se_put hHeld hp14 X) ?_
              clear hK K c0 c1 c2 c3 g0 g1 g2 g3 hl
              replace hHeld := se_put hHeld hp14 X
              intro _
              try simp only [Act.put, List.setIfInBounds_toArray, List.set_cons_zero, List.set_cons_succ]
              have T6' := tc_far T12_13_14 (Ne.symm hq14) (.complex .f32 X.a.re X.a.im) (.complex .f32 X.b.re X.b.im) (.complex .f32 X.c.re X.c.im) (.complex .f32 X.d.re X.d.im)
              have T5' := T14.put X
              refine wpAnyH_ready (rs := [10]) (by kernel_rfl) (by simp) ?_
              refine AllReadyH.cons rfl (fun K hK => ?_) ?_
              · obtain ⟨c0, c1, c2, c3, g0, g1, g2, g3, hl⟩ := id T6'
                simp only [nilTb] at c0 c1 c2 c3
                go_simp
                refine hK.out _ _ (se_put hHeld hp12 Y) ?_
                clear hK K c0 c1 c2 c3 g0 g1 g2 g3 hl
                replace hHeld := se_put hHeld hp12 Y
                intro _
                try simp only [Act.put, List.setIfInBounds_toArray, List.set_cons_zero, List.set_cons_succ]
                have T5z := tc_far T5' hq14 (.complex .f32 Y.a.re Y.a.im) (.complex .f32 Y.b.re Y.b.im) (.complex .f32 Y.c.re Y.c.im) (.complex .f32 Y.d.re Y.d.im)
                have T6z := T6'.put Y
                refine wpAnyH_done (by kernel_rfl) ?_ _
                go_wp2_with fail
                go_meet
                exact ⟨_, _, rfl, rfl, T5z, T6z, hHeld.2.2⟩
              exact AllReadyH.nil
            exact AllReadyH.nil
          exact AllReadyH.nil
        refine AllReadyH.cons rfl (fun K hK => ?_) ?_
        · go_simp
          refine name_alloc ?_
          intro w15 T15 hb15
          have hp15 := hHeld.2.1
          have hq15 := Nat.ne_of_lt T12.lt
          have T12_15 := T12.below hb15
          refine hK.out _ _ (se_step hHeld hb15) ?_
          clear hK K
          replace hHeld := se_step hHeld hb15
          intro _
          try simp only [Act.put, List.setIfInBounds_toArray, List.set_cons_zero, List.set_cons_succ]
          refine wpAnyH_ready (rs := [6]) (by kernel_rfl) (by simp) ?_
          refine AllReadyH.cons rfl (fun K hK => ?_) ?_
          · go_simp
            go_wp2_with ((go_at_call 45; with_reducible refine (HY.out _).mono ?_; rintro e w16 ⟨rfl, hb16⟩))
            have T12_15_16 := T12_15.below hb16
            have T15_16 := T15.below hb16
            refine hK.out _ _ (se_step hHeld hb16) ?_
            clear hK K
            replace hHeld := se_step hHeld hb16
            intro _
            try simp only [Act.put, List.setIfInBounds_toArray, List.set_cons_zero, List.set_cons_succ]
            refine wpAnyH_ready (rs := [9]) (by kernel_rfl) (by simp) ?_
            refine AllReadyH.cons rfl (fun K hK => ?_) ?_
            · obtain ⟨c0, c1, c2, c3, g0, g1, g2, g3, hl⟩ := id T15_16
              simp only [nilTb] at c0 c1 c2 c3
              go_simp
              refine hK.out _ _ (se_put hHeld hp15 X) ?_
              clear hK K c0 c1 c2 c3 g0 g1 g2 g3 hl
              replace hHeld := se_put hHeld hp15 X
              intro _
              try simp only [Act.put, List.setIfInBounds_toArray, List.set_cons_zero, List.set_cons_succ]
              have T6' := tc_far T12_15_16 (Ne.symm hq15) (.complex .f32 X.a.re X.a.im) (.complex .f32 X.b.re X.b.im) (.complex .f32 X.c.re X.c.im) (.complex .f32 X.d.re X.d.im)
              have T5' := T15_16.put X
              refine wpAnyH_ready (rs := [10]) (by kernel_rfl) (by simp) ?_
              refine AllReadyH.cons rfl (fun K hK => ?_) ?_
              · obtain ⟨c0, c1, c2, c3, g0, g1, g2, g3, hl⟩ := id T6'
                simp only [nilTb] at c0 c1 c2 c3
                go_simp
                refine hK.out _ _ (se_put hHeld hp12 Y) ?_
                clear hK K c0 c1 c2 c3 g0 g1 g2 g3 hl
                replace hHeld := se_put hHeld hp12 Y
                intro _
                try simp only [Act.put, List.setIfInBounds_toArray, List.set_cons_zero, List.set_cons_succ]
                have T5z := tc_far T5' hq15 (.complex .f32 Y.a.re Y.a.im) (.complex .f32 Y.b.re Y.b.im) (.complex .f32 Y.c.re Y.c.im) (.complex .f32 Y.d.re Y.d.im)
                have T6z := T6'.put Y
                refine wpAnyH_done (by kernel_rfl) ?_ _
                go_wp2_with fail
                go_meet
                exact ⟨_, _, rfl, rfl, T5z, T6z, hHeld.2.2⟩
              exact AllReadyH.nil
            exact AllReadyH.nil
          exact AllReadyH.nil
        exact AllReadyH.nil
      exact AllReadyH.nil
    refine AllReadyH.cons rfl (fun K hK => ?_) ?_
    · go_simp
      refine name_alloc ?_
      intro w17 T17 hb17
      have hp17 := hHeld.2.1
      refine hK.out _ _ (se_step hHeld hb17) ?_
      clear hK K
      replace hHeld := se_step hHeld hb17
      intro _
      try simp only [Act.put, List.setIfInBounds_toArray, List.set_cons_zero, List.set_cons_succ]
      refine wpAnyH_ready (rs := [2, 8]) (by kernel_rfl) (by simp) ?_
      refine AllReadyH.cons rfl (fun K hK => ?_) ?_
      · go_simp
        go_wp2_with ((go_at_call 45; with_reducible refine (HX.out _).mono ?_; rintro e w18 ⟨rfl, hb18⟩))
        have T17_18 := T17.below hb18
        refine hK.out _ _ (se_step hHeld hb18) ?_
        clear hK K
        replace hHeld := se_step hHeld hb18
        intro _
        try simp only [Act.put, List.setIfInBounds_toArray, List.set_cons_zero, List.set_cons_succ]
        refine wpAnyH_ready (rs := [6, 8]) (by kernel_rfl) (by simp) ?_
        refine AllReadyH.cons rfl (fun K hK => ?_) ?_
        · go_simp
          go_wp2_with ((go_at_call 45; with_reducible refine (HY.out _).mono ?_; rintro e w19 ⟨rfl, hb19⟩))
          have T17_18_19 := T17_18.below hb19
          refine hK.out _ _ (se_step hHeld hb19) ?_
          clear hK K
          replace hHeld := se_step hHeld hb19
          intro _
          try simp only [Act.put, List.setIfInBounds_toArray, List.set_cons_zero, List.set_cons_succ]
          refine wpAnyH_ready (rs := [8]) (by kernel_rfl) (by simp) ?_
          refine AllReadyH.cons rfl (fun K hK => ?_) ?_
          · go_simp
            refine name_alloc ?_
            intro w20 T20 hb20
            have hp20 := hHeld.2.1
            have hq20 := Nat.ne_of_lt T17_18_19.lt
            have T17_18_19_20 := T17_18_19.below hb20
            refine hK.out _ _ (se_step hHeld hb20) ?_
            clear hK K
            replace hHeld := se_step hHeld hb20
            intro _
            try simp only [Act.put, List.setIfInBounds_toArray, List.set_cons_zero, List.set_cons_succ]
            refine wpAnyH_ready (rs := [9]) (by kernel_rfl) (by simp) ?_
            refine AllReadyH.cons rfl (fun K hK => ?_) ?_
            · obtain ⟨c0, c1, c2, c3, g0, g1, g2, g3, hl⟩ := id T17_18_19_20
              simp only [nilTb] at c0 c1 c2 c3
              go_simp
              refine hK.out _ _ (se_put hHeld hp17 X) ?_
              clear hK K c0 c1 c2 c3 g0 g1 g2 g3 hl
              replace hHeld := se_put hHeld hp17 X
              intro _
              try simp only [Act.put, List.setIfInBounds_toArray, List.set_cons_zero, List.set_cons_succ]
              have T6' := tc_far T20 hq20 (.complex .f32 X.a.re X.a.im) (.complex .f32 X.b.re X.b.im) (.complex .f32 X.c.re X.c.im) (.complex .f32 X.d.re X.d.im)
              have T5' := T17_18_19_20.put X
              refine wpAnyH_ready (rs := [10]) (by kernel_rfl) (by simp) ?_
              refine AllReadyH.cons rfl (fun K hK => ?_) ?_
              · obtain ⟨c0, c1, c2, c3, g0, g1, g2, g3, hl⟩ := id T6'
                simp only [nilTb] at c0 c1 c2 c3
                go_simp
                refine hK.out _ _ (se_put hHeld hp20 Y) ?_
                clear hK K c0 c1 c2 c3 g0 g1 g2 g3 hl
                replace hHeld := se_put hHeld hp20 Y
                intro _
                try simp only [Act.put, List.setIfInBounds_toArray, List.set_cons_zero, List.set_cons_succ]
                have T5z := tc_far T5' (Ne.symm hq20) (.complex .f32 Y.a.re Y.a.im) (.complex .f32 Y.b.re Y.b.im) (.complex .f32 Y.c.re Y.c.im) (.complex .f32 Y.d.re Y.d.im)
                have T6z := T6'.put Y
                refine wpAnyH_done (by kernel_rfl) ?_ _
                go_wp2_with fail
                go_meet
                exact ⟨_, _, rfl, rfl, T5z, T6z, hHeld.2.2⟩
              exact AllReadyH.nil
            exact AllReadyH.nil
          exact AllReadyH.nil
        refine AllReadyH.cons rfl (fun K hK => ?_) ?_
        · go_simp
          refine name_alloc ?_
          intro w21 T21 hb21
          have hp21 := hHeld.2.1
          have hq21 := Nat.ne_of_lt T17_18.lt
          have T17_18_21 := T17_18.below hb21
          refine hK.out _ _ (se_step hHeld hb21) ?_
          clear hK K
          replace hHeld := se_step hHeld hb21
          intro _
          try simp only [Act.put, List.setIfInBounds_toArray, List.set_cons_zero, List.set_cons_succ]
          refine wpAnyH_ready (rs := [6]) (by kernel_rfl) (by simp) ?_
          refine AllReadyH.cons rfl (fun K hK => ?_) ?_
          · go_simp
            go_wp2_with ((go_at_call 45; with_reducible refine (HY.out _).mono ?_; rintro e w22 ⟨rfl, hb22⟩))
            have T17_18_21_22 := T17_18_21.below hb22
            have T21_22 := T21.below hb22
            refine hK.out _ _ (se_step hHeld hb22) ?_
            clear hK K
            replace hHeld := se_step hHeld hb22
            intro _
            try simp only [Act.put, List.setIfInBounds_toArray, List.set_cons_zero, List.set_cons_succ]
            refine wpAnyH_ready (rs := [9]) (by kernel_rfl) (by simp) ?_
            refine AllReadyH.cons rfl (fun K hK => ?_) ?_
            · obtain ⟨c0, c1, c2, c3, g0, g1, g2, g3, hl⟩ := id T17_18_21_22
              simp only [nilTb] at c0 c1 c2 c3
              go_simp
              refine hK.out _ _ (se_put hHeld hp17 X) ?_
              clear hK K c0 c1 c2 c3 g0 g1 g2 g3 hl
              replace hHeld := se_put hHeld hp17 X
              intro _
              try simp only [Act.put, List.setIfInBounds_toArray, List.set_cons_zero, List.set_cons_succ]
              have T6' := tc_far T21_22 hq21 (.complex .f32 X.a.re X.a.im) (.complex .f32 X.b.re X.b.im) (.complex .f32 X.c.re X.c.im) (.complex .f32 X.d.re X.d.im)
              have T5' := T17_18_21_22.put X
              refine wpAnyH_ready (rs := [10]) (by kernel_rfl) (by simp) ?_
              refine AllReadyH.cons rfl (fun K hK => ?_) ?_
              · obtain ⟨c0, c1, c2, c3, g0, g1, g2, g3, hl⟩ := id T6'
                simp only [nilTb] at c0 c1 c2 c3
                go_simp
                refine hK.out _ _ (se_put hHeld hp21 Y) ?_
                clear hK K c0 c1 c2 c3 g0 g1 g2 g3 hl
                replace hHeld := se_put hHeld hp21 Y
                intro _
                try simp only [Act.put, List.setIfInBounds_toArray, List.set_cons_zero, List.set_cons_succ]
                have T5z := tc_far T5' (Ne.symm hq21) (.complex .f32 Y.a.re Y.a.im) (.complex .f32 Y.b.re Y.b.im) (.complex .f32 Y.c.re Y.c.im) (.complex .f32 Y.d.re Y.d.im)
                have T6z := T6'.put Y
                refine wpAnyH_done (by kernel_rfl) ?_ _
                go_wp2_with fail
                go_meet
                exact ⟨_, _, rfl, rfl, T5z, T6z, hHeld.2.2⟩
              exact AllReadyH.nil
            exact AllReadyH.nil
          exact AllReadyH.nil
        exact AllReadyH.nil
      refine AllReadyH.cons rfl (fun K hK => ?_) ?_
      · go_simp
        refine name_alloc ?_
        intro w23 T23 hb23
        have hp23 := hHeld.2.1
        have hq23 := Nat.ne_of_lt T17.lt
        have T17_23 := T17.below hb23
        refine hK.out _ _ (se_step hHeld hb23) ?_
        clear hK K
        replace hHeld := se_step hHeld hb23
        intro _
        try simp only [Act.put, List.setIfInBounds_toArray, List.set_cons_zero, List.set_cons_succ]
        refine wpAnyH_ready (rs := [2]) (by kernel_rfl) (by simp) ?_
        refine AllReadyH.cons rfl (fun K hK => ?_) ?_
        · go_simp
          go_wp2_with ((go_at_call 45; with_reducible refine (HX.out _).mono ?_; rintro e w24 ⟨rfl, hb24⟩))
          have T17_23_24 := T17_23.below hb24
          have T23_24 := T23.below hb24
          refine hK.out _ _ (se_step hHeld hb24) ?_
          clear hK K
          replace hHeld := se_step hHeld hb24
          intro _
          try simp only [Act.put, List.setIfInBounds_toArray, List.set_cons_zero, List.set_cons_succ]
          refine wpAnyH_ready (rs := [6]) (by kernel_rfl) (by simp) ?_
          refine AllReadyH.cons rfl (fun K hK => ?_) ?_
          · go_simp
            go_wp2_with ((go_at_call 45; with_reducible refine (HY.out _).mono ?_; rintro e w25 ⟨rfl, hb25⟩))
            have T17_23_24_25 := T17_23_24.below hb25
            have T23_24_25 := T23_24.below hb25
            refine hK.out _ _ (se_step hHeld hb25) ?_
            clear hK K
            replace hHeld := se_step hHeld hb25
            intro _
            try simp only [Act.put, List.setIfInBounds_toArray, List.set_cons_zero, List.set_cons_succ]
            refine wpAnyH_ready (rs := [9]) (by kernel_rfl) (by simp) ?_
            refine AllReadyH.cons rfl (fun K hK => ?_) ?_
            · obtain ⟨c0, c1, c2, c3, g0, g1, g2, g3, hl⟩ := id T17_23_24_25
              simp only [nilTb] at c0 c1 c2 c3
              go_simp
              refine hK.out _ _ (se_put hHeld hp17 X) ?_
              clear hK K c0 c1 c2 c3 g0 g1 g2 g3 hl
              replace hHeld := se_put hHeld hp17 X
              intro _
              try simp only [Act.put, List.setIfInBounds_toArray, List.set_cons_zero, List.set_cons_succ]
              have T6' := tc_far T23_24_25 hq23 (.complex .f32 X.a.re X.a.im) (.complex .f32 X.b.re X.b.im) (.complex .f32 X.c.re X.c.im) (.complex .f32 X.d.re X.d.im)
              have T5' := T17_23_24_25.put X
              refine wpAnyH_ready (rs := [10]) (by kernel_rfl) (by simp) ?_
              refine AllReadyH.cons rfl (fun K hK => ?_) ?_
              · obtain ⟨c0, c1, c2, c3, g0, g1, g2, g3, hl⟩ := id T6'
                simp only [nilTb] at c0 c1 c2 c3
                go_simp
                refine hK.out _ _ (se_put hHeld hp23 Y) ?_
                clear hK K c0 c1 c2 c3 g0 g1 g2 g3 hl
                replace hHeld := se_put hHeld hp23 Y
                intro _
                try simp only [Act.put, List.setIfInBounds_toArray, List.set_cons_zero, List.set_cons_succ]
                have T5z := tc_far T5' (Ne.symm hq23) (.complex .f32 Y.a.re Y.a.im) (.complex .f32 Y.b.re Y.b.im) (.complex .f32 Y.c.re Y.c.im) (.complex .f32 Y.d.re Y.d.im)
                have T6z := T6'.put Y
                refine wpAnyH_done (by kernel_rfl) ?_ _
                go_wp2_with fail
                go_meet
                exact ⟨_, _, rfl, rfl, T5z, T6z, hHeld.2.2⟩
              exact AllReadyH.nil
            exact AllReadyH.nil
          exact AllReadyH.nil
        exact AllReadyH.nil
      exact AllReadyH.nil
    refine AllReadyH.cons rfl (fun K hK => ?_) ?_
    · go_simp
      refine name_alloc ?_
      intro w26 T26 hb26
      have hp26 := hHeld.2.1
      refine hK.out _ _ (se_step hHeld hb26) ?_
      clear hK K
      replace hHeld := se_step hHeld hb26
      intro _
      try simp only [Act.put, List.setIfInBounds_toArray, List.set_cons_zero, List.set_cons_succ]
      refine wpAnyH_ready (rs := [2, 7]) (by kernel_rfl) (by simp) ?_
      refine AllReadyH.cons rfl (fun K hK => ?_) ?_
      · go_simp
        go_wp2_with ((go_at_call 45; with_reducible refine (HX.out _).mono ?_; rintro e w27 ⟨rfl, hb27⟩))
        have T26_27 := T26.below hb27
        refine hK.out _ _ (se_step hHeld hb27) ?_
        clear hK K
        replace hHeld := se_step hHeld hb27
        intro _
        try simp only [Act.put, List.setIfInBounds_toArray, List.set_cons_zero, List.set_cons_succ]
        refine wpAnyH_ready (rs := [6, 7]) (by kernel_rfl) (by simp) ?_
        refine AllReadyH.cons rfl (fun K hK => ?_) ?_
        · go_simp
          go_wp2_with ((go_at_call 45; with_reducible refine (HY.out _).mono ?_; rintro e w28 ⟨rfl, hb28⟩))
          have T26_27_28 := T26_27.below hb28
          refine hK.out _ _ (se_step hHeld hb28) ?_
          clear hK K
          replace hHeld := se_step hHeld hb28
          intro _
          try simp only [Act.put, List.setIfInBounds_toArray, List.set_cons_zero, List.set_cons_succ]
          refine wpAnyH_ready (rs := [7]) (by kernel_rfl) (by simp) ?_
          refine AllReadyH.cons rfl (fun K hK => ?_) ?_
          · go_simp
            refine name_alloc ?_
            intro w29 T29 hb29
            have hp29 := hHeld.2.1
            have hq29 := Nat.ne_of_lt T26_27_28.lt
            have T26_27_28_29 := T26_27_28.below hb29
            refine hK.out _ _ (se_step hHeld hb29) ?_
            clear hK K
            replace hHeld := se_step hHeld hb29
            intro _
            try simp only [Act.put, List.setIfInBounds_toArray, List.set_cons_zero, List.set_cons_succ]
            refine wpAnyH_ready (rs := [9]) (by kernel_rfl) (by simp) ?_
            refine AllReadyH.cons rfl (fun K hK => ?_) ?_
            · obtain ⟨c0, c1, c2, c3, g0, g1, g2, g3, hl⟩ := id T29
              simp only [nilTb] at c0 c1 c2 c3
              go_simp
              refine hK.out _ _ (se_put hHeld hp29 X) ?_
              clear hK K c0 c1 c2 c3 g0 g1 g2 g3 hl
              replace hHeld := se_put hHeld hp29 X
              intro _
              try simp only [Act.put, List.setIfInBounds_toArray, List.set_cons_zero, List.set_cons_succ]
              have T6' := tc_far T26_27_28_29 (Ne.symm hq29) (.complex .f32 X.a.re X.a.im) (.complex .f32 X.b.re X.b.im) (.complex .f32 X.c.re X.c.im) (.complex .f32 X.d.re X.d.im)
              have T5' := T29.put X
              refine wpAnyH_ready (rs := [10]) (by kernel_rfl) (by simp) ?_
              refine AllReadyH.cons rfl (fun K hK => ?_) ?_
              · obtain ⟨c0, c1, c2, c3, g0, g1, g2, g3, hl⟩ := id T6'
                simp only [nilTb] at c0 c1 c2 c3
                go_simp
                refine hK.out _ _ (se_put hHeld hp26 Y) ?_
                clear hK K c0 c1 c2 c3 g0 g1 g2 g3 hl
                replace hHeld := se_put hHeld hp26 Y
                intro _
                try simp only [Act.put, List.setIfInBounds_toArray, List.set_cons_zero, List.set_cons_succ]
                have T5z := tc_far T5' hq29 (.complex .f32 Y.a.re Y.a.im) (.complex .f32 Y.b.re Y.b.im) (.complex .f32 Y.c.re Y.c.im) (.complex .f32 Y.d.re Y.d.im)
                have T6z := T6'.put Y
                refine wpAnyH_done (by kernel_rfl) ?_ _
                go_wp2_with fail
                go_meet
                exact ⟨_, _, rfl, rfl, T5z, T6z, hHeld.2.2⟩
              exact AllReadyH.nil
            exact AllReadyH.nil
          exact AllReadyH.nil
        refine AllReadyH.cons rfl (fun K hK => ?_) ?_
        · go_simp
          refine name_alloc ?_
          intro w30 T30 hb30
          have hp30 := hHeld.2.1
          have hq30 := Nat.ne_of_lt T26_27.lt
          have T26_27_30 := T26_27.below hb30
          refine hK.out _ _ (se_step hHeld hb30) ?_
          clear hK K
          replace hHeld := se_step hHeld hb30
          intro _
          try simp only [Act.put, List.setIfInBounds_toArray, List.set_cons_zero, List.set_cons_succ]
          refine wpAnyH_ready (rs := [6]) (by kernel_rfl) (by simp) ?_
          refine AllReadyH.cons rfl (fun K hK => ?_) ?_
          · go_simp
            go_wp2_with ((go_at_call 45; with_reducible refine (HY.out _).mono ?_; rintro e w31 ⟨rfl, hb31⟩))
            have T26_27_30_31 := T26_27_30.below hb31
            have T30_31 := T30.below hb31
            refine hK.out _ _ (se_step hHeld hb31) ?_
            clear hK K
            replace hHeld := se_step hHeld hb31
            intro _
            try simp only [Act.put, List.setIfInBounds_toArray, List.set_cons_zero, List.set_cons_succ]
            refine wpAnyH_ready (rs := [9]) (by kernel_rfl) (by simp) ?_
            refine AllReadyH.cons rfl (fun K hK => ?_) ?_
            · obtain ⟨c0, c1, c2, c3, g0, g1, g2, g3, hl⟩ := id T30_31
              simp only [nilTb] at c0 c1 c2 c3
              go_simp
              refine hK.out _ _ (se_put hHeld hp30 X) ?_
              clear hK K c0 c1 c2 c3 g0 g1 g2 g3 hl
              replace hHeld := se_put hHeld hp30 X
              intro _
              try simp only [Act.put, List.setIfInBounds_toArray, List.set_cons_zero, List.set_cons_succ]
              have T6' := tc_far T26_27_30_31 (Ne.symm hq30) (.complex .f32 X.a.re X.a.im) (.complex .f32 X.b.re X.b.im) (.complex .f32 X.c.re X.c.im) (.complex .f32 X.d.re X.d.im)
              have T5' := T30_31.put X
              refine wpAnyH_ready (rs := [10]) (by kernel_rfl) (by simp) ?_
              refine AllReadyH.cons rfl (fun K hK => ?_) ?_
              · obtain ⟨c0, c1, c2, c3, g0, g1, g2, g3, hl⟩ := id T6'
                simp only [nilTb] at c0 c1 c2 c3
                go_simp
                refine hK.out _ _ (se_put hHeld hp26 Y) ?_
                clear hK K c0 c1 c2 c3 g0 g1 g2 g3 hl
                replace hHeld := se_put hHeld hp26 Y
                intro _
                try simp only [Act.put, List.setIfInBounds_toArray, List.set_cons_zero, List.set_cons_succ]
                have T5z := tc_far T5' hq30 (.complex .f32 Y.a.re Y.a.im) (.complex .f32 Y.b.re Y.b.im) (.complex .f32 Y.c.re Y.c.im) (.complex .f32 Y.d.re Y.d.im)
                have T6z := T6'.put Y
                refine wpAnyH_done (by kernel_rfl) ?_ _
                go_wp2_with fail
                go_meet
                exact ⟨_, _, rfl, rfl, T5z, T6z, hHeld.2.2⟩
              exact AllReadyH.nil
            exact AllReadyH.nil
          exact AllReadyH.nil
        exact AllReadyH.nil
      refine AllReadyH.cons rfl (fun K hK => ?_) ?_
      · go_simp
        refine name_alloc ?_
        intro w32 T32 hb32
        have hp32 := hHeld.2.1
        have hq32 := Nat.ne_of_lt T26.lt
        have T26_32 := T26.below hb32
        refine hK.out _ _ (se_step hHeld hb32) ?_
        clear hK K
        replace hHeld := se_step hHeld hb32
        intro _
        try simp only [Act.put, List.setIfInBounds_toArray, List.set_cons_zero, List.set_cons_succ]
        refine wpAnyH_ready (rs := [2]) (by kernel_rfl) (by simp) ?_
        refine AllReadyH.cons rfl (fun K hK => ?_) ?_
        · go_simp
          go_wp2_with ((go_at_call 45; with_reducible refine (HX.out _).mono ?_; rintro e w33 ⟨rfl, hb33⟩))
          have T26_32_33 := T26_32.below hb33
          have T32_33 := T32.below hb33
          refine hK.out _ _ (se_step hHeld hb33) ?_
          clear hK K
          replace hHeld := se_step hHeld hb33
          intro _
          try simp only [Act.put, List.setIfInBounds_toArray, List.set_cons_zero, List.set_cons_succ]
          refine wpAnyH_ready (rs := [6]) (by kernel_rfl) (by simp) ?_
          refine AllReadyH.cons rfl (fun K hK => ?_) ?_
          · go_simp
            go_wp2_with ((go_at_call 45; with_reducible refine (HY.out _).mono ?_; rintro e w34 ⟨rfl, hb34⟩))
            have T26_32_33_34 := T26_32_33.below hb34
            have T32_33_34 := T32_33.below hb34
            refine hK.out _ _ (se_step hHeld hb34) ?_
            clear hK K
            replace hHeld := se_step hHeld hb34
            intro _
            try simp only [Act.put, List.setIfInBounds_toArray, List.set_cons_zero, List.set_cons_succ]
            refine wpAnyH_ready (rs := [9]) (by kernel_rfl) (by simp) ?_
            refine AllReadyH.cons rfl (fun K hK => ?_) ?_
            · obtain ⟨c0, c1, c2, c3, g0, g1, g2, g3, hl⟩ := id T32_33_34
              simp only [nilTb] at c0 c1 c2 c3
              go_simp
              refine hK.out _ _ (se_put hHeld hp32 X) ?_
              clear hK K c0 c1 c2 c3 g0 g1 g2 g3 hl
              replace hHeld := se_put hHeld hp32 X
              intro _
              try simp only [Act.put, List.setIfInBounds_toArray, List.set_cons_zero, List.set_cons_succ]
              have T6' := tc_far T26_32_33_34 (Ne.symm hq32) (.complex .f32 X.a.re X.a.im) (.complex .f32 X.b.re X.b.im) (.complex .f32 X.c.re X.c.im) (.complex .f32 X.d.re X.d.im)
              have T5' := T32_33_34.put X
              refine wpAnyH_ready (rs := [10]) (by kernel_rfl) (by simp) ?_
              refine AllReadyH.cons rfl (fun K hK => ?_) ?_
              · obtain ⟨c0, c1, c2, c3, g0, g1, g2, g3, hl⟩ := id T6'
                simp only [nilTb] at c0 c1 c2 c3
                go_simp
                refine hK.out _ _ (se_put hHeld hp26 Y) ?_
                clear hK K c0 c1 c2 c3 g0 g1 g2 g3 hl
                replace hHeld := se_put hHeld hp26 Y
                intro _
                try simp only [Act.put, List.setIfInBounds_toArray, List.set_cons_zero, List.set_cons_succ]
                have T5z := tc_far T5' hq32 (.complex .f32 Y.a.re Y.a.im) (.complex .f32 Y.b.re Y.b.im) (.complex .f32 Y.c.re Y.c.im) (.complex .f32 Y.d.re Y.d.im)
                have T6z := T6'.put Y
                refine wpAnyH_done (by kernel_rfl) ?_ _
                go_wp2_with fail
                go_meet
                exact ⟨_, _, rfl, rfl, T5z, T6z, hHeld.2.2⟩
              exact AllReadyH.nil
            exact AllReadyH.nil
          exact AllReadyH.nil
        exact AllReadyH.nil
      exact AllReadyH.nil
    exact AllReadyH.nil
  case rest =>
    obtain ⟨p, q, rfl, rfl, TX, TY, hB⟩ := hcut
    have HB := Lib.hid hB
    have k0 := cell_regrown TX.c0
    have k1 := cell_regrown TX.c1
    have k2 := cell_regrown TX.c2
    have k3 := cell_regrown TX.c3
    have j0 := cell_regrown TY.c0
    have j1 := cell_regrown TY.c1
    have j2 := cell_regrown TY.c2
    have j3 := cell_regrown TY.c3
    clear hB TX TY HX HY rk hS0
    go_upto_region 2 with fail
    refine wp_region_quiet_below (by kernel_rfl) (by kernel_rfl) ?_
    repeat (go_big_quiet_step (first | (go_at_call 81; exact Calls.regrown_of (HM.out _)) | (go_at_call 76; exact Calls.regrown_of (HT.out _)) | (go_at_call 80; exact Calls.regrown_of (HD.out _)) | (go_at_call 68; exact Calls.regrown_of (HF.out _))))
    refine wpQuiet_nil ?_
    intro _ hw'
    obtain ⟨⟨dq, osq⟩, hw''⟩ := hw'
    subst hw''
    go_wp2_with fail
    go_ret
    exact ⟨rfl, below_step (below_regrown wc dq osq) HB.out HB.out.size⟩

/-- How a call ends that makes a float32 or panics with a code; what the door makes of it. -/
def endF : Nat ⊕ Int → Ending
  | .inl x => .returned (.float .f32 x)
  | .inr c => panicC c
def resF : Nat ⊕ Int → Value
  | .inl x => .tuple #[.float .f32 x, .int .i64 0]
  | .inr c => .tuple #[.float .f32 0, .int .i64 c]

theorem resF_form (o : Nat ⊕ Int) : ∃ (x : Nat) (j : Int), resF o = .tuple #[.float .f32 x, .int .i64 j] := by
  cases o with
  | inl t => exact ⟨t, 0, rfl⟩
  | inr c => exact ⟨0, c, rfl⟩

theorem doorF_any {F : FuncId} {cap : Array Value} (o : Nat ⊕ Int) (w : World) (hE : ∀ w, (callFunc F cap).run Try.prog w = .ok (.enter F cap) w) (hF : ∀ w', Below w.heap.size w w' → Calls Try.prog F cap w' fun e w'' => e = endF o ∧ Below w'.heap.size w' w'') :
    Calls Try.prog 55 #[.func (.func F) #[] cap] w fun e w' => e = .returned (resF o) ∧ Below w.heap.size w w' := by
  cases o with
  | inl t => exact doorF_ret w hE hF
  | inr c => exact doorF_pan w hE hF

def errE (a b c h : Nat) : Nat ⊕ Int := if errOk a b c h then .inl (errN a b c h) else .inr 3

theorem errorWith_any {a b c h : Nat} (ha : Num a) (hb : Num b) (hc : Num c) (hh : Num h) (w : World) :
    Calls Try.prog 57 #[.agg #[.float .f32 a, .float .f32 b, .float .f32 c], .float .f32 h] w fun e w' => e = endF (errE a b c h) ∧ Below w.heap.size w w' := by
  obtain ⟨qk, hk⟩ := half_num hh
  have SX := stepWith_any ha hb hc hh
  have SY := stepWith_any ha hb hc hk
  have E : errE a b c h = if errOk a b c h then .inl (errN a b c h) else .inr 3 := rfl
  rw [E]
  unfold stepE at SX SY
  cases H1 : finO (qO a b c h)
  · rw [H1] at SX
    have H : errOk a b c h = false := by unfold errOk; rw [H1]; rfl
    rw [H]
    exact err_no1 qk SX w
  cases H2 : finO (qO a b c (hN h))
  · rw [H1] at SX
    rw [H2] at SY
    have H : errOk a b c h = false := by unfold errOk; rw [H1, H2]; rfl
    rw [H]
    exact err_no2 (X := stepTb a b c h) qk SX SY w
  · rw [H1] at SX
    rw [H2] at SY
    have H : errOk a b c h = true := by unfold errOk; rw [H1, H2]; rfl
    rw [H]
    obtain ⟨_, m, t1, t2⟩ := errN_bd ha hb hc hh H
    have D := fun w => tableDistance_ok (k := 14) t1 t2 (by omega) w
    rw [dist_same (k := 14) t1 t2 (by omega)] at D
    exact err_yes (X := stepTb a b c h) (Y := stepTb a b c (hN h)) (fun w => times_ok m w) D qk SX SY w

theorem errIn_res (a b c h : Nat) : errIn a b c h = resF (errE a b c h) := by
  unfold errIn errE
  cases errOk a b c h <;> rfl

end Go.Proofs.Ytlmhibeimfkpiaa
