/- DriftOfPrecession of the program: its door, and the closure behind it. -/
import Derived.Test.YtaghfffbhgpalaaPg
import Derived.Test.YtaghfffbhgpalaaStI
namespace Go.Proofs.Ytaghfffbhgpalaa
open Go.RowKit

set_option maxRecDepth 100000 in
theorem caughtL_idle (p : Addr) (w : World) :
    CallsD Try.prog 43 #[.pointer (some p)] .returning w fun e u' w' => e = .returned (.tuple #[]) ∧ u' = .returning ∧ w' = w := by
  refine callsD_of_wpS Try.func43 rfl fun c₀ cs hu => ?_
  apply wpS_seq
  apply wpS_region
  simp [wpOpsS, go_sem, recoverD, hu, assert_nil, assert_code, Try.ntmps43, Exit.thenS]
  apply wpS_seq
  apply wpS_region
  simp [wpOpsS, go_sem, Exit.thenS]
  refine wpS_cond (t := false) (by simp [Act.eval, Array.replicate]) ?_
  simp only [Bool.false_eq_true, if_false]
  refine wpS_of_wp (wp_skip ?_)
  cases c₀
  simp_all [bodyPostS, results, Try.results43]

set_option maxRecDepth 100000 in
theorem caughtL_panic (p : Addr) (c x : Int) (older : List PanicEntry) (w : World) (hc : w.cell? p = some (.int .i64 x)) (hz : w.frozen? p = false) :
    CallsD Try.prog 43 #[.pointer (some p)] (.panicking ({ v := .iface 69 (.int .i64 c), recovered := false } :: older)) w fun e u' w' =>
      e = .returned (.tuple #[]) ∧ u' = .panicking ({ v := .iface 69 (.int .i64 c), recovered := true } :: older) ∧ w' = w.setCell p (.int .i64 c) := by
  refine callsD_of_wpS Try.func43 rfl fun c₀ cs hu => ?_
  apply wpS_seq
  apply wpS_region
  simp [wpOpsS, go_sem, recoverD, hu, assert_nil, assert_code, Try.ntmps43, Exit.thenS]
  apply wpS_seq
  apply wpS_region
  simp [wpOpsS, go_sem, Exit.thenS]
  refine wpS_cond (t := true) (by simp [Act.eval, Array.replicate]) ?_
  simp only [if_true]
  apply wpS_region
  simp [wpOpsS, go_sem, hc, hz, bodyPostS, results, Try.results43]

theorem ownv_setP {w : World} {T : TypeId} {v u : Value} {m lo hi B i : Nat} {F : Nat → Value} (h : OwnV T w v m F lo hi) (hB : B < lo) : OwnV T (w.setCell ⟨B, i, none⟩ u) v m F lo hi := by
  obtain ⟨a, cap, rfl, hh, h⟩ := h
  refine ⟨a, cap, rfl, by simpa using hh, fun h0 => ?_⟩
  obtain ⟨g, N, f, rfl, h1, h2, h3, h4, h5⟩ := h h0
  exact ⟨g, N, f, rfl, h1, h2, h3, World.rowIs.of_block h4 (Below.heap_setCell w ⟨B, i, none⟩ u g (by show g ≠ B; omega)), h5⟩

/-- A call that makes a list in new memory. -/
def MakesL (F : FuncId) (args : Array Value) (n : Nat) (X : Nat → Nat) (w : World) : Prop :=
  Calls Try.prog F args w fun e w' => ∃ a cap, e = .returned (.slice a n cap) ∧ Below w.heap.size w w' ∧ OwnV 22 w' (.slice a n cap) n (fun i => .float .f32 (X i)) w.heap.size w'.heap.size

set_option maxRecDepth 100000 in
set_option maxHeartbeats 1000000 in
theorem doorL_ret {F : FuncId} {cap : Array Value} {n : Nat} {X : Nat → Nat} (w : World) (hE : ∀ w, (callFunc F cap).run Try.prog w = .ok (.enter F cap) w) (hF : ∀ w', Below w.heap.size w w' → MakesL F cap n X w') :
    Calls Try.prog 27 #[.func (.func F) #[] cap] w fun e w' => ∃ u, e = .returned (.tuple #[u, .int .i64 0]) ∧ Below w.heap.size w w' ∧ OwnV 22 w' u n (fun i => .float .f32 (X i)) w.heap.size w'.heap.size := by
  have HF := Lib.hid hF
  clear hF
  have hmf : ∀ (fn : Fn) (first cap : Array Value) (w : World), (Instr.makeFunc fn first cap).run Try.prog w = .ok (.func fn first cap) w := fun _ _ _ _ => rfl
  go_enter_defers Try.func27, Try.ntmps27
  go_wp2_with fail
  refine (HF.out _ ((Below.refl _ _).alloc (Nat.le_refl _) _)).mono ?_
  rintro e w1 ⟨a1, c1, rfl, hb1, ho1⟩
  obtain ⟨hc1, hf1⟩ := bcell hb1
  have hz1 : w.heap.size < w1.heap.size := by have := hb1.size; simp at this; omega
  have HB1 := Lib.hid hb1
  have HO1 := Lib.hid ho1
  clear hb1 ho1
  go_wp2_with fail
  refine leaves_cons (f := 43) (args := #[.pointer (some ⟨w.heap.size, 0, none⟩)]) (by simp) (by simp [go_sem]) ?_
  refine (caughtL_idle ⟨w.heap.size, 0, none⟩ _).mono ?_
  rintro e u' w'' ⟨rfl, rfl, rfl⟩
  simp [Leaves, settle, results, Try.results27, go_sem, hc1, hf1, hz1]
  refine ⟨(((Below.refl _ _).alloc (Nat.le_refl _) _).trans (HB1.out.mono (by simp))).setCell (by simp) _, ?_⟩
  exact ownv_wide (ownv_setP HO1.out (by simp)) (by simp)

set_option maxRecDepth 100000 in
set_option maxHeartbeats 1000000 in
theorem doorL_pan {F : FuncId} {cap : Array Value} {c : Int} {X : Nat → Nat} (w : World) (hE : ∀ w, (callFunc F cap).run Try.prog w = .ok (.enter F cap) w) (hF : ∀ w', Below w.heap.size w w' → Calls Try.prog F cap w' fun e w'' => e = panicC c ∧ Below w'.heap.size w' w'') :
    Calls Try.prog 27 #[.func (.func F) #[] cap] w fun e w' => ∃ u, e = .returned (.tuple #[u, .int .i64 c]) ∧ Below w.heap.size w w' ∧ OwnV 22 w' u 0 (fun i => .float .f32 (X i)) w.heap.size w'.heap.size := by
  have HF := Lib.hid hF
  clear hF
  have hmf : ∀ (fn : Fn) (first cap : Array Value) (w : World), (Instr.makeFunc fn first cap).run Try.prog w = .ok (.func fn first cap) w := fun _ _ _ _ => rfl
  unfold panicC at HF
  go_enter_defers Try.func27, Try.ntmps27
  go_wp2_with fail
  refine (HF.out _ ((Below.refl _ _).alloc (Nat.le_refl _) _)).mono ?_
  rintro e w1 ⟨rfl, hb1⟩
  obtain ⟨hc1, hf1⟩ := bcell hb1
  have hz1 : w.heap.size < w1.heap.size := by have := hb1.size; simp at this; omega
  have d0 : w1.cell? ⟨w.heap.size, 0, none⟩ = some (.int .i64 3) := by rw [hc1 _ _ (by simp)]; simp [go_sem]
  have g0 : w1.frozen? ⟨w.heap.size, 0, none⟩ = false := by rw [hf1 _ _ (by simp)]; simp [go_sem]
  have HB1 := Lib.hid (below_step hb1 ((Below.refl _ _).alloc (Nat.le_refl _) _) (by simp))
  clear hb1 hc1 hf1
  go_wp2_with fail
  refine leaves_cons (f := 43) (args := #[.pointer (some ⟨w.heap.size, 0, none⟩)]) (by simp) (by simp [go_sem]) ?_
  refine (caughtL_panic ⟨w.heap.size, 0, none⟩ c 3 [] _ d0 g0).mono ?_
  rintro e u' w'' ⟨rfl, rfl, rfl⟩
  simp [Leaves, settle, results, Try.results27, go_sem, d0, g0, hz1]
  exact ⟨HB1.out.setCell (by simp) _, own_nilP (by simp)⟩

/-- What the closure reads. -/
structure SC (w : World) (a b c h : Nat) (n : Int) (B D N : Nat) (W : World) : Prop where
  v : VF W B a b c
  d : W.cell? ⟨D, 0, none⟩ = some (.float .f32 h)
  e : W.cell? ⟨N, 0, none⟩ = some (.int .i64 n)
  dl : D < W.heap.size
  el : N < W.heap.size
  hb : Below w.heap.size w W

theorem sc_step {w W W' : World} {a b c h B D N : Nat} {n : Int} (s : SC w a b c h n B D N W) (hb : Below W.heap.size W W') : SC w a b c h n B D N W' :=
  ⟨s.v.below hb, (hb.cell (p := ⟨D, 0, none⟩) s.dl).trans s.d, (hb.cell (p := ⟨N, 0, none⟩) s.el).trans s.e, Nat.lt_of_lt_of_le s.dl hb.size, Nat.lt_of_lt_of_le s.el hb.size, below_step hb s.hb s.hb.size⟩

set_option maxRecDepth 100000 in
set_option maxHeartbeats 4000000 in
theorem powersC_no {a b c h B D N : Nat} {n : Int} (HX0 : ∀ w, Calls Try.prog 30 #[.agg #[.float .f32 a, .float .f32 b, .float .f32 c], .float .f32 h] w fun e w' => e = panicC 3 ∧ Below w.heap.size w w') {w : World} (hS : SC w a b c h n B D N w) :
    Calls Try.prog 28 #[.pointer (some ⟨B, 0, none⟩), .pointer (some ⟨D, 0, none⟩), .pointer (some ⟨N, 0, none⟩)] w fun e w' => e = panicC 3 ∧ Below w.heap.size w w' := by
  have HX := Lib.hid HX0
  clear HX0
  unfold panicC at *
  go_enter Try.func28, Try.ntmps28
  go_upto_region 1 with fail
  refine region_namedP (S := SC w a b c h n B D N) (by kernel_rfl) (sc_step hS (below_drewN (Below.refl _ _) 1)) ?_
  intro W0 hHeld
  refine wpAnyH_take (i := 0) (v := ?v0) rfl (by kernel_rfl) (by kernel_rfl) (by kernel_rfl) (fun _ _ _ h => h) (Or.inl ⟨by rfl, ?h0⟩) (by assumption) ?r0
  case h0 => intro w' hSw; obtain ⟨⟨q0, q1, q2, _⟩, q3, q4, _⟩ := hSw; go_simp; all_goals with_reducible rfl
  try simp only [Act.put, List.setIfInBounds_toArray, List.set_cons_zero, List.set_cons_succ]
  refine wpAnyH_take (i := 1) (v := ?v1) rfl (by kernel_rfl) (by kernel_rfl) (by kernel_rfl) (fun _ _ _ h => h) (Or.inl ⟨by rfl, ?h1⟩) (by assumption) ?r1
  case h1 => intro w' hSw; obtain ⟨⟨q0, q1, q2, _⟩, q3, q4, _⟩ := hSw; go_simp; all_goals with_reducible rfl
  try simp only [Act.put, List.setIfInBounds_toArray, List.set_cons_zero, List.set_cons_succ]
  refine wpAnyH_take (i := 3) (v := ?v3) rfl (by kernel_rfl) (by kernel_rfl) (by kernel_rfl) (fun _ _ _ h => h) (Or.inl ⟨by rfl, ?h3⟩) (by assumption) ?r3
  case h3 => intro w' hSw; obtain ⟨⟨q0, q1, q2, _⟩, q3, q4, _⟩ := hSw; go_simp; all_goals with_reducible rfl
  try simp only [Act.put, List.setIfInBounds_toArray, List.set_cons_zero, List.set_cons_succ]
  refine wpAnyH_ready (rs := [2]) (by kernel_rfl) (by simp) ?_
  refine AllReadyH.cons rfl (fun K hK => ?_) ?_
  · go_simp
    go_wp2_with ((go_at_call 30; with_reducible refine (HX.out _).mono ?_; rintro e w1 ⟨rfl, hb1⟩))
    exact ⟨rfl, rfl, (sc_step hHeld hb1).hb⟩
  exact AllReadyH.nil

set_option maxRecDepth 100000 in
set_option maxHeartbeats 4000000 in
theorem powersC_yes {a b c h B D N n : Nat} {X : Nat → Nat} {T : Tb} (HX0 : ∀ w, Calls Try.prog 30 #[.agg #[.float .f32 a, .float .f32 b, .float .f32 c], .float .f32 h] w fun e w' => e = .returned T.v ∧ Below w.heap.size w w')
    (HP0 : ∀ w, Calls Try.prog 29 #[T.v, .int .i64 n] w fun e w' => ∃ u, e = .returned u ∧ Below w.heap.size w w' ∧ OwnV 22 w' u n (fun i => .float .f32 (X i)) w.heap.size w'.heap.size) {w : World} (hS : SC w a b c h n B D N w) :
    MakesL 28 #[.pointer (some ⟨B, 0, none⟩), .pointer (some ⟨D, 0, none⟩), .pointer (some ⟨N, 0, none⟩)] n X w := by
  rw [four] at HX0 HP0
  have HX := Lib.hid HX0
  have HP := Lib.hid HP0
  clear HX0 HP0
  unfold MakesL
  go_enter Try.func28, Try.ntmps28
  go_upto_region 1 with fail
  refine region_namedP (S := SC w a b c h n B D N) (by kernel_rfl) (sc_step hS (below_drewN (Below.refl _ _) 1)) ?_
  intro W0 hHeld
  refine wpAnyH_take (i := 0) (v := ?v0) rfl (by kernel_rfl) (by kernel_rfl) (by kernel_rfl) (fun _ _ _ h => h) (Or.inl ⟨by rfl, ?h0⟩) (by assumption) ?r0
  case h0 => intro w' hSw; obtain ⟨⟨q0, q1, q2, _⟩, q3, q4, _⟩ := hSw; go_simp; all_goals with_reducible rfl
  try simp only [Act.put, List.setIfInBounds_toArray, List.set_cons_zero, List.set_cons_succ]
  refine wpAnyH_take (i := 1) (v := ?v1) rfl (by kernel_rfl) (by kernel_rfl) (by kernel_rfl) (fun _ _ _ h => h) (Or.inl ⟨by rfl, ?h1⟩) (by assumption) ?r1
  case h1 => intro w' hSw; obtain ⟨⟨q0, q1, q2, _⟩, q3, q4, _⟩ := hSw; go_simp; all_goals with_reducible rfl
  try simp only [Act.put, List.setIfInBounds_toArray, List.set_cons_zero, List.set_cons_succ]
  refine wpAnyH_take (i := 3) (v := ?v3) rfl (by kernel_rfl) (by kernel_rfl) (by kernel_rfl) (fun _ _ _ h => h) (Or.inl ⟨by rfl, ?h3⟩) (by assumption) ?r3
  case h3 => intro w' hSw; obtain ⟨⟨q0, q1, q2, _⟩, q3, q4, _⟩ := hSw; go_simp; all_goals with_reducible rfl
  try simp only [Act.put, List.setIfInBounds_toArray, List.set_cons_zero, List.set_cons_succ]
  refine wpAnyH_ready (rs := [2]) (by kernel_rfl) (by simp) ?_
  refine AllReadyH.cons rfl (fun K hK => ?_) ?_
  · go_simp
    go_wp2_with ((go_at_call 30; with_reducible refine (HX.out _).mono ?_; rintro e w1 ⟨rfl, hb1⟩))
    refine hK.out _ _ (sc_step hHeld hb1) ?_
    clear hK K
    replace hHeld := sc_step hHeld hb1
    intro _
    try simp only [Act.put, List.setIfInBounds_toArray, List.set_cons_zero, List.set_cons_succ]
    refine wpAnyH_ready (rs := [4]) (by kernel_rfl) (by simp) ?_
    refine AllReadyH.cons rfl (fun K hK => ?_) ?_
    · go_simp
      go_wp2_with ((go_at_call 29; with_reducible refine (HP.out _).mono ?_; rintro e w2 ⟨u, rfl, hb2, ho2⟩))
      refine hK.out _ _ (sc_step hHeld hb2) ?_
      clear hK K
      have hz := hHeld.hb.size
      replace hHeld := sc_step hHeld hb2
      intro _
      try simp only [Act.put, List.setIfInBounds_toArray, List.set_cons_zero, List.set_cons_succ]
      refine wpAnyH_ready (rs := [5]) (by kernel_rfl) (by simp) ?_
      refine AllReadyH.cons rfl (fun K hK => ?_) ?_
      · go_simp
        refine hK.out _ _ hHeld ?_
        clear hK K
        intro _
        try simp only [Act.put, List.setIfInBounds_toArray, List.set_cons_zero, List.set_cons_succ]
        refine wpAnyH_done (by kernel_rfl) ?_ _
        go_wp2_with fail
        obtain ⟨a', cap', rfl, ho⟩ := ho2
        go_ret
        exact ⟨a', cap', rfl, hHeld.hb, ownv_wide (show OwnV 22 _ _ _ _ _ _ from ⟨a', cap', rfl, ho⟩) hz⟩
      exact AllReadyH.nil
    exact AllReadyH.nil
  exact AllReadyH.nil

end Go.Proofs.Ytaghfffbhgpalaa
