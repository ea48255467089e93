/- The drifts of the powers of a step, of the program. Made by gen_pg.py. -/
import Derived.Test.YtaghfffbhgpalaaPa
import Derived.Test.YtaghfffbhgpalaaKbu
import Derived.Test.YtaghfffbhgpalaaDk
import Derived.Test.YtaghfffbhgpalaaTn
import Derived.Deep.RegionHeld3
import Derived.Deep.DeepCutAuto
import Derived.Lib.QuietBelow
namespace Go.Proofs.Ytaghfffbhgpalaa
open Go.RowKit

theorem unitTurnP (w : World) : Calls Try.prog 44 #[] w fun e w' => e = .returned unitI.v ∧ Below w.heap.size w w' := by
  rw [four]
  unfold unitI one32
  go_enter Try.func44, Try.ntmps44
  go_wp2
  refine bodyPost_ret (v := .agg #[.complex .f32 1065353216 0, .complex .f32 0 0, .complex .f32 0 0, .complex .f32 1065353216 0]) (by simp [results, Try.results44, go_sem]) rfl ⟨rfl, ?_⟩
  all_goals repeat first
    | exact Below.refl _ _
    | refine Below.setCell ?_ ?_ _
    | refine Below.alloc ?_ ?_ _
  all_goals first | omega | (simp; done) | (simp; omega)

theorem roomP (n : Nat) (hn : n ≤ 1048576) (w : World) :
    (Instr.makeSlice 32 (.int .i64 0) (.int .i64 (n : Int))).run Try.prog w = .ok (.slice (some ⟨w.heap.size, 0, none⟩) 0 n) (w.alloc (.cells (madeCells #[.float .f32 0] n) 22)) := by
  obtain ⟨i, hi1, z1, z2, z3⟩ := info_parts infoF32P
  have := run_make (P := Try.prog) w 32 22 i _ Try.underlying32 hi1 z1 .i64 .i64 0 n (Int.le_refl _) (by omega) (by rw [z3]; omega) (by omega)
  rw [z2] at this
  have hc : (Value.float .f32 0).cells = #[.float .f32 0] := by kernel_rfl
  rw [hc] at this
  simpa using this

/-- The table in its block, and nothing below turned. -/
structure SD (w : World) (T : Tb) (W : World) : Prop where
  hb : Below w.heap.size w W
  tb : TC W w.heap.size T

theorem SD.lt {w W : World} {T : Tb} (h : SD w T W) : w.heap.size < W.heap.size := h.tb.lt

theorem sd_step {w W W' : World} {T : Tb} (h : SD w T W) (hb : Below W.heap.size W W') : SD w T W' :=
  ⟨below_step hb h.hb h.hb.size, h.tb.below hb⟩

theorem sd_put {w W : World} {T : Tb} {p : Nat} (h : SD w T W) (hp : w.heap.size < p) (X : Tb) : SD w T ((((W.setCell ⟨p, 0, none⟩ (.complex .f32 X.a.re X.a.im)).setCell ⟨p, 1, none⟩ (.complex .f32 X.b.re X.b.im)).setCell ⟨p, 2, none⟩ (.complex .f32 X.c.re X.c.im)).setCell ⟨p, 3, none⟩ (.complex .f32 X.d.re X.d.im)) :=
  ⟨Below.put4 h.hb (Nat.le_of_lt hp) _ _ _ _, tc_far h.tb (by omega) _ _ _ _⟩

/-- A new block of zeros for a table, and a new row: above. -/
structure NT (w W : World) (p : Nat) : Prop where
  gt : w.heap.size < p
  tab : TC W p nilTb

structure NS (w W : World) (n q : Nat) : Prop where
  gt : w.heap.size < q
  lt : q < W.heap.size
  row : W.ownsRow w.heap.size 22 1 (.slice (some ⟨q, 0, none⟩) 0 n) 0 []

theorem NT.lt {w W : World} {p : Nat} (h : NT w W p) : p < W.heap.size := h.tab.lt

theorem NT.step {w W W' : World} {p : Nat} (h : NT w W p) (hb : Below W.heap.size W W') : NT w W' p := ⟨h.gt, h.tab.below hb⟩

theorem NS.step {w W W' : World} {n q : Nat} (h : NS w W n q) (hb : Below W.heap.size W W') : NS w W' n q := ⟨h.gt, Nat.lt_of_lt_of_le h.lt hb.size, owns_belowP h.row hb⟩

theorem region_namedP {P : Program} {id : Nat} {ops : Array Oper} {Q : Exit → Act → World → Prop} {S : World → Prop} {a : Act} {w : World} (hm : P.follows .mixedOrders = true) (hS : S w.drew) (h : ∀ W, S W → wpAnyH P .any ops Q S ops.size (Array.replicate ops.size false) a W) : (Code.region id ops true).wp P Q a w :=
  wp_region_held_drew hm hS (h _)

theorem name_allocP {K : Act → World → Prop} {a : Act} {w W : World} {T : TypeId} (hw : w.heap.size < W.heap.size) (h : ∀ W', NT w W' W.heap.size → Below W.heap.size W W' → K a W') : K a (W.alloc (.cells #[.complex .f32 0 0, .complex .f32 0 0, .complex .f32 0 0, .complex .f32 0 0] T)) :=
  h _ ⟨hw, TC.nil W T⟩ ((Below.refl _ _).alloc (Nat.le_refl _) _)

theorem name_makeP {K : Act → World → Prop} {a : Act} {w W : World} {n : Nat} (hn : n ≤ 300) (hw : w.heap.size < W.heap.size) (h : ∀ W', NS w W' n W.heap.size → Below W.heap.size W W' → K a W') : K a (W.alloc (.cells (madeCells #[.float .f32 0] n) 22)) :=
  h _ ⟨hw, by simp, World.ownsRow_made W _ n (Nat.le_of_lt hw) (by unfold maxLen; omega) (by rw [size_madeCells]; omega)⟩ ((Below.refl _ _).alloc (Nat.le_refl _) _)

/-- The world when the loop begins. -/
structure RP (w W : World) (T U : Tb) (n p q : Nat) : Prop where
  ne : p ≠ q
  gp : w.heap.size < p
  gq : w.heap.size < q
  row : W.ownsRow w.heap.size 22 1 (.slice (some ⟨q, 0, none⟩) 0 n) 0 []
  cur : TC W p U
  tab : TC W w.heap.size T
  hb : Below w.heap.size w W

theorem relP {w W : World} {T : Tb} {n p q : Nat} (hS : SD w T W) (F1 : NS w W n q) (F3 : NT w W p) (hne : p ≠ q) (U : Tb) :
    RP w ((((W.setCell ⟨p, 0, none⟩ (.complex .f32 U.a.re U.a.im)).setCell ⟨p, 1, none⟩ (.complex .f32 U.b.re U.b.im)).setCell ⟨p, 2, none⟩ (.complex .f32 U.c.re U.c.im)).setCell ⟨p, 3, none⟩ (.complex .f32 U.d.re U.d.im)) T U n p q := by
  have hv : (Value.slice (some ⟨q, 0, none⟩) 0 n).ownBlock ≠ some p := by
    intro e
    injection e with e
    exact hne e.symm
  have h := sd_put hS F3.gt U
  exact ⟨hne, F3.gt, F1.gt, owns_setP (owns_setP (owns_setP (owns_setP F1.row hv) hv) hv) hv, F3.tab.put U, h.tb, h.hb⟩

set_option maxRecDepth 100000 in
set_option maxHeartbeats 4000000 in
theorem drifts_made {n : Nat} {T : Tb} {pw : Nat → Tb} (n2 : n ≤ 300) (h0 : pw 0 = unitI)
    (HM : ∀ k, k < n → ∀ w, Calls Try.prog 46 #[T.v, (pw k).v] w fun e w' => e = .returned (.tuple #[(pw (k + 1)).v, .int .i64 0]) ∧ Below w.heap.size w w')
    (HD : ∀ k, k < n → ∀ w, Calls Try.prog 48 #[(pw (k + 1)).v] w fun e w' => e = .returned (.tuple #[.float .f32 (driftI (pw (k + 1))), .int .i64 0]) ∧ Below w.heap.size w w') (w : World) :
    Calls Try.prog 29 #[T.v, .int .i64 n] w fun e w' => ∃ u, e = .returned u ∧ Below w.heap.size w w' ∧ OwnV 22 w' u n (fun i => .float .f32 (driftI (pw (i + 1)))) w.heap.size w'.heap.size := by
  have HM' := Lib.hid (fun k (hk : k < n) w => by have := HM k hk w; rw [four, four, four] at this; exact this)
  have HD' := Lib.hid (fun k (hk : k < n) w => by have := HD k hk w; rw [four] at this; exact this)
  have HU := Lib.hid (fun w => by have := unitTurnP w; rw [← h0, four] at this; exact this)
  have HT := Lib.hid (fun (t : Tb) w => by have := mustT_yes t w; rw [four] at this; exact this)
  have HF := Lib.hid (fun x w => mustF_yes x w)
  have hmk := roomP n (by omega)
  obtain ⟨ti, ti1, z1, z2, z3⟩ := info_parts infoF32P
  rw [four]
  generalize hU : pw 0 = U at *
  have hS0 : SD w T (w.alloc (.cells #[.complex .f32 T.a.re T.a.im, .complex .f32 T.b.re T.b.im, .complex .f32 T.c.re T.c.im, .complex .f32 T.d.re T.d.im] 47)) := ⟨(Below.refl _ _).alloc (Nat.le_refl _) _, TC.new w _ T⟩
  clear HM HD h0
  go_enter Try.func29, Try.ntmps29
  go_upto_region 1 with fail
  go_cut [5, 6] (fun s5 s6 wx => ∃ p q, s5 = .slice (some ⟨q, 0, none⟩) 0 n ∧ s6 = .pointer (some ⟨p, 0, none⟩) ∧ RP w wx T U n p q)
  case first =>
    refine region_namedP (S := SD w T) (by kernel_rfl) (sd_step hS0 (below_drewN (Below.refl _ _) 1)) ?_
    intro W0 hHeld
    refine wpAnyH_take (i := 0) (v := ?v0) rfl (by kernel_rfl) (by kernel_rfl) (by kernel_rfl) (fun _ _ _ h => h) (Or.inl ⟨by rfl, ?h0⟩) (by assumption) ?r0
    case h0 => intro w' hSw; go_simp; all_goals with_reducible rfl
    try simp only [Act.put, List.setIfInBounds_toArray, List.set_cons_zero, List.set_cons_succ]
    refine wpAnyH_ready (rs := [1, 2, 3]) (by kernel_rfl) (by simp) ?_
    refine AllReadyH.cons rfl (fun K hK => ?_) ?_
    · go_simp
      refine name_makeP (n := n) n2 hHeld.lt ?_
      intro w1 F1 hb1
      refine hK.out _ _ (sd_step hHeld hb1) ?_
      clear hK K
      replace hHeld := sd_step hHeld hb1
      intro _
      try simp only [Act.put, List.setIfInBounds_toArray, List.set_cons_zero, List.set_cons_succ]
      refine wpAnyH_ready (rs := [2, 3]) (by kernel_rfl) (by simp) ?_
      refine AllReadyH.cons rfl (fun K hK => ?_) ?_
      · go_simp
        go_wp2_with ((go_at_call 44; with_reducible refine (HU.out _).mono ?_; rintro e w2 ⟨rfl, hb2⟩))
        have F1_2 := F1.step hb2
        refine hK.out _ _ (sd_step hHeld hb2) ?_
        clear hK K
        replace hHeld := sd_step hHeld hb2
        intro _
        try simp only [Act.put, List.setIfInBounds_toArray, List.set_cons_zero, List.set_cons_succ]
        refine wpAnyH_ready (rs := [3]) (by kernel_rfl) (by simp) ?_
        refine AllReadyH.cons rfl (fun K hK => ?_) ?_
        · go_simp
          refine name_allocP hHeld.lt ?_
          intro w3 F3 hb3
          have hq3 := Nat.ne_of_lt F1_2.lt
          have F1_2_3 := F1_2.step hb3
          refine hK.out _ _ (sd_step hHeld hb3) ?_
          clear hK K
          replace hHeld := sd_step hHeld hb3
          intro _
          try simp only [Act.put, List.setIfInBounds_toArray, List.set_cons_zero, List.set_cons_succ]
          refine wpAnyH_ready (rs := [4]) (by kernel_rfl) (by simp) ?_
          refine AllReadyH.cons rfl (fun K hK => ?_) ?_
          · go_simp
            refine hK.out _ _ hHeld ?_
            clear hK K
            intro _
            try simp only [Act.put, List.setIfInBounds_toArray, List.set_cons_zero, List.set_cons_succ]
            refine wpAnyH_ready (rs := [5]) (by kernel_rfl) (by simp) ?_
            refine AllReadyH.cons rfl (fun K hK => ?_) ?_
            · obtain ⟨c0, c1, c2, c3, g0, g1, g2, g3, hl⟩ := id F3.tab
              simp only [nilTb] at c0 c1 c2 c3
              go_simp
              refine hK.out _ _ (sd_put hHeld F3.gt U) ?_
              clear hK K c0 c1 c2 c3 g0 g1 g2 g3 hl
              intro _
              try simp only [Act.put, List.setIfInBounds_toArray, List.set_cons_zero, List.set_cons_succ]
              have R' := relP hHeld F1_2_3 F3 (Ne.symm hq3) U
              refine wpAnyH_done (by kernel_rfl) ?_ _
              go_wp2_with fail
              go_meet
              exact ⟨_, _, rfl, rfl, R'⟩
            exact AllReadyH.nil
          exact AllReadyH.nil
        exact AllReadyH.nil
      refine AllReadyH.cons rfl (fun K hK => ?_) ?_
      · go_simp
        refine name_allocP hHeld.lt ?_
        intro w4 F4 hb4
        have hq4 := Nat.ne_of_lt F1.lt
        have F1_4 := F1.step hb4
        refine hK.out _ _ (sd_step hHeld hb4) ?_
        clear hK K
        replace hHeld := sd_step hHeld hb4
        intro _
        try simp only [Act.put, List.setIfInBounds_toArray, List.set_cons_zero, List.set_cons_succ]
        refine wpAnyH_ready (rs := [2]) (by kernel_rfl) (by simp) ?_
        refine AllReadyH.cons rfl (fun K hK => ?_) ?_
        · go_simp
          go_wp2_with ((go_at_call 44; with_reducible refine (HU.out _).mono ?_; rintro e w5 ⟨rfl, hb5⟩))
          have F1_4_5 := F1_4.step hb5
          have F4_5 := F4.step hb5
          refine hK.out _ _ (sd_step hHeld hb5) ?_
          clear hK K
          replace hHeld := sd_step hHeld hb5
          intro _
          try simp only [Act.put, List.setIfInBounds_toArray, List.set_cons_zero, List.set_cons_succ]
          refine wpAnyH_ready (rs := [4]) (by kernel_rfl) (by simp) ?_
          refine AllReadyH.cons rfl (fun K hK => ?_) ?_
          · go_simp
            refine hK.out _ _ hHeld ?_
            clear hK K
            intro _
            try simp only [Act.put, List.setIfInBounds_toArray, List.set_cons_zero, List.set_cons_succ]
            refine wpAnyH_ready (rs := [5]) (by kernel_rfl) (by simp) ?_
            refine AllReadyH.cons rfl (fun K hK => ?_) ?_
            · obtain ⟨c0, c1, c2, c3, g0, g1, g2, g3, hl⟩ := id F4_5.tab
              simp only [nilTb] at c0 c1 c2 c3
              go_simp
              refine hK.out _ _ (sd_put hHeld F4_5.gt U) ?_
              clear hK K c0 c1 c2 c3 g0 g1 g2 g3 hl
              intro _
              try simp only [Act.put, List.setIfInBounds_toArray, List.set_cons_zero, List.set_cons_succ]
              have R' := relP hHeld F1_4_5 F4_5 (Ne.symm hq4) U
              refine wpAnyH_done (by kernel_rfl) ?_ _
              go_wp2_with fail
              go_meet
              exact ⟨_, _, rfl, rfl, R'⟩
            exact AllReadyH.nil
          exact AllReadyH.nil
        exact AllReadyH.nil
      exact AllReadyH.nil
    refine AllReadyH.cons rfl (fun K hK => ?_) ?_
    · go_simp
      go_wp2_with ((go_at_call 44; with_reducible refine (HU.out _).mono ?_; rintro e w6 ⟨rfl, hb6⟩))
      refine hK.out _ _ (sd_step hHeld hb6) ?_
      clear hK K
      replace hHeld := sd_step hHeld hb6
      intro _
      try simp only [Act.put, List.setIfInBounds_toArray, List.set_cons_zero, List.set_cons_succ]
      refine wpAnyH_ready (rs := [1, 3]) (by kernel_rfl) (by simp) ?_
      refine AllReadyH.cons rfl (fun K hK => ?_) ?_
      · go_simp
        refine name_makeP (n := n) n2 hHeld.lt ?_
        intro w7 F7 hb7
        refine hK.out _ _ (sd_step hHeld hb7) ?_
        clear hK K
        replace hHeld := sd_step hHeld hb7
        intro _
        try simp only [Act.put, List.setIfInBounds_toArray, List.set_cons_zero, List.set_cons_succ]
        refine wpAnyH_ready (rs := [3]) (by kernel_rfl) (by simp) ?_
        refine AllReadyH.cons rfl (fun K hK => ?_) ?_
        · go_simp
          refine name_allocP hHeld.lt ?_
          intro w8 F8 hb8
          have hq8 := Nat.ne_of_lt F7.lt
          have F7_8 := F7.step hb8
          refine hK.out _ _ (sd_step hHeld hb8) ?_
          clear hK K
          replace hHeld := sd_step hHeld hb8
          intro _
          try simp only [Act.put, List.setIfInBounds_toArray, List.set_cons_zero, List.set_cons_succ]
          refine wpAnyH_ready (rs := [4]) (by kernel_rfl) (by simp) ?_
          refine AllReadyH.cons rfl (fun K hK => ?_) ?_
          · go_simp
            refine hK.out _ _ hHeld ?_
            clear hK K
            intro _
            try simp only [Act.put, List.setIfInBounds_toArray, List.set_cons_zero, List.set_cons_succ]
            refine wpAnyH_ready (rs := [5]) (by kernel_rfl) (by simp) ?_
            refine AllReadyH.cons rfl (fun K hK => ?_) ?_
            · obtain ⟨c0, c1, c2, c3, g0, g1, g2, g3, hl⟩ := id F8.tab
              simp only [nilTb] at c0 c1 c2 c3
              go_simp
              refine hK.out _ _ (sd_put hHeld F8.gt U) ?_
              clear hK K c0 c1 c2 c3 g0 g1 g2 g3 hl
              intro _
              try simp only [Act.put, List.setIfInBounds_toArray, List.set_cons_zero, List.set_cons_succ]
              have R' := relP hHeld F7_8 F8 (Ne.symm hq8) U
              refine wpAnyH_done (by kernel_rfl) ?_ _
              go_wp2_with fail
              go_meet
              exact ⟨_, _, rfl, rfl, R'⟩
            exact AllReadyH.nil
          exact AllReadyH.nil
        exact AllReadyH.nil
      refine AllReadyH.cons rfl (fun K hK => ?_) ?_
      · go_simp
        refine name_allocP hHeld.lt ?_
        intro w9 F9 hb9
        refine hK.out _ _ (sd_step hHeld hb9) ?_
        clear hK K
        replace hHeld := sd_step hHeld hb9
        intro _
        try simp only [Act.put, List.setIfInBounds_toArray, List.set_cons_zero, List.set_cons_succ]
        refine wpAnyH_ready (rs := [1]) (by kernel_rfl) (by simp) ?_
        refine AllReadyH.cons rfl (fun K hK => ?_) ?_
        · go_simp
          refine name_makeP (n := n) n2 hHeld.lt ?_
          intro w10 F10 hb10
          have hq10 := Nat.ne_of_lt F9.lt
          have F9_10 := F9.step hb10
          refine hK.out _ _ (sd_step hHeld hb10) ?_
          clear hK K
          replace hHeld := sd_step hHeld hb10
          intro _
          try simp only [Act.put, List.setIfInBounds_toArray, List.set_cons_zero, List.set_cons_succ]
          refine wpAnyH_ready (rs := [4]) (by kernel_rfl) (by simp) ?_
          refine AllReadyH.cons rfl (fun K hK => ?_) ?_
          · go_simp
            refine hK.out _ _ hHeld ?_
            clear hK K
            intro _
            try simp only [Act.put, List.setIfInBounds_toArray, List.set_cons_zero, List.set_cons_succ]
            refine wpAnyH_ready (rs := [5]) (by kernel_rfl) (by simp) ?_
            refine AllReadyH.cons rfl (fun K hK => ?_) ?_
            · obtain ⟨c0, c1, c2, c3, g0, g1, g2, g3, hl⟩ := id F9_10.tab
              simp only [nilTb] at c0 c1 c2 c3
              go_simp
              refine hK.out _ _ (sd_put hHeld F9_10.gt U) ?_
              clear hK K c0 c1 c2 c3 g0 g1 g2 g3 hl
              intro _
              try simp only [Act.put, List.setIfInBounds_toArray, List.set_cons_zero, List.set_cons_succ]
              have R' := relP hHeld F10 F9_10 hq10 U
              refine wpAnyH_done (by kernel_rfl) ?_ _
              go_wp2_with fail
              go_meet
              exact ⟨_, _, rfl, rfl, R'⟩
            exact AllReadyH.nil
          exact AllReadyH.nil
        exact AllReadyH.nil
      exact AllReadyH.nil
    refine AllReadyH.cons rfl (fun K hK => ?_) ?_
    · go_simp
      refine name_allocP hHeld.lt ?_
      intro w11 F11 hb11
      refine hK.out _ _ (sd_step hHeld hb11) ?_
      clear hK K
      replace hHeld := sd_step hHeld hb11
      intro _
      try simp only [Act.put, List.setIfInBounds_toArray, List.set_cons_zero, List.set_cons_succ]
      refine wpAnyH_ready (rs := [1, 2]) (by kernel_rfl) (by simp) ?_
      refine AllReadyH.cons rfl (fun K hK => ?_) ?_
      · go_simp
        refine name_makeP (n := n) n2 hHeld.lt ?_
        intro w12 F12 hb12
        have hq12 := Nat.ne_of_lt F11.lt
        have F11_12 := F11.step hb12
        refine hK.out _ _ (sd_step hHeld hb12) ?_
        clear hK K
        replace hHeld := sd_step hHeld hb12
        intro _
        try simp only [Act.put, List.setIfInBounds_toArray, List.set_cons_zero, List.set_cons_succ]
        refine wpAnyH_ready (rs := [2]) (by kernel_rfl) (by simp) ?_
        refine AllReadyH.cons rfl (fun K hK => ?_) ?_
        · go_simp
          go_wp2_with ((go_at_call 44; with_reducible refine (HU.out _).mono ?_; rintro e w13 ⟨rfl, hb13⟩))
          have F11_12_13 := F11_12.step hb13
          have F12_13 := F12.step hb13
          refine hK.out _ _ (sd_step hHeld hb13) ?_
          clear hK K
          replace hHeld := sd_step hHeld hb13
          intro _
          try simp only [Act.put, List.setIfInBounds_toArray, List.set_cons_zero, List.set_cons_succ]
          refine wpAnyH_ready (rs := [4]) (by kernel_rfl) (by simp) ?_
          refine AllReadyH.cons rfl (fun K hK => ?_) ?_
          · go_simp
            refine hK.out _ _ hHeld ?_
            clear hK K
            intro _
            try simp only [Act.put, List.setIfInBounds_toArray, List.set_cons_zero, List.set_cons_succ]
            refine wpAnyH_ready (rs := [5]) (by kernel_rfl) (by simp) ?_
            refine AllReadyH.cons rfl (fun K hK => ?_) ?_
            · obtain ⟨c0, c1, c2, c3, g0, g1, g2, g3, hl⟩ := id F11_12_13.tab
              simp only [nilTb] at c0 c1 c2 c3
              go_simp
              refine hK.out _ _ (sd_put hHeld F11_12_13.gt U) ?_
              clear hK K c0 c1 c2 c3 g0 g1 g2 g3 hl
              intro _
              try simp only [Act.put, List.setIfInBounds_toArray, List.set_cons_zero, List.set_cons_succ]
              have R' := relP hHeld F12_13 F11_12_13 hq12 U
              refine wpAnyH_done (by kernel_rfl) ?_ _
              go_wp2_with fail
              go_meet
              exact ⟨_, _, rfl, rfl, R'⟩
            exact AllReadyH.nil
          exact AllReadyH.nil
        exact AllReadyH.nil
      refine AllReadyH.cons rfl (fun K hK => ?_) ?_
      · go_simp
        go_wp2_with ((go_at_call 44; with_reducible refine (HU.out _).mono ?_; rintro e w14 ⟨rfl, hb14⟩))
        have F11_14 := F11.step hb14
        refine hK.out _ _ (sd_step hHeld hb14) ?_
        clear hK K
        replace hHeld := sd_step hHeld hb14
        intro _
        try simp only [Act.put, List.setIfInBounds_toArray, List.set_cons_zero, List.set_cons_succ]
        refine wpAnyH_ready (rs := [1]) (by kernel_rfl) (by simp) ?_
        refine AllReadyH.cons rfl (fun K hK => ?_) ?_
        · go_simp
          refine name_makeP (n := n) n2 hHeld.lt ?_
          intro w15 F15 hb15
          have hq15 := Nat.ne_of_lt F11_14.lt
          have F11_14_15 := F11_14.step hb15
          refine hK.out _ _ (sd_step hHeld hb15) ?_
          clear hK K
          replace hHeld := sd_step hHeld hb15
          intro _
          try simp only [Act.put, List.setIfInBounds_toArray, List.set_cons_zero, List.set_cons_succ]
          refine wpAnyH_ready (rs := [4]) (by kernel_rfl) (by simp) ?_
          refine AllReadyH.cons rfl (fun K hK => ?_) ?_
          · go_simp
            refine hK.out _ _ hHeld ?_
            clear hK K
            intro _
            try simp only [Act.put, List.setIfInBounds_toArray, List.set_cons_zero, List.set_cons_succ]
            refine wpAnyH_ready (rs := [5]) (by kernel_rfl) (by simp) ?_
            refine AllReadyH.cons rfl (fun K hK => ?_) ?_
            · obtain ⟨c0, c1, c2, c3, g0, g1, g2, g3, hl⟩ := id F11_14_15.tab
              simp only [nilTb] at c0 c1 c2 c3
              go_simp
              refine hK.out _ _ (sd_put hHeld F11_14_15.gt U) ?_
              clear hK K c0 c1 c2 c3 g0 g1 g2 g3 hl
              intro _
              try simp only [Act.put, List.setIfInBounds_toArray, List.set_cons_zero, List.set_cons_succ]
              have R' := relP hHeld F15 F11_14_15 hq15 U
              refine wpAnyH_done (by kernel_rfl) ?_ _
              go_wp2_with fail
              go_meet
              exact ⟨_, _, rfl, rfl, R'⟩
            exact AllReadyH.nil
          exact AllReadyH.nil
        exact AllReadyH.nil
      exact AllReadyH.nil
    exact AllReadyH.nil
  case rest =>
    obtain ⟨p, q, rfl, rfl, R⟩ := hcut
    have hne := R.ne
    have hgp := R.gp
    have hgq := R.gq
    have S1 := Lib.hid R.tab
    have S2 := Lib.hid (show TC wc p (pw 0) by rw [hU]; exact R.cur)
    have SB := Lib.hid R.hb
    have SO := Lib.hid R.row
    clear R hS0 HU hmk
    go_wp2_with fail
    go_loopw [5, 11] (fun v i wr => ∃ k : Nat, i = .int .i64 k ∧ k ≤ n ∧ wr.ownsRow w.heap.size 22 1 v k (flP (fun k => driftI (pw (k + 1))) k) ∧ v.ownBlock ≠ some w.heap.size ∧ v.ownBlock ≠ some p ∧ TC wr w.heap.size T ∧ TC wr p (pw k) ∧ Below w.heap.size w wr) (fun _ i _ => n - (intOf i).toNat)
    case atStart => exact ⟨0, rfl, Nat.zero_le _, SO.out, by simp [Value.ownBlock]; omega, by simp [Value.ownBlock]; omega, S1.out, S2.out, SB.out⟩
    case round =>
      clear S1 S2 SB SO
      obtain ⟨k, rfl, hk, hown, hv1, hv2, hT1, hT2, hb⟩ := hrel
      by_cases hlt : k < n
      · have hlt' : (k : Int) < (n : Int) := by omega
        have HDk := Lib.hid (HD'.out k hlt)
        have HMk := Lib.hid (HM'.out k hlt)
        have HTk := Lib.hid (HT.out (pw (k + 1)))
        have HL := Lib.hid (flP_next (fun k => driftI (pw (k + 1))) k)
        have HFk := Lib.hid (HF.out (driftI (pw (k + 1))))
        have HB := Lib.hid hb
        have HO := Lib.hid hown
        have HV1 := Lib.hid hv1
        have HV2 := Lib.hid hv2
        have HT1 := Lib.hid hT1
        have HT2 := Lib.hid hT2
        obtain ⟨d0, d1, d2, d3, _, _, _, _, dl⟩ := hT1
        obtain ⟨e0, e1, e2, e3, _, _, _, _, el⟩ := hT2
        clear hb hown hv1 hv2 HM' HD' HT HF hU
        generalize driftI (pw (k + 1)) = d at *
        go_wp2_with fail
        refine (HMk.out _).mono ?_
        rintro e w4 ⟨rfl, hb4⟩
        have HB4 := Lib.hid (HB.out.trans (hb4.mono HB.out.size))
        have HO4 := Lib.hid (owns_belowP HO.out hb4)
        have HT14 := Lib.hid (HT1.out.below hb4)
        have HT24 := Lib.hid (HT2.out.below hb4)
        clear hb4 d0 d1 d2 d3 dl e0 e1 e2 e3 el HB HO HT1 HT2
        go_wp2_with fail
        refine (HTk.out _).mono ?_
        rintro e w5 ⟨rfl, hb5⟩
        have HB5 := Lib.hid (HB4.out.trans (hb5.mono HB4.out.size))
        have HO5 := Lib.hid (owns_belowP HO4.out hb5)
        have HT15 := Lib.hid (HT14.out.below hb5)
        have HT25 := Lib.hid (HT24.out.below hb5)
        clear hb5 HB4 HO4 HT14 HT24
        obtain ⟨e0, e1, e2, e3, g0, g1, g2, g3, el⟩ := HT25.out
        have HT26 := Lib.hid (HT25.out.put (pw (k + 1)))
        have HT16 := Lib.hid (tc_far HT15.out (show p ≠ w.heap.size by omega) (.complex .f32 (pw (k + 1)).a.re (pw (k + 1)).a.im) (.complex .f32 (pw (k + 1)).b.re (pw (k + 1)).b.im) (.complex .f32 (pw (k + 1)).c.re (pw (k + 1)).c.im) (.complex .f32 (pw (k + 1)).d.re (pw (k + 1)).d.im))
        have HB6 := Lib.hid (Below.put4 HB5.out (show w.heap.size ≤ p by omega) (.complex .f32 (pw (k + 1)).a.re (pw (k + 1)).a.im) (.complex .f32 (pw (k + 1)).b.re (pw (k + 1)).b.im) (.complex .f32 (pw (k + 1)).c.re (pw (k + 1)).c.im) (.complex .f32 (pw (k + 1)).d.re (pw (k + 1)).d.im))
        have HO6 := Lib.hid (show World.ownsRow _ _ _ _ _ _ _ from owns_setP (i := 3) (u := .complex .f32 (pw (k + 1)).d.re (pw (k + 1)).d.im) (owns_setP (i := 2) (u := .complex .f32 (pw (k + 1)).c.re (pw (k + 1)).c.im) (owns_setP (i := 1) (u := .complex .f32 (pw (k + 1)).b.re (pw (k + 1)).b.im) (owns_setP (i := 0) (u := .complex .f32 (pw (k + 1)).a.re (pw (k + 1)).a.im) HO5.out HV2.out) HV2.out) HV2.out) HV2.out)
        clear HB5 HO5 HT15 HT25
        go_wp2_with fail
        refine (HDk.out _).mono ?_
        generalize ((((w5.setCell ⟨p, 0, none⟩ (.complex .f32 (pw (k + 1)).a.re (pw (k + 1)).a.im)).setCell ⟨p, 1, none⟩ (.complex .f32 (pw (k + 1)).b.re (pw (k + 1)).b.im)).setCell ⟨p, 2, none⟩ (.complex .f32 (pw (k + 1)).c.re (pw (k + 1)).c.im)).setCell ⟨p, 3, none⟩ (.complex .f32 (pw (k + 1)).d.re (pw (k + 1)).d.im)) = w6 at *
        rintro e w7 ⟨rfl, hb7⟩
        have HB7 := Lib.hid (HB6.out.trans (hb7.mono HB6.out.size))
        have HO7 := Lib.hid (owns_belowP HO6.out hb7)
        have HT17 := Lib.hid (HT16.out.below hb7)
        have HT27 := Lib.hid (HT26.out.below hb7)
        have hsz : w.heap.size ≤ w7.heap.size := HB7.out.size
        clear hb7 e0 e1 e2 e3 g0 g1 g2 g3 el HB6 HO6 HT16 HT26
        go_wp2_with fail
        refine (HFk.out _).mono ?_
        rintro e w8 ⟨rfl, rfl⟩
        go_wp2_with (at_builtin; refine stop_listP ?_)
        unfold Hid
        refine wpList_append_own_at _ rfl _ _ 32 rfl w.heap.size 22 ti _ 1 4 Try.underlying32 ti1 z1 z2 z3 rfl (by decide) _ k _ rfl (by exact HO7.out.alloc _) ⟨w7.heap.size, 0, none⟩ 1 _ [.float .f32 d] rfl rfl (news_oneP (by simp [go_sem])) one_floatP (by unfold maxLen; omega) (by omega) (by simp; omega) ?_
        intro v9 w9 hown hgrow hnil hblk
        have HO9 := Lib.hid hown
        have HB9 := Lib.hid (Below.grown (a := w) (by exact HB7.out.alloc hsz _) hgrow (by simp; omega) (by intro g hg; exact (World.ownsRow.lt HO7.out g hg).1))
        have HT19 := Lib.hid (tc_grownP (HT17.out.alloc _) hgrow (fun e => HV1.out e.symm))
        have HT29 := Lib.hid (tc_grownP (HT27.out.alloc _) hgrow (fun e => HV2.out e.symm))
        have HV19 := Lib.hid (ne_grownP HT17.out HV1.out (by simp) hblk)
        have HV29 := Lib.hid (ne_grownP HT27.out HV2.out (by simp) hblk)
        clear hown hgrow hnil hblk HB7 HO7 HT17 HT27 HV1 HV2
        go_wp2_with fail
        go_roundw
        case rel =>
          refine ⟨k + 1, by go_num, by omega, ?_, HV19.out, HV29.out, HT19.out, HT29.out, HB9.out⟩
          rw [HL.out]
          exact HO9.out
        case measure => simp [intOf]; omega
      · have he : k = n := by omega
        subst he
        have hlt' : ¬ ((k : Int) < (k : Int)) := by omega
        have HB := Lib.hid hb
        have HO := Lib.hid (owns_P hown)
        clear hb hown hv1 hv2 hT1 hT2 HD' HM' HT HF hU
        go_wp2_with fail
        go_ret
        exact ⟨_, rfl, HB.out, HO.out⟩

end Go.Proofs.Ytaghfffbhgpalaa
