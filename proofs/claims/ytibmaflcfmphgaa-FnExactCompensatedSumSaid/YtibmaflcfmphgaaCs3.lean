/- Lists of float32 whatever their words: copied, held against each other. -/
import Derived.Test.YtibmaflcfmphgaaCs1
import Derived.Test.YtibmaflcfmphgaaOf
import Derived.Deep.RegionHeld3
namespace Go.Proofs.Ytibmaflcfmphgaa
open Go.RowKit

/-- A list of float32 that comes in. -/
def RdF (w : World) (v : Value) (n : Nat) (P : Nat → Nat) : Prop :=
  ∃ a cap, v = .slice a n cap ∧ (0 < n → ∃ b off, a = some ⟨b, off, none⟩ ∧ b < w.heap.size ∧ ∀ i, i < n → w.cell? ⟨b, off + i, none⟩ = some (.float .f32 (P i)))

theorem rdf_below {w w' : World} {v : Value} {n : Nat} {P : Nat → Nat} (h : RdF w v n P) (hb : Below w.heap.size w w') : RdF w' v n P := by
  obtain ⟨a, cap, rfl, h⟩ := h
  refine ⟨a, cap, rfl, fun h0 => ?_⟩
  obtain ⟨b, off, rfl, hl, hc⟩ := h h0
  exact ⟨b, off, rfl, Nat.lt_of_lt_of_le hl hb.size, fun i hi => (hb.cell (p := ⟨b, off + i, none⟩) hl).trans (hc i hi)⟩

theorem rdv_below {w w' : World} {v : Value} {n : Nat} {F : Nat → Value} (h : RdV w v n F) (hb : Below w.heap.size w w') : RdV w' v n F := by
  obtain ⟨a, cap, rfl, h⟩ := h
  refine ⟨a, cap, rfl, fun h0 => ?_⟩
  obtain ⟨b, rfl, hl, hc⟩ := h h0
  exact ⟨b, rfl, Nat.lt_of_lt_of_le hl hb.size, fun i hi => (hb.cell (p := ⟨b, i, none⟩) hl).trans (hc i hi)⟩

theorem infoF32C : (Try.prog.info? 23).map (fun i => (i.zero, i.size, i.bytes)) = some (some (.float .f32 0), 1, 4) := by kernel_rfl

theorem make_floats (n : Nat) (hn : n ≤ 1048576) (w : World) :
    (Instr.makeSlice 22 (.int .i64 (n : Int)) (.int .i64 (n : Int))).run Try.prog w = .ok (.slice (some ⟨w.heap.size, 0, none⟩) n n) (w.alloc (.cells (madeCells #[.float .f32 0] n) 23)) := by
  obtain ⟨i, hi1, z1, z2, z3⟩ := info_parts infoF32C
  have := run_make (P := Try.prog) w 22 23 i _ Try.underlying22 hi1 z1 .i64 .i64 n n (by omega) (Int.le_refl _) (by rw [z3]; omega) (by omega)
  rw [z2] at this
  have hc : (Value.float .f32 0).cells = #[.float .f32 0] := by kernel_rfl
  rw [hc] at this
  simpa using this

set_option maxRecDepth 100000 in
set_option maxHeartbeats 1000000 in
theorem toFloat32S_ok {w : World} {v : Value} {n : Nat} {P : Nat → Nat} (h : RdF w v n P) (hn : n ≤ 1048576) :
    Calls Try.prog 5 #[v] w fun e w' => e = .returned (.slice (some ⟨w.heap.size, 0, none⟩) n n) ∧ Below w.heap.size w w' ∧ RdV w' (.slice (some ⟨w.heap.size, 0, none⟩) n n) n (fun i => .float .f32 (P i)) := by
  have hmk := make_floats n hn
  obtain ⟨a, cap, rfl, h⟩ := h
  go_enter Try.func5, Try.ntmps5
  go_wp2_with fail
  have hrow := World.rowIs_made w (.float .f32 0) n 23
  generalize madeCells #[Value.float .f32 0] n = cs at *
  go_loopw [4] (fun i wr => ∃ k : Nat, i = .int .i64 k ∧ k ≤ n ∧ Below w.heap.size w wr ∧ wr.rowIs w.heap.size 23 n (fun j => if j < k then .float .f32 (P j) else .float .f32 0)) (fun i _ => n - (intOf i).toNat)
  case atStart => exact ⟨0, rfl, Nat.zero_le _, (Below.refl _ _).alloc (Nat.le_refl _) _, World.rowIs.congr hrow (fun i _ => by simp)⟩
  case round =>
    obtain ⟨k, rfl, hk, hb, hr⟩ := hrel
    by_cases hlt : k < n
    · obtain ⟨b, off, rfl, hl, hc⟩ := h (by omega)
      have c0 := hc k hlt
      rw [← hb.cell (p := ⟨b, _, none⟩) hl] at c0
      have hl2 : b < wr.heap.size := Nat.lt_of_lt_of_le hl hb.size
      have s0 := World.rowIs.cell hr (i := k) hlt
      have f0 := World.rowIs.frozen hr k
      have hz : w.heap.size < wr.heap.size := World.rowIs.lt hr
      have HB := Lib.hid hb
      have HR := Lib.hid hr
      have hlt' : (k : Int) < (n : Int) := by omega
      clear hb hr hc h hmk hrow
      go_wp2_with fail
      go_roundw
      case rel =>
        refine ⟨k + 1, by go_num, by omega, HB.out.setCell (Nat.le_refl _) _, ?_⟩
        refine World.rowIs.congr (World.rowIs.set HR.out k _) ?_
        intro j _
        by_cases h1 : j = k
        · subst h1; simp
        · by_cases h2 : j < k
          · rw [if_neg h1, if_pos h2, if_pos (by omega)]
          · rw [if_neg h1, if_neg h2, if_neg (by omega)]
      case measure => simp [intOf]; omega
    · have he : k = n := by omega
      subst he
      have hlt' : ¬ ((k : Int) < (k : Int)) := by omega
      have HB := Lib.hid hb
      have HR := Lib.hid (show RdV wr (.slice (some ⟨w.heap.size, 0, none⟩) k k) k (fun i => .float .f32 (P i)) from
        ⟨_, k, rfl, fun _ => ⟨_, rfl, World.rowIs.lt hr, fun i hi => by rw [World.rowIs.cell hr hi, if_pos hi]⟩⟩)
      clear hb hr hmk hrow h
      go_wp2_with fail
      go_ret
      exact ⟨rfl, HB.out, HR.out⟩

set_option maxHeartbeats 1000000 in
theorem same_inf1 (w : World) : Calls Try.prog 7 #[.float .f64 9218868437227405312, .float .f64 9218868437227405312] w fun e w' => e = .returned (.bool true) ∧ w = w' := by
  have o1 : FloatKind.f64.format.order 9218868437227405312 9218868437227405312 = some .eq := by decide +kernel
  have o2 : FloatKind.f64.format.order 9218868437227405312 0 = some .gt := by decide +kernel
  generalize (9218868437227405312 : Nat) = y at *
  go_enter Try.func7, Try.ntmps7
  go_wp2
  go_ret
  exact ⟨rfl, rfl⟩

set_option maxHeartbeats 1000000 in
theorem same_inf2 (w : World) : Calls Try.prog 7 #[.float .f64 18442240474082181120, .float .f64 18442240474082181120] w fun e w' => e = .returned (.bool true) ∧ w = w' := by
  have o1 : FloatKind.f64.format.order 18442240474082181120 18442240474082181120 = some .eq := by decide +kernel
  have o2 : FloatKind.f64.format.order 18442240474082181120 0 = some .lt := by decide +kernel
  generalize (18442240474082181120 : Nat) = y at *
  go_enter Try.func7, Try.ntmps7
  go_wp2
  go_ret
  exact ⟨rfl, rfl⟩

set_option maxHeartbeats 1000000 in
theorem same_nan {y z : Nat} (hy : isNaN .f64 y) (hz : isNaN .f64 z) (w : World) : Calls Try.prog 7 #[.float .f64 y, .float .f64 z] w fun e w' => e = .returned (.bool true) ∧ w = w' := by
  have o1 := nan_order hy y
  have o2 := nan_order hz z
  clear hy hz
  go_enter Try.func7, Try.ntmps7
  go_wp2
  go_ret
  exact ⟨rfl, rfl⟩

/-- A word made wide: the same everywhere and the same as itself, or a NaN. -/
theorem wide_any {x : Nat} (hx : x < 4294967296) :
    (∃ y, (∀ w, (convert 23 28 (.float .f32 x)).run Try.prog w = .ok (.float .f64 y) w) ∧ ∀ w, Calls Try.prog 7 #[.float .f64 y, .float .f64 y] w fun e w' => e = .returned (.bool true) ∧ w = w') ∨
      isNaN .f32 x := by
  cases hf : fin x
  · obtain ⟨s, h | ⟨t, h⟩⟩ := big_read x hx hf
    · left
      have h' : FloatKind.f32.decode x = .infinity s := h
      have hc : ∀ y, FloatKind.f64.encode (.infinity s) = y → floatToFloatBits .f32 x .f64 = some y := fun y hy => by
        unfold floatToFloatBits
        rw [if_neg (by decide), h', ← hy]
      have run : ∀ y, FloatKind.f64.encode (.infinity s) = y → ∀ w, (convert 23 28 (.float .f32 x)).run Try.prog w = .ok (.float .f64 y) w := fun y hy w =>
        run_convert_float_float w 23 28 .f32 .f64 _ _ (by rw [Try.underlying23]; rfl) Try.underlying28 (hc y hy)
      cases s
      · exact ⟨9218868437227405312, run _ (by decide +kernel), same_inf1⟩
      · exact ⟨18442240474082181120, run _ (by decide +kernel), same_inf2⟩
    · exact .inr ⟨s, t, h⟩
  · exact .inl (same_word x hx hf)

theorem conv_nan {P : Program} {src dst : TypeId} (hs : (P.underlying src).isSome = true) (hd : P.underlying dst = some (.float .f64)) {x : Nat} (h : isNaN .f32 x) (w : World) :
    ∃ y, (convert src dst (.float .f32 x)).run P w = .ok (.float .f64 y) w.drew ∧ isNaN .f64 y := by
  obtain ⟨s, t, h⟩ := h
  have h : FloatKind.f32.decode x = .nan s t := h
  obtain ⟨u, hs'⟩ := Option.isSome_iff_exists.1 hs
  refine ⟨(Question.nanConv .f64 x).cut (w.tape w.drawn (.nanConv .f64 x)), ?_, nan64 _⟩
  cases u <;> simp [convert, run_underlying hs', run_underlying hd, Conv.floatToFloat, h, Question.forced] <;> rfl

theorem region_namedC {P : Program} {id : Nat} {ops : Array Oper} {Q : Exit → Act → World → Prop} {S : World → Prop} {a : Act} {w : World} (hm : P.follows .mixedOrders = true) (hS : S w.drew) (h : ∀ W, S W → wpAnyH P .any ops Q S ops.size (Array.replicate ops.size false) a W) : (Code.region id ops true).wp P Q a w :=
  wp_region_held_drew hm hS (h _)

/-- The two cells that are read, and nothing below turned. -/
structure S2 (w : World) (B B' k x : Nat) (W : World) : Prop where
  c : W.cell? ⟨B, k, none⟩ = some (.float .f32 x)
  d : W.cell? ⟨B', k, none⟩ = some (.float .f32 x)
  hl : B < W.heap.size
  hl' : B' < W.heap.size
  hb : Below w.heap.size w W

theorem s2_drew {w W : World} {B B' k x : Nat} (h : S2 w B B' k x W) : S2 w B B' k x W.drew := ⟨h.c, h.d, h.hl, h.hl', h.hb.drew⟩

set_option maxRecDepth 100000 in
set_option maxHeartbeats 4000000 in
theorem eqFloat32S_any {w : World} {v v' : Value} {m : Nat} {X : Nat → Nat} (h : RdV w v m (fun i => .float .f32 (X i))) (h' : RdV w v' m (fun i => .float .f32 (X i))) (hm : m ≤ 1048576) (hX : ∀ i, i < m → X i < 4294967296) :
    Calls Try.prog 8 #[v, v'] w fun e w' => e = .returned (.bool true) ∧ Below w.heap.size w w' := by
  obtain ⟨a, cap, rfl, h⟩ := h
  obtain ⟨a', cap', rfl, h'⟩ := h'
  go_enter Try.func8, Try.ntmps8
  go_wp2_with fail
  go_loopw [5] (fun i wr => ∃ k : Nat, i = .int .i64 k ∧ k ≤ m ∧ Below w.heap.size w wr) (fun i _ => m - (intOf i).toNat)
  case atStart => exact ⟨0, rfl, Nat.zero_le _, Below.refl _ _⟩
  case round =>
    obtain ⟨k, rfl, hk, hb⟩ := hrel
    by_cases hlt : k < m
    · obtain ⟨B, rfl, hl, hc⟩ := h (by omega)
      obtain ⟨B', rfl, hl', hc'⟩ := h' (by omega)
      have c := (hb.cell (p := ⟨B, k, none⟩) hl).trans (hc k hlt)
      have d := (hb.cell (p := ⟨B', k, none⟩) hl').trans (hc' k hlt)
      have HB := Lib.hid hb
      have hlt' : (k : Int) < (m : Int) := by omega
      rcases wide_any (hX k hlt) with ⟨y, cv, sm⟩ | hn
      · have HSm := Lib.hid sm
        clear hb hc hc' h h' sm hX
        go_wp2_with fail
        go_quiet ((go_at_call 7; exact same_call0 HSm.out _))
        go_wp2_with fail
        go_roundw
        case rel => exact ⟨k + 1, by go_num, by omega, by exact Go.below_drewN HB.out _⟩
        case measure => simp [intOf]; omega
      · have cvn := fun w => conv_nan (P := Try.prog) (src := 23) (dst := 28) (by rw [Try.underlying23]; rfl) Try.underlying28 hn w
        have hS0 : S2 w B B' k (X k) wr := ⟨c, d, Nat.lt_of_lt_of_le hl hb.size, Nat.lt_of_lt_of_le hl' hb.size, hb⟩
        clear hb hc hc' h h' hX hn HB c d
        generalize X k = x at *
        go_wp2_with fail
        refine region_namedC (S := S2 w B B' k x) (by kernel_rfl) (s2_drew hS0) ?_
        intro W0 hH
        refine wpAnyH_take (i := 0) (v := ?v0) rfl (by kernel_rfl) (by kernel_rfl) (by kernel_rfl) (fun _ _ _ h => h) (Or.inl ⟨by rfl, ?h0⟩) (by assumption) ?r0
        case h0 => intro w' hSw; obtain ⟨q0, q1, q2, q3, _⟩ := hSw; go_simp; all_goals with_reducible rfl
        try simp only [Act.put, List.setIfInBounds_toArray, List.set_cons_zero, List.set_cons_succ]
        refine wpAnyH_take (i := 1) (v := ?v1) rfl (by kernel_rfl) (by kernel_rfl) (by kernel_rfl) (fun _ _ _ h => h) (Or.inl ⟨by rfl, ?h1⟩) (by assumption) ?r1
        case h1 => intro w' hSw; obtain ⟨q0, q1, q2, q3, _⟩ := hSw; go_simp; all_goals with_reducible rfl
        try simp only [Act.put, List.setIfInBounds_toArray, List.set_cons_zero, List.set_cons_succ]
        refine wpAnyH_take (i := 2) (v := ?v2) rfl (by kernel_rfl) (by kernel_rfl) (by kernel_rfl) (fun _ _ _ h => h) (Or.inl ⟨by rfl, ?h2⟩) (by assumption) ?r2
        case h2 => intro w' hSw; obtain ⟨q0, q1, q2, q3, _⟩ := hSw; go_simp; all_goals with_reducible rfl
        try simp only [Act.put, List.setIfInBounds_toArray, List.set_cons_zero, List.set_cons_succ]
        refine wpAnyH_take (i := 3) (v := ?v3) rfl (by kernel_rfl) (by kernel_rfl) (by kernel_rfl) (fun _ _ _ h => h) (Or.inl ⟨by rfl, ?h3⟩) (by assumption) ?r3
        case h3 => intro w' hSw; obtain ⟨q0, q1, q2, q3, _⟩ := hSw; go_simp; all_goals with_reducible rfl
        try simp only [Act.put, List.setIfInBounds_toArray, List.set_cons_zero, List.set_cons_succ]
        refine wpAnyH_take (i := 5) (v := ?v5) rfl (by kernel_rfl) (by kernel_rfl) (by kernel_rfl) (fun _ _ _ h => h) (Or.inl ⟨by rfl, ?h5⟩) (by assumption) ?r5
        case h5 => intro w' hSw; obtain ⟨q0, q1, q2, q3, _⟩ := hSw; go_simp; all_goals with_reducible rfl
        try simp only [Act.put, List.setIfInBounds_toArray, List.set_cons_zero, List.set_cons_succ]
        refine wpAnyH_take (i := 6) (v := ?v6) rfl (by kernel_rfl) (by kernel_rfl) (by kernel_rfl) (fun _ _ _ h => h) (Or.inl ⟨by rfl, ?h6⟩) (by assumption) ?r6
        case h6 => intro w' hSw; obtain ⟨q0, q1, q2, q3, _⟩ := hSw; go_simp; all_goals with_reducible rfl
        try simp only [Act.put, List.setIfInBounds_toArray, List.set_cons_zero, List.set_cons_succ]
        refine wpAnyH_take (i := 7) (v := ?v7) rfl (by kernel_rfl) (by kernel_rfl) (by kernel_rfl) (fun _ _ _ h => h) (Or.inl ⟨by rfl, ?h7⟩) (by assumption) ?r7
        case h7 => intro w' hSw; obtain ⟨q0, q1, q2, q3, _⟩ := hSw; go_simp; all_goals with_reducible rfl
        try simp only [Act.put, List.setIfInBounds_toArray, List.set_cons_zero, List.set_cons_succ]
        refine wpAnyH_take (i := 8) (v := ?v8) rfl (by kernel_rfl) (by kernel_rfl) (by kernel_rfl) (fun _ _ _ h => h) (Or.inl ⟨by rfl, ?h8⟩) (by assumption) ?r8
        case h8 => intro w' hSw; obtain ⟨q0, q1, q2, q3, _⟩ := hSw; go_simp; all_goals with_reducible rfl
        try simp only [Act.put, List.setIfInBounds_toArray, List.set_cons_zero, List.set_cons_succ]
        obtain ⟨y1, e1, n1⟩ := cvn W0
        obtain ⟨y2, e2, n2⟩ := cvn W0.drew
        refine wpAnyH_ready (rs := [4, 9]) (by kernel_rfl) (by simp) ?_
        refine AllReadyH.cons rfl (fun K hK => ?_) ?_
        · go_simp
          refine hK.out _ _ (s2_drew hH) ?_
          clear hK K
          intro _
          try simp only [Act.put, List.setIfInBounds_toArray, List.set_cons_zero, List.set_cons_succ]
          refine wpAnyH_ready (rs := [9]) (by kernel_rfl) (by simp) ?_
          refine AllReadyH.cons rfl (fun K hK => ?_) ?_
          · go_simp
            refine hK.out _ _ (s2_drew (s2_drew hH)) ?_
            clear hK K
            intro _
            try simp only [Act.put, List.setIfInBounds_toArray, List.set_cons_zero, List.set_cons_succ]
            refine wpAnyH_ready (rs := [10]) (by kernel_rfl) (by simp) ?_
            refine AllReadyH.cons rfl (fun K hK => ?_) ?_
            · go_simp
              go_wp2_with ((go_at_call 7; with_reducible refine (same_nan n1 n2 _).mono ?_; rintro e w3 ⟨rfl, rfl⟩))
              refine hK.out _ _ (s2_drew (s2_drew hH)) ?_
              clear hK K
              intro _
              try simp only [Act.put, List.setIfInBounds_toArray, List.set_cons_zero, List.set_cons_succ]
              refine wpAnyH_ready (rs := [11]) (by kernel_rfl) (by simp) ?_
              refine AllReadyH.cons rfl (fun K hK => ?_) ?_
              · go_simp
                refine hK.out _ _ (s2_drew (s2_drew hH)) ?_
                clear hK K
                intro _
                try simp only [Act.put, List.setIfInBounds_toArray, List.set_cons_zero, List.set_cons_succ]
                refine wpAnyH_done (by kernel_rfl) ?_ _
                go_wp2_with fail
                go_roundw
                case rel => exact ⟨k + 1, by go_num, by omega, (s2_drew (s2_drew hH)).hb⟩
                case measure => simp [intOf]; omega
              exact AllReadyH.nil
            exact AllReadyH.nil
          exact AllReadyH.nil
        refine AllReadyH.cons rfl (fun K hK => ?_) ?_
        · go_simp
          refine hK.out _ _ (s2_drew hH) ?_
          clear hK K
          intro _
          try simp only [Act.put, List.setIfInBounds_toArray, List.set_cons_zero, List.set_cons_succ]
          refine wpAnyH_ready (rs := [4]) (by kernel_rfl) (by simp) ?_
          refine AllReadyH.cons rfl (fun K hK => ?_) ?_
          · go_simp
            refine hK.out _ _ (s2_drew (s2_drew hH)) ?_
            clear hK K
            intro _
            try simp only [Act.put, List.setIfInBounds_toArray, List.set_cons_zero, List.set_cons_succ]
            refine wpAnyH_ready (rs := [10]) (by kernel_rfl) (by simp) ?_
            refine AllReadyH.cons rfl (fun K hK => ?_) ?_
            · go_simp
              go_wp2_with ((go_at_call 7; with_reducible refine (same_nan n2 n1 _).mono ?_; rintro e w3 ⟨rfl, rfl⟩))
              refine hK.out _ _ (s2_drew (s2_drew hH)) ?_
              clear hK K
              intro _
              try simp only [Act.put, List.setIfInBounds_toArray, List.set_cons_zero, List.set_cons_succ]
              refine wpAnyH_ready (rs := [11]) (by kernel_rfl) (by simp) ?_
              refine AllReadyH.cons rfl (fun K hK => ?_) ?_
              · go_simp
                refine hK.out _ _ (s2_drew (s2_drew hH)) ?_
                clear hK K
                intro _
                try simp only [Act.put, List.setIfInBounds_toArray, List.set_cons_zero, List.set_cons_succ]
                refine wpAnyH_done (by kernel_rfl) ?_ _
                go_wp2_with fail
                go_roundw
                case rel => exact ⟨k + 1, by go_num, by omega, (s2_drew (s2_drew hH)).hb⟩
                case measure => simp [intOf]; omega
              exact AllReadyH.nil
            exact AllReadyH.nil
          exact AllReadyH.nil
        exact AllReadyH.nil
    · have he : k = m := by omega
      subst he
      have hlt' : ¬ ((k : Int) < (k : Int)) := by omega
      have HB := Lib.hid hb
      clear hb h h'
      go_wp2_with fail
      go_ret
      exact ⟨rfl, HB.out⟩
end Go.Proofs.Ytibmaflcfmphgaa
