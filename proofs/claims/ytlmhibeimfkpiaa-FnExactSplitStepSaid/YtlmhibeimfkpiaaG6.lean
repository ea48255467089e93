/- Walks: SplitStep of the specification: numbers. -/
import Derived.Test.YtlmhibeimfkpiaaG5
namespace Go.Proofs.Ytlmhibeimfkpiaa
open Go.RowKit

set_option maxRecDepth 100000 in
set_option maxHeartbeats 16000000 in
theorem split_yes {a b c h k : Nat} {X Y Z : Tb} (HV : ∀ w, Calls Try.prog 34 #[.agg #[.float .f32 a, .float .f32 b, .float .f32 c]] w fun e w' => e = .returned (.bool true) ∧ Below w.heap.size w w')
    (HF : ∀ w, Calls Try.prog 40 #[.float .f32 h] w fun e w' => e = .returned (.bool true) ∧ ∃ n, w.drewN n = w')
    (qk : floatBits .quo .f32 h 1073741824 = some k)
    (HX : ∀ w, Calls Try.prog 41 #[.agg #[.float .f32 a, .float .f32 0, .float .f32 0], .float .f32 k] w fun e w' => e = .returned (.tuple #[X.v, .int .i64 0]) ∧ Below w.heap.size w w')
    (HY : ∀ w, Calls Try.prog 41 #[.agg #[.float .f32 0, .float .f32 b, .float .f32 0], .float .f32 k] w fun e w' => e = .returned (.tuple #[Y.v, .int .i64 0]) ∧ Below w.heap.size w w')
    (HZ : ∀ w, Calls Try.prog 41 #[.agg #[.float .f32 0, .float .f32 0, .float .f32 c], .float .f32 h] w fun e w' => e = .returned (.tuple #[Z.v, .int .i64 0]) ∧ Below w.heap.size w w')
    (m1 : MulOk X Y) (m2 : MulOk (X.mul Y) Z) (m3 : MulOk ((X.mul Y).mul Z) Y) (m4 : MulOk (((X.mul Y).mul Z).mul Y) X) (ht : TF (splitTb X Y Z)) (w : World) :
    Calls Try.prog 17 #[.agg #[.float .f32 a, .float .f32 b, .float .f32 c], .float .f32 h] w fun e w' => e = .returned (.tuple #[(splitTb X Y Z).v, .int .i64 0]) ∧ Below w.heap.size w w' := by
  replace HV := Lib.hid HV
  replace HF := Lib.hid HF
  rw [four] at HX HY HZ
  replace HX := Lib.hid HX
  replace HY := Lib.hid HY
  replace HZ := Lib.hid HZ
  have rk : ∀ w, (binOp .quo 22 (.float .f32 h) (.float .f32 1073741824)).run Try.prog w = .ok (.float .f32 k) w := fun w => run_float_arith w .quo _ .f32 h 1073741824 k qk
  clear qk
  have M1 := Lib.hid (fun w => l03Times_ok m1 w)
  have M2 := Lib.hid (fun w => l03Times_ok m2 w)
  have M3 := Lib.hid (fun w => l03Times_ok m3 w)
  have M4 := Lib.hid (fun w => l03Times_ok m4 w)
  have MT := Lib.hid (fun w => l03Told_ok ht w)
  have hS : splitTb X Y Z = (((X.mul Y).mul Z).mul Y).mul X := rfl
  rw [hS] at MT ⊢
  clear hS m1 m2 m3 m4 ht
  generalize (((X.mul Y).mul Z).mul Y).mul X = P4 at *
  generalize ((X.mul Y).mul Z).mul Y = P3 at *
  generalize (X.mul Y).mul Z = P2 at *
  generalize X.mul Y = P1 at *
  simp only [four] at M1 M2 M3 M4 MT ⊢
  go_enter Try.func17, Try.ntmps17
  go_wp2_with fail
  refine (HV.out _).mono ?_
  rintro e w1 ⟨rfl, hb1⟩
  obtain ⟨hc1, hf1⟩ := bcell hb1
  have hz1 : w.heap.size + 1 < w1.heap.size := by have := hb1.size; simp at this; omega
  have V1 := Lib.hid (show VF w1 w.heap.size a b c from ⟨by simp [hc1, go_sem], by simp [hc1, go_sem], by simp [hc1, go_sem], by omega⟩)
  have T1 := Lib.hid (show TC w1 (w.heap.size + 1) nilTb by
    have := (TC.nil (w.alloc (.cells #[.float .f32 a, .float .f32 b, .float .f32 c] 24)) 33).below hb1
    simpa using this)
  have HB1 := Lib.hid (show Below w.heap.size w w1 from below_step hb1 (((Below.refl _ _).alloc (Nat.le_refl _) _).alloc (by simp) _) (by simp; omega))
  obtain ⟨c0, c1, c2, _⟩ := V1.out
  clear hb1 hc1 hf1
  go_wp2_with fail
  refine (HF.out _).mono ?_
  rintro e w2 ⟨rfl, n1, rfl⟩
  go_wp2_with fail
  refine (HX.out _).mono ?_
  rintro e w2 ⟨rfl, hb2⟩
  have V2 := Lib.hid ((V1.out.below (below_drewN (Below.refl _ _) n1)).below hb2)
  have T2 := Lib.hid ((T1.out.below (below_drewN (Below.refl _ _) n1)).below hb2)
  have HB2 := Lib.hid (below_step hb2 (below_drewN HB1.out n1) (by simp; omega))
  have hz2 : w.heap.size + 1 < w2.heap.size := by have := hb2.size; simp at this; omega
  clear hb2 c0 c1 c2
  obtain ⟨c0, c1, c2, _⟩ := V2.out
  go_wp2_with fail
  refine (HY.out _).mono ?_
  rintro e w3 ⟨rfl, hb3⟩
  have V3 := Lib.hid ((V2.out.below ((Below.refl _ _).alloc (Nat.le_refl _) _)).below hb3)
  have T3 := Lib.hid ((T2.out.alloc _).below hb3)
  have X3 := Lib.hid ((TC.new w2 33 X).below hb3)
  have HB3 := Lib.hid (below_step hb3 (HB2.out.alloc (by omega) _) (by simp; omega))
  have hz3 : w2.heap.size < w3.heap.size := by have := hb3.size; simp at this; omega
  clear hb3 c0 c1 c2
  obtain ⟨c0, c1, c2, _⟩ := V3.out
  go_wp2_with fail
  refine (HZ.out _).mono ?_
  rintro e w4 ⟨rfl, hb4⟩
  have T4 := Lib.hid ((T3.out.alloc _).below hb4)
  have X4 := Lib.hid ((X3.out.alloc _).below hb4)
  have Y4 := Lib.hid ((TC.new w3 33 Y).below hb4)
  have HB4 := Lib.hid (below_step hb4 (HB3.out.alloc (by omega) _) (by simp; omega))
  have hz4 : w3.heap.size < w4.heap.size := by have := hb4.size; simp at this; omega
  have hz4a : w.heap.size + 1 < w4.heap.size := by omega
  clear hb4 c0 c1 c2
  clear V1 V2 V3 T1 T2 T3 X3 HB1 HB2 HB3 HV HF HX HY HZ rk
  go_wp2_with fail
  generalize hW5 : w4.alloc (.cells #[.complex .f32 Z.a.re Z.a.im, .complex .f32 Z.b.re Z.b.im, .complex .f32 Z.c.re Z.c.im, .complex .f32 Z.d.re Z.d.im] 33) = W5
  have T5 := Lib.hid (show TC W5 (w.heap.size + 1) nilTb by subst hW5; exact T4.out.alloc _)
  have X5 := Lib.hid (show TC W5 w2.heap.size X by subst hW5; exact X4.out.alloc _)
  have Y5 := Lib.hid (show TC W5 w3.heap.size Y by subst hW5; exact Y4.out.alloc _)
  have Z5 := Lib.hid (show TC W5 w4.heap.size Z by subst hW5; exact TC.new _ _ _)
  have HB5 := Lib.hid (show Below w.heap.size w W5 by subst hW5; exact HB4.out.alloc (by omega) _)
  have hz5 : w.heap.size + 1 < W5.heap.size := T5.out.lt
  clear hW5 T4 X4 Y4 HB4
  obtain ⟨x0, x1, x2, x3, _⟩ := X5.out
  obtain ⟨y0, y1, y2, y3, _⟩ := Y5.out
  obtain ⟨z0, z1, z2, z3, _⟩ := Z5.out
  go_region
  · refine lists_cut (T := W5.heap.size + 1) (L := W5.heap.size) (R := w.heap.size + 1) (w := w) (X := X) (Y := Y) (Z := Z) (V := Y) (U := X) (N := nilTb) (by omega) (by omega) (by omega) (by omega) ⟨by simp [go_sem], by simp [go_sem], by simp [go_sem], by simp [go_sem], by simp [go_sem], by simp [go_sem], by simp [go_sem], by simp [go_sem], by simp [go_sem]⟩ ⟨by simp [go_sem], by simp [go_sem], by simp [go_sem], by simp [go_sem], by simp [go_sem], by simp [go_sem], by simp [go_sem], by simp [go_sem], by simp [go_sem], by simp [go_sem], by simp [go_sem], by simp [go_sem], by simp [go_sem], by simp [go_sem], by simp [go_sem], by simp [go_sem], by simp [go_sem]⟩ (((T5.out.alloc _).alloc _).below (Below.refl _ _).drew) (((HB5.out.alloc (by omega) _).alloc (by simp; omega) _).drew) ?_
    intro W6 hne hR hR' hT hL hN hB
    clear x0 x1 x2 x3 y0 y1 y2 y3 z0 z1 z2 z3 X5 Y5 Z5 T5 HB5
    go_wp2_with fail
    go_loopw [15] (fun i wr => ∃ t, ((i = .int .i64 0 ∧ t = X) ∨ (i = .int .i64 1 ∧ t = P1) ∨ (i = .int .i64 2 ∧ t = P2) ∨ (i = .int .i64 3 ∧ t = P3) ∨ (i = .int .i64 4 ∧ t = P4)) ∧ TC wr (W5.heap.size + 1) t ∧ FC wr (W5.heap.size) Y Z Y X ∧ TC wr (w.heap.size + 1) nilTb ∧ Below w.heap.size w wr) (fun i _ => 4 - (intOf i).toNat)
    case atStart => exact ⟨X, .inl ⟨rfl, rfl⟩, hT, hL, hN, hB⟩
    case round =>
      clear hT hL hN hB
      obtain ⟨t, hi, hT, hL, hN, hB⟩ := hrel
      rcases hi with ⟨rfl, rfl⟩ | ⟨rfl, rfl⟩ | ⟨rfl, rfl⟩ | ⟨rfl, rfl⟩ | ⟨rfl, rfl⟩
      · as_aux_lemma =>
        have KT := Lib.hid hT
        have KL := Lib.hid hL
        have KN := Lib.hid hN
        have KB := Lib.hid hB
        obtain ⟨x0, x1, x2, x3, _⟩ := hT
        obtain ⟨e0, e1, e2, e3, e4, e5, e6, e7, e8, e9, e10, e11, e12, e13, e14, e15, _⟩ := hL
        clear hN hB
        go_wp2_with fail
        go_region_with ((go_at_call 47; refine (M1.out _).mono ?_; rintro e w7 ⟨rfl, hb7⟩; have QT := (KT.out.below (Below.refl _ _).drew).below hb7; have QL := Lib.hid ((KL.out.below (Below.refl _ _).drew).below hb7); have QN := Lib.hid ((KN.out.below (Below.refl _ _).drew).below hb7); have QB := Lib.hid (below_step hb7 KB.out.drew KB.out.size); have QT' := Lib.hid QT; obtain ⟨y0, y1, y2, y3, g0, g1, g2, g3, hlt⟩ := QT; clear hb7 x0 x1 x2 x3 e0 e1 e2 e3 e4 e5 e6 e7 e8 e9 e10 e11 e12 e13 e14 e15))
        all_goals first
          | exact ⟨⟨_, .inr (.inl ⟨by go_num, rfl⟩), QT'.out.put _, QL.out.far hne _ _ _ _, tc_far QN.out (by omega) _ _ _ _, Below.put4 QB.out (by omega) _ _ _ _⟩, by simp [intOf]⟩
          | (go_wp2_with fail; exact ⟨⟨_, .inr (.inl ⟨by go_num, rfl⟩), QT'.out.put _, QL.out.far hne _ _ _ _, tc_far QN.out (by omega) _ _ _ _, Below.put4 QB.out (by omega) _ _ _ _⟩, by simp [intOf]⟩)
          | (go_wp2_with fail; go_roundw; (case rel => exact ⟨_, .inr (.inl ⟨by go_num, rfl⟩), QT'.out.put _, QL.out.far hne _ _ _ _, tc_far QN.out (by omega) _ _ _ _, Below.put4 QB.out (by omega) _ _ _ _⟩); (case measure => simp [intOf]))
      · as_aux_lemma =>
        have KT := Lib.hid hT
        have KL := Lib.hid hL
        have KN := Lib.hid hN
        have KB := Lib.hid hB
        obtain ⟨x0, x1, x2, x3, _⟩ := hT
        obtain ⟨e0, e1, e2, e3, e4, e5, e6, e7, e8, e9, e10, e11, e12, e13, e14, e15, _⟩ := hL
        clear hN hB
        go_wp2_with fail
        go_region_with ((go_at_call 47; refine (M2.out _).mono ?_; rintro e w7 ⟨rfl, hb7⟩; have QT := (KT.out.below (Below.refl _ _).drew).below hb7; have QL := Lib.hid ((KL.out.below (Below.refl _ _).drew).below hb7); have QN := Lib.hid ((KN.out.below (Below.refl _ _).drew).below hb7); have QB := Lib.hid (below_step hb7 KB.out.drew KB.out.size); have QT' := Lib.hid QT; obtain ⟨y0, y1, y2, y3, g0, g1, g2, g3, hlt⟩ := QT; clear hb7 x0 x1 x2 x3 e0 e1 e2 e3 e4 e5 e6 e7 e8 e9 e10 e11 e12 e13 e14 e15))
        all_goals first
          | exact ⟨⟨_, .inr (.inr (.inl ⟨by go_num, rfl⟩)), QT'.out.put _, QL.out.far hne _ _ _ _, tc_far QN.out (by omega) _ _ _ _, Below.put4 QB.out (by omega) _ _ _ _⟩, by simp [intOf]⟩
          | (go_wp2_with fail; exact ⟨⟨_, .inr (.inr (.inl ⟨by go_num, rfl⟩)), QT'.out.put _, QL.out.far hne _ _ _ _, tc_far QN.out (by omega) _ _ _ _, Below.put4 QB.out (by omega) _ _ _ _⟩, by simp [intOf]⟩)
          | (go_wp2_with fail; go_roundw; (case rel => exact ⟨_, .inr (.inr (.inl ⟨by go_num, rfl⟩)), QT'.out.put _, QL.out.far hne _ _ _ _, tc_far QN.out (by omega) _ _ _ _, Below.put4 QB.out (by omega) _ _ _ _⟩); (case measure => simp [intOf]))
      · as_aux_lemma =>
        have KT := Lib.hid hT
        have KL := Lib.hid hL
        have KN := Lib.hid hN
        have KB := Lib.hid hB
        obtain ⟨x0, x1, x2, x3, _⟩ := hT
        obtain ⟨e0, e1, e2, e3, e4, e5, e6, e7, e8, e9, e10, e11, e12, e13, e14, e15, _⟩ := hL
        clear hN hB
        go_wp2_with fail
        go_region_with ((go_at_call 47; refine (M3.out _).mono ?_; rintro e w7 ⟨rfl, hb7⟩; have QT := (KT.out.below (Below.refl _ _).drew).below hb7; have QL := Lib.hid ((KL.out.below (Below.refl _ _).drew).below hb7); have QN := Lib.hid ((KN.out.below (Below.refl _ _).drew).below hb7); have QB := Lib.hid (below_step hb7 KB.out.drew KB.out.size); have QT' := Lib.hid QT; obtain ⟨y0, y1, y2, y3, g0, g1, g2, g3, hlt⟩ := QT; clear hb7 x0 x1 x2 x3 e0 e1 e2 e3 e4 e5 e6 e7 e8 e9 e10 e11 e12 e13 e14 e15))
        all_goals first
          | exact ⟨⟨_, .inr (.inr (.inr (.inl ⟨by go_num, rfl⟩))), QT'.out.put _, QL.out.far hne _ _ _ _, tc_far QN.out (by omega) _ _ _ _, Below.put4 QB.out (by omega) _ _ _ _⟩, by simp [intOf]⟩
          | (go_wp2_with fail; exact ⟨⟨_, .inr (.inr (.inr (.inl ⟨by go_num, rfl⟩))), QT'.out.put _, QL.out.far hne _ _ _ _, tc_far QN.out (by omega) _ _ _ _, Below.put4 QB.out (by omega) _ _ _ _⟩, by simp [intOf]⟩)
          | (go_wp2_with fail; go_roundw; (case rel => exact ⟨_, .inr (.inr (.inr (.inl ⟨by go_num, rfl⟩))), QT'.out.put _, QL.out.far hne _ _ _ _, tc_far QN.out (by omega) _ _ _ _, Below.put4 QB.out (by omega) _ _ _ _⟩); (case measure => simp [intOf]))
      · as_aux_lemma =>
        have KT := Lib.hid hT
        have KL := Lib.hid hL
        have KN := Lib.hid hN
        have KB := Lib.hid hB
        obtain ⟨x0, x1, x2, x3, _⟩ := hT
        obtain ⟨e0, e1, e2, e3, e4, e5, e6, e7, e8, e9, e10, e11, e12, e13, e14, e15, _⟩ := hL
        clear hN hB
        go_wp2_with fail
        go_region_with ((go_at_call 47; refine (M4.out _).mono ?_; rintro e w7 ⟨rfl, hb7⟩; have QT := (KT.out.below (Below.refl _ _).drew).below hb7; have QL := Lib.hid ((KL.out.below (Below.refl _ _).drew).below hb7); have QN := Lib.hid ((KN.out.below (Below.refl _ _).drew).below hb7); have QB := Lib.hid (below_step hb7 KB.out.drew KB.out.size); have QT' := Lib.hid QT; obtain ⟨y0, y1, y2, y3, g0, g1, g2, g3, hlt⟩ := QT; clear hb7 x0 x1 x2 x3 e0 e1 e2 e3 e4 e5 e6 e7 e8 e9 e10 e11 e12 e13 e14 e15))
        all_goals first
          | exact ⟨⟨_, .inr (.inr (.inr (.inr (⟨by go_num, rfl⟩)))), QT'.out.put _, QL.out.far hne _ _ _ _, tc_far QN.out (by omega) _ _ _ _, Below.put4 QB.out (by omega) _ _ _ _⟩, by simp [intOf]⟩
          | (go_wp2_with fail; exact ⟨⟨_, .inr (.inr (.inr (.inr (⟨by go_num, rfl⟩)))), QT'.out.put _, QL.out.far hne _ _ _ _, tc_far QN.out (by omega) _ _ _ _, Below.put4 QB.out (by omega) _ _ _ _⟩, by simp [intOf]⟩)
          | (go_wp2_with fail; go_roundw; (case rel => exact ⟨_, .inr (.inr (.inr (.inr (⟨by go_num, rfl⟩)))), QT'.out.put _, QL.out.far hne _ _ _ _, tc_far QN.out (by omega) _ _ _ _, Below.put4 QB.out (by omega) _ _ _ _⟩); (case measure => simp [intOf]))
      · as_aux_lemma =>
        obtain ⟨x0, x1, x2, x3, _⟩ := hT
        have KN := Lib.hid hN
        have KB := Lib.hid hB
        clear hL
        go_wp2_with fail
        refine (MT.out _).mono ?_
        rintro e w8 ⟨rfl, hb8⟩
        have QN := KN.out.below hb8
        have QB := Lib.hid (below_step hb8 KB.out (KB.out.size))
        obtain ⟨y0, y1, y2, y3, g0, g1, g2, g3, hlt⟩ := QN
        simp only [nilTb] at y0 y1 y2 y3
        clear hb8 x0 x1 x2 x3 KN KB
        go_wp2_with fail
        refine bodyPost_ret (v := .tuple #[.agg #[.complex .f32 t.a.re t.a.im, .complex .f32 t.b.re t.b.im, .complex .f32 t.c.re t.c.im, .complex .f32 t.d.re t.d.im], .int .i64 0]) (by simp [results, Try.results17, go_sem, y0, y1, y2, y3, g0, g1, g2, g3, hlt]) rfl ⟨rfl, Below.put4 QB.out (by omega) _ _ _ _⟩
  · refine lists_cut (T := W5.heap.size) (L := W5.heap.size + 1) (R := w.heap.size + 1) (w := w) (X := X) (Y := Y) (Z := Z) (V := Y) (U := X) (N := nilTb) (by omega) (by omega) (by omega) (by omega) ⟨by simp [go_sem], by simp [go_sem], by simp [go_sem], by simp [go_sem], by simp [go_sem], by simp [go_sem], by simp [go_sem], by simp [go_sem], by simp [go_sem]⟩ ⟨by simp [go_sem], by simp [go_sem], by simp [go_sem], by simp [go_sem], by simp [go_sem], by simp [go_sem], by simp [go_sem], by simp [go_sem], by simp [go_sem], by simp [go_sem], by simp [go_sem], by simp [go_sem], by simp [go_sem], by simp [go_sem], by simp [go_sem], by simp [go_sem], by simp [go_sem]⟩ (((T5.out.alloc _).alloc _).below (Below.refl _ _).drew) (((HB5.out.alloc (by omega) _).alloc (by simp; omega) _).drew) ?_
    intro W6 hne hR hR' hT hL hN hB
    clear x0 x1 x2 x3 y0 y1 y2 y3 z0 z1 z2 z3 X5 Y5 Z5 T5 HB5
    go_wp2_with fail
    go_loopw [15] (fun i wr => ∃ t, ((i = .int .i64 0 ∧ t = X) ∨ (i = .int .i64 1 ∧ t = P1) ∨ (i = .int .i64 2 ∧ t = P2) ∨ (i = .int .i64 3 ∧ t = P3) ∨ (i = .int .i64 4 ∧ t = P4)) ∧ TC wr (W5.heap.size) t ∧ FC wr (W5.heap.size + 1) Y Z Y X ∧ TC wr (w.heap.size + 1) nilTb ∧ Below w.heap.size w wr) (fun i _ => 4 - (intOf i).toNat)
    case atStart => exact ⟨X, .inl ⟨rfl, rfl⟩, hT, hL, hN, hB⟩
    case round =>
      clear hT hL hN hB
      obtain ⟨t, hi, hT, hL, hN, hB⟩ := hrel
      rcases hi with ⟨rfl, rfl⟩ | ⟨rfl, rfl⟩ | ⟨rfl, rfl⟩ | ⟨rfl, rfl⟩ | ⟨rfl, rfl⟩
      · as_aux_lemma =>
        have KT := Lib.hid hT
        have KL := Lib.hid hL
        have KN := Lib.hid hN
        have KB := Lib.hid hB
        obtain ⟨x0, x1, x2, x3, _⟩ := hT
        obtain ⟨e0, e1, e2, e3, e4, e5, e6, e7, e8, e9, e10, e11, e12, e13, e14, e15, _⟩ := hL
        clear hN hB
        go_wp2_with fail
        go_region_with ((go_at_call 47; refine (M1.out _).mono ?_; rintro e w7 ⟨rfl, hb7⟩; have QT := (KT.out.below (Below.refl _ _).drew).below hb7; have QL := Lib.hid ((KL.out.below (Below.refl _ _).drew).below hb7); have QN := Lib.hid ((KN.out.below (Below.refl _ _).drew).below hb7); have QB := Lib.hid (below_step hb7 KB.out.drew KB.out.size); have QT' := Lib.hid QT; obtain ⟨y0, y1, y2, y3, g0, g1, g2, g3, hlt⟩ := QT; clear hb7 x0 x1 x2 x3 e0 e1 e2 e3 e4 e5 e6 e7 e8 e9 e10 e11 e12 e13 e14 e15))
        all_goals first
          | exact ⟨⟨_, .inr (.inl ⟨by go_num, rfl⟩), QT'.out.put _, QL.out.far hne _ _ _ _, tc_far QN.out (by omega) _ _ _ _, Below.put4 QB.out (by omega) _ _ _ _⟩, by simp [intOf]⟩
          | (go_wp2_with fail; exact ⟨⟨_, .inr (.inl ⟨by go_num, rfl⟩), QT'.out.put _, QL.out.far hne _ _ _ _, tc_far QN.out (by omega) _ _ _ _, Below.put4 QB.out (by omega) _ _ _ _⟩, by simp [intOf]⟩)
          | (go_wp2_with fail; go_roundw; (case rel => exact ⟨_, .inr (.inl ⟨by go_num, rfl⟩), QT'.out.put _, QL.out.far hne _ _ _ _, tc_far QN.out (by omega) _ _ _ _, Below.put4 QB.out (by omega) _ _ _ _⟩); (case measure => simp [intOf]))
      · as_aux_lemma =>
        have KT := Lib.hid hT
        have KL := Lib.hid hL
        have KN := Lib.hid hN
        have KB := Lib.hid hB
        obtain ⟨x0, x1, x2, x3, _⟩ := hT
        obtain ⟨e0, e1, e2, e3, e4, e5, e6, e7, e8, e9, e10, e11, e12, e13, e14, e15, _⟩ := hL
        clear hN hB
        go_wp2_with fail
        go_region_with ((go_at_call 47; refine (M2.out _).mono ?_; rintro e w7 ⟨rfl, hb7⟩; have QT := (KT.out.below (Below.refl _ _).drew).below hb7; have QL := Lib.hid ((KL.out.below (Below.refl _ _).drew).below hb7); have QN := Lib.hid ((KN.out.below (Below.refl _ _).drew).below hb7); have QB := Lib.hid (below_step hb7 KB.out.drew KB.out.size); have QT' := Lib.hid QT; obtain ⟨y0, y1, y2, y3, g0, g1, g2, g3, hlt⟩ := QT; clear hb7 x0 x1 x2 x3 e0 e1 e2 e3 e4 e5 e6 e7 e8 e9 e10 e11 e12 e13 e14 e15))
        all_goals first
          | exact ⟨⟨_, .inr (.inr (.inl ⟨by go_num, rfl⟩)), QT'.out.put _, QL.out.far hne _ _ _ _, tc_far QN.out (by omega) _ _ _ _, Below.put4 QB.out (by omega) _ _ _ _⟩, by simp [intOf]⟩
          | (go_wp2_with fail; exact ⟨⟨_, .inr (.inr (.inl ⟨by go_num, rfl⟩)), QT'.out.put _, QL.out.far hne _ _ _ _, tc_far QN.out (by omega) _ _ _ _, Below.put4 QB.out (by omega) _ _ _ _⟩, by simp [intOf]⟩)
          | (go_wp2_with fail; go_roundw; (case rel => exact ⟨_, .inr (.inr (.inl ⟨by go_num, rfl⟩)), QT'.out.put _, QL.out.far hne _ _ _ _, tc_far QN.out (by omega) _ _ _ _, Below.put4 QB.out (by omega) _ _ _ _⟩); (case measure => simp [intOf]))
      · as_aux_lemma =>
        have KT := Lib.hid hT
        have KL := Lib.hid hL
        have KN := Lib.hid hN
        have KB := Lib.hid hB
        obtain ⟨x0, x1, x2, x3, _⟩ := hT
        obtain ⟨e0, e1, e2, e3, e4, e5, e6, e7, e8, e9, e10, e11, e12, e13, e14, e15, _⟩ := hL
        clear hN hB
        go_wp2_with fail
        go_region_with ((go_at_call 47; refine (M3.out _).mono ?_; rintro e w7 ⟨rfl, hb7⟩; have QT := (KT.out.below (Below.refl _ _).drew).below hb7; have QL := Lib.hid ((KL.out.below (Below.refl _ _).drew).below hb7); have QN := Lib.hid ((KN.out.below (Below.refl _ _).drew).below hb7); have QB := Lib.hid (below_step hb7 KB.out.drew KB.out.size); have QT' := Lib.hid QT; obtain ⟨y0, y1, y2, y3, g0, g1, g2, g3, hlt⟩ := QT; clear hb7 x0 x1 x2 x3 e0 e1 e2 e3 e4 e5 e6 e7 e8 e9 e10 e11 e12 e13 e14 e15))
        all_goals first
          | exact ⟨⟨_, .inr (.inr (.inr (.inl ⟨by go_num, rfl⟩))), QT'.out.put _, QL.out.far hne _ _ _ _, tc_far QN.out (by omega) _ _ _ _, Below.put4 QB.out (by omega) _ _ _ _⟩, by simp [intOf]⟩
          | (go_wp2_with fail; exact ⟨⟨_, .inr (.inr (.inr (.inl ⟨by go_num, rfl⟩))), QT'.out.put _, QL.out.far hne _ _ _ _, tc_far QN.out (by omega) _ _ _ _, Below.put4 QB.out (by omega) _ _ _ _⟩, by simp [intOf]⟩)
          | (go_wp2_with fail; go_roundw; (case rel => exact ⟨_, .inr (.inr (.inr (.inl ⟨by go_num, rfl⟩))), QT'.out.put _, QL.out.far hne _ _ _ _, tc_far QN.out (by omega) _ _ _ _, Below.put4 QB.out (by omega) _ _ _ _⟩); (case measure => simp [intOf]))
      · as_aux_lemma =>
        have KT := Lib.hid hT
        have KL := Lib.hid hL
        have KN := Lib.hid hN
        have KB := Lib.hid hB
        obtain ⟨x0, x1, x2, x3, _⟩ := hT
        obtain ⟨e0, e1, e2, e3, e4, e5, e6, e7, e8, e9, e10, e11, e12, e13, e14, e15, _⟩ := hL
        clear hN hB
        go_wp2_with fail
        go_region_with ((go_at_call 47; refine (M4.out _).mono ?_; rintro e w7 ⟨rfl, hb7⟩; have QT := (KT.out.below (Below.refl _ _).drew).below hb7; have QL := Lib.hid ((KL.out.below (Below.refl _ _).drew).below hb7); have QN := Lib.hid ((KN.out.below (Below.refl _ _).drew).below hb7); have QB := Lib.hid (below_step hb7 KB.out.drew KB.out.size); have QT' := Lib.hid QT; obtain ⟨y0, y1, y2, y3, g0, g1, g2, g3, hlt⟩ := QT; clear hb7 x0 x1 x2 x3 e0 e1 e2 e3 e4 e5 e6 e7 e8 e9 e10 e11 e12 e13 e14 e15))
        all_goals first
          | exact ⟨⟨_, .inr (.inr (.inr (.inr (⟨by go_num, rfl⟩)))), QT'.out.put _, QL.out.far hne _ _ _ _, tc_far QN.out (by omega) _ _ _ _, Below.put4 QB.out (by omega) _ _ _ _⟩, by simp [intOf]⟩
          | (go_wp2_with fail; exact ⟨⟨_, .inr (.inr (.inr (.inr (⟨by go_num, rfl⟩)))), QT'.out.put _, QL.out.far hne _ _ _ _, tc_far QN.out (by omega) _ _ _ _, Below.put4 QB.out (by omega) _ _ _ _⟩, by simp [intOf]⟩)
          | (go_wp2_with fail; go_roundw; (case rel => exact ⟨_, .inr (.inr (.inr (.inr (⟨by go_num, rfl⟩)))), QT'.out.put _, QL.out.far hne _ _ _ _, tc_far QN.out (by omega) _ _ _ _, Below.put4 QB.out (by omega) _ _ _ _⟩); (case measure => simp [intOf]))
      · as_aux_lemma =>
        obtain ⟨x0, x1, x2, x3, _⟩ := hT
        have KN := Lib.hid hN
        have KB := Lib.hid hB
        clear hL
        go_wp2_with fail
        refine (MT.out _).mono ?_
        rintro e w8 ⟨rfl, hb8⟩
        have QN := KN.out.below hb8
        have QB := Lib.hid (below_step hb8 KB.out (KB.out.size))
        obtain ⟨y0, y1, y2, y3, g0, g1, g2, g3, hlt⟩ := QN
        simp only [nilTb] at y0 y1 y2 y3
        clear hb8 x0 x1 x2 x3 KN KB
        go_wp2_with fail
        refine bodyPost_ret (v := .tuple #[.agg #[.complex .f32 t.a.re t.a.im, .complex .f32 t.b.re t.b.im, .complex .f32 t.c.re t.c.im, .complex .f32 t.d.re t.d.im], .int .i64 0]) (by simp [results, Try.results17, go_sem, y0, y1, y2, y3, g0, g1, g2, g3, hlt]) rfl ⟨rfl, Below.put4 QB.out (by omega) _ _ _ _⟩

end Go.Proofs.Ytlmhibeimfkpiaa
