/- Walks: the distance of tables, as the program has it: the same as the specification's. -/
import Derived.Test.YtlmhibeimfkpiaaKbw
import Derived.Test.YtlmhibeimfkpiaaDk
import Derived.Test.YtlmhibeimfkpiaaKbc
import Derived.LoopTactic
namespace Go.Proofs.Ytlmhibeimfkpiaa
open Go.RowKit

def entI (z w : Cx) : Nat := max (mag (subC z w).re) (mag (subC z w).im)

def distI (s t : Tb) : Nat := max (max (max (max 0 (entI s.a t.a)) (entI s.b t.b)) (entI s.c t.c)) (entI s.d t.d)

theorem bd_top {k : Int} {x : Nat} (h : Bd k x) (hk : k ≤ 127) : mag x < 2139095040 := of_decide_eq_true (bd_fin h hk)

theorem pick_size {k : Int} {o x : Nat} (ho : o < 2139095040) (hx : Bd k x) (hk : k ≤ 127) : pick o (sizeS x) = max o (mag x) := by
  have h1 := bd_top hx hk
  by_cases h0 : x = 0 ∨ mag x ≠ 0
  · rw [sizeS_mag hx hk h0, pick_nat _ _ ho h1]
  · have h2 : mag x = 0 := by omega
    have h3 : x = 2147483648 := by
      have := hx.1
      unfold mag at h2
      omega
    subst h3
    have h4 : sizeS 2147483648 = 2147483648 := by decide +kernel
    rw [h4, pick_zero _ ho, h2, Nat.max_zero]

theorem pickC_max {k : Int} {o : Nat} {d : Cx} (ho : o < 2139095040) (hd : CB k d) (hk : k ≤ 127) : pickC o d = max o (max (mag d.re) (mag d.im)) ∧ pickC o d < 2139095040 := by
  have h1 := bd_top hd.1 hk
  have h2 := bd_top hd.2 hk
  unfold pickC
  rw [pick_size ho hd.1 hk, pick_size (by omega) hd.2 hk]
  omega

theorem dist_same {s t : Tb} {k : Nat} (hs : TB k s) (ht : TB k t) (hk : k + 1 ≤ 127) : distI s t = distS s t := by
  unfold distI distS entI
  have p1 := pickC_max (o := 0) (by omega) (subC_cb hs.1 ht.1 hk) (by omega)
  have p2 := pickC_max p1.2 (subC_cb hs.2.1 ht.2.1 hk) (by omega)
  have p3 := pickC_max p2.2 (subC_cb hs.2.2.1 ht.2.2.1 hk) (by omega)
  have p4 := pickC_max p3.2 (subC_cb hs.2.2.2 ht.2.2.2 hk) (by omega)
  rw [p4.1, p3.1, p2.1, p1.1]

theorem run_maxTwo {P : Program} (w : World) (ts : Array TypeId) (t : TypeId) (x y : Nat) (hx : x < 2139095040) (hy : y < 2139095040) :
    (Builtin.max_ ts t #[.float .f32 x, .float .f32 y]).run P w = .ok (.float .f32 (max x y)) w := by
  unfold Builtin.max_
  simp only [List.foldlM, Sem.run_bind, run_max2 w x y hx hy, Result.andThen_ok]
  first | rfl | simp

set_option maxHeartbeats 1000000 in
theorem entryDistance_ok {z w : Cx} {k : Nat} (hz : CB k z) (hw : CB k w) (hk : k + 1 ≤ 127) (W : World) :
    Calls Try.prog 94 #[z.v, w.v] W fun e W' => e = .returned (.float .f32 (entI z w)) ∧ W = W' := by
  have hb := subC_cb hz hw hk
  have x1 := (bd_less hz.1 hw.1 hk).1
  have x2 := (bd_less hz.2 hw.2 hk).1
  have s1 : ∀ t W, (binOp .sub t (.complex .f32 z.re z.im) (.complex .f32 w.re w.im)).run Try.prog W = .ok (.complex .f32 (sm z.re (Op.negFloat .f32 w.re)) (sm z.im (Op.negFloat .f32 w.im))) W := fun t W =>
    run_complex_sum W .sub (.inr rfl) t .f32 _ _ _ _ _ _ (by unfold cSumBits; rw [x1, x2]; rfl)
  have Z1 := Lib.hid (fun W => sizeOf_any (sm z.re (Op.negFloat .f32 w.re)) W hb.1.1)
  have Z2 := Lib.hid (fun W => sizeOf_any (sm z.im (Op.negFloat .f32 w.im)) W hb.2.1)
  have M := fun ts T W => run_maxTwo (P := Try.prog) W ts T _ _ (bd_top hb.1 (by omega)) (bd_top hb.2 (by omega))
  unfold entI
  unfold subC at *
  dsimp only at *
  clear hz hw hk hb x1 x2
  obtain ⟨a, b⟩ := z
  obtain ⟨c, d⟩ := w
  simp only [Cx.v] at *
  generalize sm a (Op.negFloat .f32 c) = x at *
  generalize sm b (Op.negFloat .f32 d) = y at *
  generalize max (mag x) (mag y) = r at *
  generalize mag x = mx at *
  generalize mag y = my at *
  go_enter Try.func94, Try.ntmps94
  go_wp2_with (first | simp only [s1] | fail)
  refine (Z1.out _).mono ?_
  rintro e w' ⟨rfl, rfl⟩
  go_wp2_with fail
  refine (Z2.out _).mono ?_
  rintro e w' ⟨rfl, rfl⟩
  go_wp2_with fail
  go_ret
  exact ⟨rfl, rfl⟩

set_option maxRecDepth 100000 in
set_option maxHeartbeats 4000000 in
theorem tableDistance_ok {s t : Tb} {k : Nat} (hs : TB k s) (ht : TB k t) (hk : k + 1 ≤ 127) (w : World) :
    Calls Try.prog 80 #[s.v, t.v] w fun e w' => e = .returned (.tuple #[.float .f32 (distI s t), .int .i64 0]) ∧ Below w.heap.size w w' := by
  have I1 := Lib.hid (fun w => isTable_ok (tb_tf hs (by omega)) w)
  have I2 := Lib.hid (fun w => isTable_ok (tb_tf ht (by omega)) w)
  have D0 := Lib.hid (fun w => entryDistance_ok hs.1 ht.1 hk w)
  have D1 := Lib.hid (fun w => entryDistance_ok hs.2.1 ht.2.1 hk w)
  have D2 := Lib.hid (fun w => entryDistance_ok hs.2.2.1 ht.2.2.1 hk w)
  have D3 := Lib.hid (fun w => entryDistance_ok hs.2.2.2 ht.2.2.2 hk w)
  have b0 : entI s.a t.a < 2139095040 := by have := subC_cb hs.1 ht.1 hk; unfold entI; have := bd_top this.1 (by omega); have := bd_top (subC_cb hs.1 ht.1 hk).2 (by omega); omega
  have b1 : entI s.b t.b < 2139095040 := by have := subC_cb hs.2.1 ht.2.1 hk; unfold entI; have := bd_top this.1 (by omega); have := bd_top (subC_cb hs.2.1 ht.2.1 hk).2 (by omega); omega
  have b2 : entI s.c t.c < 2139095040 := by have := subC_cb hs.2.2.1 ht.2.2.1 hk; unfold entI; have := bd_top this.1 (by omega); have := bd_top (subC_cb hs.2.2.1 ht.2.2.1 hk).2 (by omega); omega
  have b3 : entI s.d t.d < 2139095040 := by have := subC_cb hs.2.2.2 ht.2.2.2 hk; unfold entI; have := bd_top this.1 (by omega); have := bd_top (subC_cb hs.2.2.2 ht.2.2.2 hk).2 (by omega); omega
  have hd : distI s t < 2139095040 := by unfold distI; omega
  have L := Lib.hid (fun w => numberOrLimit_ok (distI s t) w (by omega) (decide_eq_true (by unfold mag; omega)))
  unfold distI at *
  unfold Tb.v Cx.v at *
  clear hs ht hk
  generalize entI s.a t.a = e0 at *
  generalize entI s.b t.b = e1 at *
  generalize entI s.c t.c = e2 at *
  generalize entI s.d t.d = e3 at *
  obtain ⟨r1, h1⟩ : ∃ r, max 0 e0 = r := ⟨_, rfl⟩
  obtain ⟨r2, h2⟩ : ∃ r, max r1 e1 = r := ⟨_, rfl⟩
  obtain ⟨r3, h3⟩ : ∃ r, max r2 e2 = r := ⟨_, rfl⟩
  obtain ⟨r4, h4⟩ : ∃ r, max r3 e3 = r := ⟨_, rfl⟩
  rw [h1, h2, h3, h4] at L hd ⊢
  have M1 : ∀ ts T W, (Builtin.max_ ts T #[.float .f32 0, .float .f32 e0]).run Try.prog W = .ok (.float .f32 r1) W := fun ts T W => by rw [← h1]; exact run_maxTwo W ts T _ _ (by omega) b0
  have M2 : ∀ ts T W, (Builtin.max_ ts T #[.float .f32 r1, .float .f32 e1]).run Try.prog W = .ok (.float .f32 r2) W := fun ts T W => by rw [← h2]; exact run_maxTwo W ts T _ _ (by omega) b1
  have M3 : ∀ ts T W, (Builtin.max_ ts T #[.float .f32 r2, .float .f32 e2]).run Try.prog W = .ok (.float .f32 r3) W := fun ts T W => by rw [← h3]; exact run_maxTwo W ts T _ _ (by omega) b2
  have M4 : ∀ ts T W, (Builtin.max_ ts T #[.float .f32 r3, .float .f32 e3]).run Try.prog W = .ok (.float .f32 r4) W := fun ts T W => by rw [← h4]; exact run_maxTwo W ts T _ _ (by omega) b3
  clear b0 b1 b2 b3 hd h1 h2 h3 h4
  have hi0 : ∀ (x y z u : Value) w, (Instr.index 33 (.agg #[x, y, z, u]) (.int .i64 0)).run Try.prog w = .ok (.agg #[x, y]) w := fun _ _ _ _ _ => by kernel_rfl
  have hi1 : ∀ (x y z u : Value) w, (Instr.index 33 (.agg #[x, y, z, u]) (.int .i64 1)).run Try.prog w = .ok (.agg #[z, u]) w := fun _ _ _ _ _ => by kernel_rfl
  have hj0 : ∀ (a b c d : Nat) w, (Instr.index 31 (.agg #[.complex .f32 a b, .complex .f32 c d]) (.int .i64 0)).run Try.prog w = .ok (.complex .f32 a b) w := fun _ _ _ _ _ => by kernel_rfl
  have hj1 : ∀ (a b c d : Nat) w, (Instr.index 31 (.agg #[.complex .f32 a b, .complex .f32 c d]) (.int .i64 1)).run Try.prog w = .ok (.complex .f32 c d) w := fun _ _ _ _ _ => by kernel_rfl
  go_enter Try.func80, Try.ntmps80
  go_wp2_with fail
  refine (I1.out _).mono ?_
  rintro e w1 ⟨rfl, hb1⟩
  have S1 := Lib.hid (show TC w1 w.heap.size s from ((TC.new w 33 s).alloc _).below hb1)
  have T1 := Lib.hid (show TC w1 (w.heap.size + 1) t by
    have := (TC.new (w.alloc (.cells #[.complex .f32 s.a.re s.a.im, .complex .f32 s.b.re s.b.im, .complex .f32 s.c.re s.c.im, .complex .f32 s.d.re s.d.im] 33)) 33 t).below hb1
    simpa using this)
  have HB1 := Lib.hid (show Below w.heap.size w w1 from below_step hb1 (((Below.refl _ _).alloc (Nat.le_refl _) _).alloc (by simp) _) (by simp; omega))
  obtain ⟨k0, k1, k2, k3, _, _, _, _, hl1⟩ := T1.out
  clear hb1
  go_wp2_with fail
  refine (I2.out _).mono ?_
  rintro e w2 ⟨rfl, hb2⟩
  have S2 := Lib.hid (S1.out.below hb2)
  have T2 := Lib.hid (T1.out.below hb2)
  have HB2 := Lib.hid (below_step hb2 HB1.out HB1.out.size)
  clear hb2 k0 k1 k2 k3 hl1 S1 T1 HB1 I1 I2
  obtain ⟨c0, c1, c2, c3, _, _, _, _, hl0⟩ := S2.out
  go_wp2_with fail
  clear c0 c1 c2 c3 hl0
  go_loopw [6, 20] (fun o i wr => TC wr (w.heap.size + 1) t ∧ Below w.heap.size w wr ∧ (i = .int .i64 0 ∧ o = .float .f32 0 ∨ i = .int .i64 1 ∧ o = .float .f32 r2 ∨ i = .int .i64 2 ∧ o = .float .f32 r4)) (fun _ i _ => 2 - (intOf i).toNat)
  case atStart => exact ⟨T2.out, HB2.out, .inl ⟨rfl, rfl⟩⟩
  case round =>
    obtain ⟨ht, hb, ⟨rfl, rfl⟩ | ⟨rfl, rfl⟩ | ⟨rfl, rfl⟩⟩ := hrel
    · have HT := Lib.hid ht
      have HB := Lib.hid hb
      clear ht hb
      go_wp2_with fail
      have U := Lib.hid (HT.out.alloc (.cells #[.complex .f32 s.a.re s.a.im, .complex .f32 s.b.re s.b.im] 31))
      have UB := Lib.hid (HB.out.alloc HB.out.size (.cells #[.complex .f32 s.a.re s.a.im, .complex .f32 s.b.re s.b.im] 31))
      go_loopw [6, 25] (fun o j wr => TC wr (w.heap.size + 1) t ∧ Below w.heap.size w wr ∧ (j = .int .i64 0 ∧ o = .float .f32 0 ∨ j = .int .i64 1 ∧ o = .float .f32 r1 ∨ j = .int .i64 2 ∧ o = .float .f32 r2)) (fun _ j _ => 2 - (intOf j).toNat)
      case atStart => exact ⟨U.out, UB.out, .inl ⟨rfl, rfl⟩⟩
      case round =>
        clear U UB HT HB
        obtain ⟨ht, hb, ⟨rfl, rfl⟩ | ⟨rfl, rfl⟩ | ⟨rfl, rfl⟩⟩ := hrel
        · have HT := Lib.hid ht
          have HB := Lib.hid hb
          obtain ⟨k0, k1, k2, k3, _, _, _, _, hl⟩ := ht
          clear hb
          go_wp2_with fail
          refine (D0.out _).mono ?_
          rintro e w' ⟨rfl, rfl⟩
          go_wp2_with fail
          go_roundw
          case rel => exact ⟨HT.out, HB.out, .inr (.inl ⟨by go_num, rfl⟩)⟩
          case measure => simp [intOf]
        · have HT := Lib.hid ht
          have HB := Lib.hid hb
          obtain ⟨k0, k1, k2, k3, _, _, _, _, hl⟩ := ht
          clear hb
          go_wp2_with fail
          refine (D1.out _).mono ?_
          rintro e w' ⟨rfl, rfl⟩
          go_wp2_with fail
          go_roundw
          case rel => exact ⟨HT.out, HB.out, .inr (.inr ⟨by go_num, rfl⟩)⟩
          case measure => simp [intOf]
        · have HT := Lib.hid ht
          have HB := Lib.hid hb
          clear ht hb
          go_wp2_with fail
          go_roundw
          case rel => exact ⟨HT.out, HB.out, .inr (.inl ⟨by go_num, rfl⟩)⟩
          case measure => simp [intOf]
    · have HT := Lib.hid ht
      have HB := Lib.hid hb
      clear ht hb
      go_wp2_with fail
      have U := Lib.hid (HT.out.alloc (.cells #[.complex .f32 s.c.re s.c.im, .complex .f32 s.d.re s.d.im] 31))
      have UB := Lib.hid (HB.out.alloc HB.out.size (.cells #[.complex .f32 s.c.re s.c.im, .complex .f32 s.d.re s.d.im] 31))
      go_loopw [6, 25] (fun o j wr => TC wr (w.heap.size + 1) t ∧ Below w.heap.size w wr ∧ (j = .int .i64 0 ∧ o = .float .f32 r2 ∨ j = .int .i64 1 ∧ o = .float .f32 r3 ∨ j = .int .i64 2 ∧ o = .float .f32 r4)) (fun _ j _ => 2 - (intOf j).toNat)
      case atStart => exact ⟨U.out, UB.out, .inl ⟨rfl, rfl⟩⟩
      case round =>
        clear U UB HT HB
        obtain ⟨ht, hb, ⟨rfl, rfl⟩ | ⟨rfl, rfl⟩ | ⟨rfl, rfl⟩⟩ := hrel
        · have HT := Lib.hid ht
          have HB := Lib.hid hb
          obtain ⟨k0, k1, k2, k3, _, _, _, _, hl⟩ := ht
          clear hb
          go_wp2_with fail
          refine (D2.out _).mono ?_
          rintro e w' ⟨rfl, rfl⟩
          go_wp2_with fail
          go_roundw
          case rel => exact ⟨HT.out, HB.out, .inr (.inl ⟨by go_num, rfl⟩)⟩
          case measure => simp [intOf]
        · have HT := Lib.hid ht
          have HB := Lib.hid hb
          obtain ⟨k0, k1, k2, k3, _, _, _, _, hl⟩ := ht
          clear hb
          go_wp2_with fail
          refine (D3.out _).mono ?_
          rintro e w' ⟨rfl, rfl⟩
          go_wp2_with fail
          go_roundw
          case rel => exact ⟨HT.out, HB.out, .inr (.inr ⟨by go_num, rfl⟩)⟩
          case measure => simp [intOf]
        · have HT := Lib.hid ht
          have HB := Lib.hid hb
          clear ht hb
          go_wp2_with fail
          go_roundw
          case rel => exact ⟨HT.out, HB.out, .inr (.inr ⟨by go_num, rfl⟩)⟩
          case measure => simp [intOf]
    · have HB := Lib.hid hb
      clear ht hb
      go_wp2_with fail
      refine (L.out _).mono ?_
      rintro e w' ⟨rfl, rfl⟩
      go_wp2_with fail
      exact bodyPost_ret (v := .tuple #[.float .f32 r4, .int .i64 0]) (by simp [results, Try.results80, go_sem]) rfl ⟨rfl, HB.out⟩

end Go.Proofs.Ytlmhibeimfkpiaa
