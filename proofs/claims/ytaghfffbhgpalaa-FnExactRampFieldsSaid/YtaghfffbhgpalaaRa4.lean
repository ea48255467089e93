/- RampFields of the specification: its fields. -/
import Derived.Test.YtaghfffbhgpalaaRa3
import Derived.Test.YtaghfffbhgpalaaIn2
namespace Go.Proofs.Ytaghfffbhgpalaa
open Go.RowKit

theorem vr_below_set {W W' : World} {p i : Nat} {v : Value} (h : Below W.heap.size W W') (hp : W.heap.size ≤ p) : Below W.heap.size W (W'.setCell ⟨p, i, none⟩ v) := h.setCell hp _

set_option maxRecDepth 100000 in
set_option maxHeartbeats 4000000 in
theorem l09Ramp_ok {a b c a' b' c' n m : Nat} {code : Int} (ha : Num a) (hb : Num b) (hc : Num c) (ha' : Num a') (hb' : Num b') (hc' : Num c') (n2 : n ≤ 300)
    (hres : ((∀ i, i < n → rampG (rampX a b c a' b' c' n) i = true) → m = n ∧ code = 0) ∧ (¬ (∀ i, i < n → rampG (rampX a b c a' b' c' n) i = true) → m = 0 ∧ code = 3)) :
    GivesR 18 a b c a' b' c' n m (rampX a b c a' b' c' n) code := by
  intro w
  have HK := Lib.hid (fun k (hk : k < n) => by
    obtain ⟨_, ht, h0⟩ := rampT_ok n2 hk
    obtain ⟨u0, v0, x, b0⟩ := btw_of ha ha' ht h0
    obtain ⟨u1, v1, y, b1⟩ := btw_of hb hb' ht h0
    obtain ⟨u2, v2, z, b2⟩ := btw_of hc hc' ht h0
    have e0 : x = rampX a b c a' b' c' n (3 * k) := b0.e.symm.trans (rampX0 a b c a' b' c' n k).symm
    have e1 : y = rampX a b c a' b' c' n (3 * k + 1) := b1.e.symm.trans (rampX1 a b c a' b' c' n k).symm
    have e2 : z = rampX a b c a' b' c' n (3 * k + 2) := b2.e.symm.trans (rampX2 a b c a' b' c' n k).symm
    subst e0 e1 e2
    exact (⟨u0, v0, u1, v1, u2, v2, b0, b1, b2⟩ : ∃ u0 v0 u1 v1 u2 v2, Btw a a' (rampT n k) u0 v0 (rampX a b c a' b' c' n (3 * k)) ∧ Btw b b' (rampT n k) u1 v1 (rampX a b c a' b' c' n (3 * k + 1)) ∧ Btw c c' (rampT n k) u2 v2 (rampX a b c a' b' c' n (3 * k + 2))))
  have HQ := Lib.hid (fun k (hk : k < n) (w : World) => run_float_arith (P := Try.prog) w .quo 22 .f32 _ _ _ (rampT_ok n2 hk).1)
  generalize rampX a b c a' b' c' n = X at *
  obtain ⟨ti, ti1, z1, z2, z3⟩ := info_parts infoVec
  have HR := Lib.hid hres
  clear ha hb hc ha' hb' hc' hres
  go_enter Try.func18, Try.ntmps18
  go_wp2_with fail
  generalize hW0 : (w.alloc (.cells #[.float .f32 a, .float .f32 b, .float .f32 c] 27)).alloc (.cells #[.float .f32 a', .float .f32 b', .float .f32 c'] 27) = W0
  have T2 := Lib.hid (show Two6 W0 w.heap.size a b c a' b' c' by subst hW0; exact ⟨by simp [go_sem], by simp [go_sem], by simp [go_sem], by simp [go_sem], by simp [go_sem], by simp [go_sem], by simp⟩)
  have HB2 := Lib.hid (show Below w.heap.size w W0 by subst hW0; exact (((Below.refl _ _).alloc (Nat.le_refl _) _).alloc (by simp) _))
  have hs0 : W0.heap.size = w.heap.size + 1 + 1 := by subst hW0; simp
  have hown0 : (W0.alloc (.cells #[] 27)).ownsRow W0.heap.size 27 3 (.slice (some ⟨w.heap.size + 1 + 1, 0, none⟩) 0 0) 0 [] := by
    rw [← hs0]
    exact World.ownsRow_made W0 #[] 0 (Nat.le_refl _) (Nat.zero_le _) rfl
  have B3 := Lib.hid ((Below.refl W0.heap.size W0).alloc (Nat.le_refl _) (.cells #[] 27))
  clear hW0
  go_loopw [8, 9] (fun v i wr => ∃ k : Nat, i = .int .i64 k ∧ k ≤ n ∧ (∀ i, i < k → rampG X i = true) ∧ wr.ownsRow W0.heap.size 27 3 v k (flR X (3 * k)) ∧ Below W0.heap.size W0 wr) (fun _ i _ => n - (intOf i).toNat)
  case atStart => exact ⟨0, rfl, Nat.zero_le _, fun i hi => absurd hi (Nat.not_lt_zero _), hown0, B3.out⟩
  case round =>
    clear B3 hown0
    obtain ⟨k, rfl, hk, hg, hown, hb⟩ := hrel
    by_cases hlt : k < n
    · have hlt' : (k : Int) < (n : Int) := by omega
      have hk0 : (0 : Int) ≤ (k : Int) := by omega
      have hk3 : (k : Int) ≤ 300 := by omega
      have hn3 : (n : Int) ≤ 300 := by omega
      have hq := HQ.out k hlt
      obtain ⟨u0, v0, u1, v1, u2, v2, b0, b1, b2⟩ := HK.out k hlt
      have p0 : ∀ w, (binOp .sub 22 (.float .f32 a') (.float .f32 a)).run Try.prog w = .ok (.float .f32 u0) w := fun w => run_float_arith w .sub _ .f32 _ _ _ b0.h0
      have p1 : ∀ w, (binOp .mul 22 (.float .f32 u0) (.float .f32 (rampT n k))).run Try.prog w = .ok (.float .f32 v0) w := fun w => run_float_arith w .mul _ .f32 _ _ _ b0.h1
      have p2 : ∀ w, (binOp .add 22 (.float .f32 a) (.float .f32 v0)).run Try.prog w = .ok (.float .f32 (X (3 * k))) w := fun w => run_float_arith w .add _ .f32 _ _ _ b0.h2
      have q0 : ∀ w, (binOp .sub 22 (.float .f32 b') (.float .f32 b)).run Try.prog w = .ok (.float .f32 u1) w := fun w => run_float_arith w .sub _ .f32 _ _ _ b1.h0
      have q1 : ∀ w, (binOp .mul 22 (.float .f32 u1) (.float .f32 (rampT n k))).run Try.prog w = .ok (.float .f32 v1) w := fun w => run_float_arith w .mul _ .f32 _ _ _ b1.h1
      have q2 : ∀ w, (binOp .add 22 (.float .f32 b) (.float .f32 v1)).run Try.prog w = .ok (.float .f32 (X (3 * k + 1))) w := fun w => run_float_arith w .add _ .f32 _ _ _ b1.h2
      have s0 : ∀ w, (binOp .sub 22 (.float .f32 c') (.float .f32 c)).run Try.prog w = .ok (.float .f32 u2) w := fun w => run_float_arith w .sub _ .f32 _ _ _ b2.h0
      have s1 : ∀ w, (binOp .mul 22 (.float .f32 u2) (.float .f32 (rampT n k))).run Try.prog w = .ok (.float .f32 v2) w := fun w => run_float_arith w .mul _ .f32 _ _ _ b2.h1
      have s2 : ∀ w, (binOp .add 22 (.float .f32 c) (.float .f32 v2)).run Try.prog w = .ok (.float .f32 (X (3 * k + 2))) w := fun w => run_float_arith w .add _ .f32 _ _ _ b2.h2
      have HI := Lib.hid (fun w => l09Is_any (X (3 * k)) (X (3 * k + 1)) (X (3 * k + 2)) w b0.lt b1.lt b2.lt)
      have HB := Lib.hid hb
      have HO := Lib.hid hown
      have HG := Lib.hid hg
      have HL := Lib.hid (flR_next3 X k)
      have TW := Lib.hid (T2.out.below hb)
      have V0 := Lib.hid (VR.new wr 27 0 0 0)
      have BW := Lib.hid ((Below.refl wr.heap.size wr).alloc (Nat.le_refl _) (.cells #[.float .f32 0, .float .f32 0, .float .f32 0] 27))
      have hwz : w.heap.size + 1 < wr.heap.size := TW.out.lt
      generalize rampT n k = t at *
      clear hb hown hg HK HQ b0 b1 b2
      go_wp2_with fail
      go_loopw [12] (fun i wq => Below wr.heap.size wr wq ∧ (i = .int .i64 0 ∧ VR wq wr.heap.size 0 0 0 ∨ i = .int .i64 1 ∧ VR wq wr.heap.size (X (3 * k)) 0 0 ∨ i = .int .i64 2 ∧ VR wq wr.heap.size (X (3 * k)) (X (3 * k + 1)) 0 ∨ i = .int .i64 3 ∧ VR wq wr.heap.size (X (3 * k)) (X (3 * k + 1)) (X (3 * k + 2)))) (fun i _ => 3 - (intOf i).toNat)
      case atStart => exact ⟨BW.out, .inl ⟨rfl, V0.out⟩⟩
      case round =>
        clear V0 BW
        obtain ⟨hq', ⟨rfl, V⟩ | ⟨rfl, V⟩ | ⟨rfl, V⟩ | ⟨rfl, V⟩⟩ := hrel
        · have BQ := Lib.hid hq'
          have VV := Lib.hid V
          obtain ⟨c0, c1, c2, c3, c4, c5, l1⟩ := TW.out.below hq'
          obtain ⟨e0, e1, e2, f0, f1, f2, l3⟩ := V
          clear hq'
          go_wp2_with fail
          refine still_tail 15 (by kernel_rfl) (by kernel_rfl) ?_
          simp only [List.take_succ_cons, List.take_zero, List.drop_succ_cons, List.drop_zero]
          iterate 15 still_step
          refine wpStill_nil ?_
          go_wp2_with fail
          exact ⟨⟨below_drewN (vr_below_set BQ.out (Nat.le_refl _)) 1, .inr (.inl ⟨rfl, vr_drewN (vr_set0 VV.out _) 1⟩)⟩, by simp [intOf]⟩
        · have BQ := Lib.hid hq'
          have VV := Lib.hid V
          obtain ⟨c0, c1, c2, c3, c4, c5, l1⟩ := TW.out.below hq'
          obtain ⟨e0, e1, e2, f0, f1, f2, l3⟩ := V
          clear hq'
          go_wp2_with fail
          refine still_tail 15 (by kernel_rfl) (by kernel_rfl) ?_
          simp only [List.take_succ_cons, List.take_zero, List.drop_succ_cons, List.drop_zero]
          iterate 15 still_step
          refine wpStill_nil ?_
          go_wp2_with fail
          exact ⟨⟨below_drewN (vr_below_set BQ.out (Nat.le_refl _)) 1, .inr (.inr (.inl ⟨rfl, vr_drewN (vr_set1 VV.out _) 1⟩))⟩, by simp [intOf]⟩
        · have BQ := Lib.hid hq'
          have VV := Lib.hid V
          obtain ⟨c0, c1, c2, c3, c4, c5, l1⟩ := TW.out.below hq'
          obtain ⟨e0, e1, e2, f0, f1, f2, l3⟩ := V
          clear hq'
          go_wp2_with fail
          refine still_tail 15 (by kernel_rfl) (by kernel_rfl) ?_
          simp only [List.take_succ_cons, List.take_zero, List.drop_succ_cons, List.drop_zero]
          iterate 15 still_step
          refine wpStill_nil ?_
          go_wp2_with fail
          exact ⟨⟨below_drewN (vr_below_set BQ.out (Nat.le_refl _)) 1, .inr (.inr (.inr ⟨rfl, vr_drewN (vr_set2 VV.out _) 1⟩))⟩, by simp [intOf]⟩
        · have BQ := Lib.hid hq'
          have VV := Lib.hid V
          obtain ⟨e0, e1, e2, f0, f1, f2, l3⟩ := V
          clear hq'
          by_cases hgk : rampG X k = true
          · have hgk' : (fin (X (3 * k)) && fin (X (3 * k + 1)) && fin (X (3 * k + 2))) = true := hgk
            rw [hgk'] at HI
            have HGK := Lib.hid hgk
            clear hgk hgk'
            go_wp2_with fail
            refine (HI.out _).mono ?_
            rintro e w3 ⟨rfl, hb3⟩
            have BW3 := Lib.hid (Below.trans BQ.out (hb3.mono BQ.out.size))
            have HB3 := Lib.hid (HB.out.trans (BW3.out.mono HB.out.size))
            have HO3 := Lib.hid (owns_belowR HO.out BW3.out)
            have hsz : W0.heap.size ≤ w3.heap.size := HB3.out.size
            have V3 := Lib.hid (VV.out.below hb3)
            clear e0 e1 e2 f0 f1 f2 l3
            obtain ⟨e0, e1, e2, f0, f1, f2, l3⟩ := V3.out
            clear hb3
            go_wp2_with (at_builtin; refine stop_listR ?_)
            unfold Hid
            refine wpList_append_own_at _ rfl _ _ 24 rfl W0.heap.size 27 ti _ 3 12 Try.underlying24 ti1 z1 z2 z3 rfl (by decide) _ k _ rfl (by exact HO3.out.alloc _) ⟨w3.heap.size, 0, none⟩ 1 _ [.float .f32 (X (3 * k)), .float .f32 (X (3 * k + 1)), .float .f32 (X (3 * k + 2))] rfl rfl (news_vec (by simp [go_sem]) (by simp [go_sem]) (by simp [go_sem])) one_vec (by unfold maxLen; omega) (by omega) (by simp; omega) ?_
            intro v4 w4 hown hgrow hnil hblk
            have HO4 := Lib.hid hown
            have HB4 := Lib.hid (Below.grown (a := W0) (by exact HB3.out.alloc hsz _) hgrow (by simp; omega) (by intro g hg; exact (World.ownsRow.lt HO3.out g hg).1))
            clear hown hgrow hnil hblk
            go_wp2_with fail
            go_roundw
            case rel =>
              refine ⟨k + 1, by go_num, by omega, fun i hi => ?_, ?_, HB4.out⟩
              · rcases Nat.lt_or_ge i k with h | h
                · exact HG.out i h
                · obtain rfl : i = k := by omega
                  exact HGK.out
              · rw [HL.out]
                exact HO4.out
            case measure => simp [intOf]; omega
          · have hgk' : (fin (X (3 * k)) && fin (X (3 * k + 1)) && fin (X (3 * k + 2))) = false := by simpa [rampG] using hgk
            rw [hgk'] at HI
            obtain ⟨rfl, rfl⟩ := HR.out.2 (fun h => hgk (h k hlt))
            clear hgk hgk' HR
            go_wp2_with fail
            refine (HI.out _).mono ?_
            rintro e w3 ⟨rfl, hb3⟩
            have BW3 := Lib.hid (Below.trans BQ.out (hb3.mono BQ.out.size))
            have HB3 := Lib.hid (HB.out.trans (BW3.out.mono HB.out.size))
            clear hb3
            go_wp2_with fail
            exact bodyPost_ret (v := .tuple #[.slice none 0 0, .int .i64 3]) (by simp [results, Try.results18, go_sem]) rfl ⟨_, rfl, HB2.out.trans (HB3.out.mono HB2.out.size), own_nilR (Nat.le_refl _)⟩
    · have he : k = n := by omega
      subst he
      obtain ⟨rfl, rfl⟩ := HR.out.1 hg
      have hlt' : ¬ ((m : Int) < (m : Int)) := by omega
      have HB := Lib.hid (HB2.out.trans (hb.mono HB2.out.size))
      have HO := Lib.hid (ownw_lo (owns_ramp hown) HB2.out.size)
      clear hb hown hg HK HQ HR
      go_wp2_with fail
      go_ret2
      exact ⟨_, rfl, HB.out, HO.out⟩

end Go.Proofs.Ytaghfffbhgpalaa
