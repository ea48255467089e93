/- ChooseStep of the program. -/
import Derived.Test.YtlmhibeimfkpiaaKca
import Derived.Test.YtlmhibeimfkpiaaChoF
namespace Go.Proofs.Ytlmhibeimfkpiaa
open Go.RowKit

def chooseE (a b c e : Nat) : Nat → Nat → Nat ⊕ Int
  | 0, _ => .inr 4
  | n + 1, h => if errOk a b c h then (if leW (errN a b c h) e then .inl h else chooseE a b c e n (hN h)) else .inr 3

theorem chooseIn_res {a b c e : Nat} : ∀ (n h : Nat), chooseIn a b c e n h = resF (chooseE a b c e n h)
  | 0, _ => rfl
  | n + 1, h => by
    unfold chooseIn chooseE
    split
    · split
      · rfl
      · exact chooseIn_res n (hN h)
    · rfl

set_option maxRecDepth 100000 in
set_option maxHeartbeats 2000000 in
theorem chosenFor_any {a b c h e : Nat} (ha : Num a) (hb : Num b) (hc : Num c) (hh : Num h) (w : World) :
    Calls Try.prog 59 #[.agg #[.float .f32 a, .float .f32 b, .float .f32 c], .float .f32 h, .float .f32 e] w fun x w' => x = endF (chooseE a b c e 21 h) ∧ Below w.heap.size w w' := by
  have HE := Lib.hid (fun h (hh : Num h) w => errorWith_any ha hb hc hh w)
  obtain ⟨o, hR⟩ : ∃ o, chooseE a b c e 21 h = o := ⟨_, rfl⟩
  have HR := Lib.hid hR
  rw [hR]
  clear ha hb hc hR
  have V0 := Lib.hid (show VF (w.alloc (.cells #[.float .f32 a, .float .f32 b, .float .f32 c] 24)) w.heap.size a b c from ⟨by simp [go_sem], by simp [go_sem], by simp [go_sem], by simp⟩)
  have B0 := Lib.hid ((Below.refl w.heap.size w).alloc (Nat.le_refl _) (.cells #[.float .f32 a, .float .f32 b, .float .f32 c] 24))
  go_enter Try.func59, Try.ntmps59
  go_wp2_with fail
  go_loopw [1, 7] (fun hv kv wr => ∃ (k : Int) (y : Nat), kv = .int .i64 k ∧ hv = .float .f32 y ∧ 0 ≤ k ∧ k ≤ 21 ∧ Num y ∧ chooseE a b c e (21 - k).toNat y = o ∧ VF wr w.heap.size a b c ∧ Below w.heap.size w wr) (fun _ kv _ => 21 - (intOf kv).toNat)
  case atStart => exact ⟨0, h, rfl, rfl, by omega, by omega, hh, HR.out, V0.out, B0.out⟩
  case round =>
    clear hh HR V0 B0
    obtain ⟨k, y, rfl, rfl, k0, k1, hy, hR, V, B⟩ := hrel
    have HV := Lib.hid V
    have HB := Lib.hid B
    obtain ⟨c0, c1, c2, _⟩ := V
    clear B
    by_cases hk : k ≤ 20
    · obtain ⟨n, hn⟩ : ∃ n, (21 - k).toNat = n + 1 := ⟨(20 - k).toNat, by omega⟩
      have hn' : (21 - (k + 1)).toNat = n := by omega
      rw [hn] at hR
      unfold chooseE at hR
      have H := HE.out y hy
      unfold errE at H
      cases hok : errOk a b c y
      · rw [hok] at H hR
        simp only [Bool.false_eq_true, if_false] at H hR
        subst hR
        unfold endF panicC at *
        dsimp only at H
        have H := Lib.hid H
        clear hy HE hok hn hn'
        go_wp2_with fail
        refine (H.out _).mono ?_
        rintro e w2 ⟨rfl, hb2⟩
        have HB2 := Lib.hid (below_step hb2 HB.out HB.out.size)
        clear hb2
        go_wp2_with fail
        exact ⟨rfl, rfl, HB2.out⟩
      · rw [hok] at H hR
        simp only [if_true] at H hR
        have hhalf := half_num hy
        have rk : ∀ w, (binOp .quo 22 (.float .f32 y) (.float .f32 1073741824)).run Try.prog w = .ok (.float .f32 (hN y)) w := fun w => run_float_arith w .quo _ .f32 y 1073741824 (hN y) hhalf.1
        have H : ∀ w, Calls Try.prog 57 #[.agg #[.float .f32 a, .float .f32 b, .float .f32 c], .float .f32 y] w fun x w' => x = .returned (.float .f32 (errN a b c y)) ∧ Below w.heap.size w w' := H
        have H := Lib.hid H
        cases hle : leW (errN a b c y) e
        · rw [hle] at hR
          simp only [Bool.false_eq_true, if_false] at hR
          rw [← hn'] at hR
          have HR := Lib.hid hR
          have HY := Lib.hid hhalf.2
          have g : (FloatKind.f32.format.order (errN a b c y) e == some .lt || FloatKind.f32.format.order (errN a b c y) e == some .eq) = false := hle
          generalize errN a b c y = E at *
          generalize hN y = y' at *
          clear hy HE hok hn hn' hle hhalf hR
          have gl : (FloatKind.f32.format.order E e == some .lt) = false := by simp only [Bool.or_eq_false_iff] at g; exact g.1
          have ge : (FloatKind.f32.format.order E e == some .eq) = false := by simp only [Bool.or_eq_false_iff] at g; exact g.2
          go_wp2_with fail
          refine (H.out _).mono ?_
          rintro e' w2 ⟨rfl, hb2⟩
          have HV2 := Lib.hid (HV.out.below hb2)
          have HB2 := Lib.hid (below_step hb2 HB.out HB.out.size)
          clear hb2
          go_wp2_with fail
          go_roundw
          case rel => exact ⟨k + 1, y', by go_num, rfl, by omega, by omega, HY.out, HR.out, HV2.out, HB2.out⟩
          case measure => simp [intOf]; omega
        · rw [hle] at hR
          simp only [if_true] at hR
          subst hR
          have g : (FloatKind.f32.format.order (errN a b c y) e == some .lt || FloatKind.f32.format.order (errN a b c y) e == some .eq) = true := hle
          generalize errN a b c y = E at *
          clear hy HE hok hn hn' hle hhalf rk
          go_wp2_with fail
          refine (H.out _).mono ?_
          rintro e' w2 ⟨rfl, hb2⟩
          have HB2 := Lib.hid (below_step hb2 HB.out HB.out.size)
          clear hb2
          go_wp2_with fail
          exact bodyPost_ret (v := .float .f32 y) (by simp [results, Try.results59, go_sem]) rfl ⟨rfl, HB2.out⟩
    · have hk' : k = 21 := by omega
      subst hk'
      have hR' : chooseE a b c e 0 y = o := hR
      unfold chooseE at hR'
      subst hR'
      clear hR hy HE k0 k1 hk
      go_wp2_with fail
      exact ⟨rfl, rfl, HB.out⟩

theorem chooseC_ok {a b c h e B D E : Nat} {o : Nat ⊕ Int} (HS : ∀ w, Calls Try.prog 59 #[.agg #[.float .f32 a, .float .f32 b, .float .f32 c], .float .f32 h, .float .f32 e] w fun x w' => x = endF o ∧ Below w.heap.size w w') {w : World} (V : VF w B a b c) (hD : w.cell? ⟨D, 0, none⟩ = some (.float .f32 h)) (hl : D < w.heap.size) (hE : w.cell? ⟨E, 0, none⟩ = some (.float .f32 e)) (hl' : E < w.heap.size) :
    Calls Try.prog 58 #[.pointer (some ⟨B, 0, none⟩), .pointer (some ⟨D, 0, none⟩), .pointer (some ⟨E, 0, none⟩)] w fun e w' => e = endF o ∧ Below w.heap.size w w' := by
  replace HS := Lib.hid HS
  obtain ⟨c0, c1, c2, hl0⟩ := V
  cases o with
  | inr j =>
    unfold endF panicC at *
    go_enter Try.func58, Try.ntmps58
    go_wp2_with fail
    refine (HS.out _).mono ?_
    rintro e w1 ⟨rfl, hb1⟩
    go_wp2_with fail
    exact ⟨rfl, rfl, hb1⟩
  | inl t =>
    unfold endF at *
    go_enter Try.func58, Try.ntmps58
    go_wp2_with fail
    refine (HS.out _).mono ?_
    rintro e w1 ⟨rfl, hb1⟩
    go_wp2_with fail
    go_ret
    exact ⟨rfl, hb1⟩

set_option maxRecDepth 100000 in
set_option maxHeartbeats 2000000 in
theorem chooseStepOk : ChooseStepOk := by
  intro a b c h m w ha hb hc hh hm
  have HV := Lib.hid (fun w => isVector_any a b c w ha hb hc)
  have HN := Lib.hid (fun w => isNumber_any h w hh)
  have HM := Lib.hid (fun w => isNumber_any m w hm)
  unfold chooseRes
  have hmf : ∀ (fn : Fn) (first cap : Array Value) (w : World), (Instr.makeFunc fn first cap).run Try.prog w = .ok (.func fn first cap) w := fun _ _ _ _ => rfl
  by_cases H : ((fin a && fin b && fin c) && (fin h && fin m)) = true
  · rw [if_pos H]
    simp only [Bool.and_eq_true] at H
    obtain ⟨⟨⟨fa, fb⟩, fc⟩, fh, fm⟩ := H
    have HS := Lib.hid (fun w => chosenFor_any (a := a) (b := b) (c := c) (h := h) (e := m) ⟨ha, fa⟩ ⟨hb, fb⟩ ⟨hc, fc⟩ ⟨hh, fh⟩ w)
    rw [chooseIn_res]
    generalize chooseE a b c m 21 h = o at *
    obtain ⟨x, j, hform⟩ := resF_form o
    rw [hform]
    have HD := Lib.hid (fun (F : FuncId) cap w hE hF => doorF_any (F := F) (cap := cap) o w hE hF)
    rw [hform] at HD
    rw [fa, fb, fc] at HV
    rw [fh] at HN
    rw [fm] at HM
    clear ha hb hc hh hm hform fa fb fc fh fm
    simp only [Bool.and_self] at HV
    cases h0 : less0 m
    · simp only [Bool.false_eq_true, if_false]
      have hl : (FloatKind.f32.format.order m 0 == some .lt) = false := h0
      clear h0
      go_enter Try.func28, Try.ntmps28
      go_wp2_with fail
      refine (HV.out _).mono ?_
      rintro e w1 ⟨rfl, hb1⟩
      obtain ⟨hc1, hf1⟩ := bcell hb1
      have hz1 : w.heap.size + 1 < w1.heap.size := by have := hb1.size; simp at this; omega
      have hz2 : w.heap.size + 1 + 1 < w1.heap.size := by have := hb1.size; simp at this; omega
      have V1 := Lib.hid (show VF w1 w.heap.size a b c from ⟨by simp [hc1, go_sem], by simp [hc1, go_sem], by simp [hc1, go_sem], by omega⟩)
      have D1 : w1.cell? ⟨w.heap.size + 1, 0, none⟩ = some (.float .f32 h) := by simp [hc1, go_sem]
      have E1 : w1.cell? ⟨w.heap.size + 1 + 1, 0, none⟩ = some (.float .f32 m) := by simp [hc1, go_sem]
      have HB1 := Lib.hid (show Below w.heap.size w w1 from below_step hb1 ((((Below.refl _ _).alloc (Nat.le_refl _) _).alloc (by simp) _).alloc (by simp; omega) _) (by simp; omega))
      clear hb1 hc1 hf1
      go_wp2_with fail
      refine (HN.out _).mono ?_
      rintro e w2 ⟨rfl, rfl⟩
      go_wp2_with fail
      refine (HM.out _).mono ?_
      rintro e w2 ⟨rfl, rfl⟩
      go_wp2_with fail
      refine (HD.out _ _ _ (fun _ => by kernel_rfl) fun w' hb' => chooseC_ok HS.out (V1.out.below hb') ((hb'.cell (p := ⟨w.heap.size + 1, 0, none⟩) hz1).trans D1) (Nat.lt_of_lt_of_le hz1 hb'.size) ((hb'.cell (p := ⟨w.heap.size + 1 + 1, 0, none⟩) hz2).trans E1) (Nat.lt_of_lt_of_le hz2 hb'.size)).mono ?_
      rintro e w2 ⟨rfl, hb2⟩
      have HB2 := Lib.hid (below_step hb2 HB1.out HB1.out.size)
      clear hb2 V1 HD HS
      go_wp2_with fail
      exact bodyPost_ret (v := .tuple #[.float .f32 x, .int .i64 j]) (by simp [results, Try.results28, go_sem]) rfl ⟨rfl, HB2.out⟩
    · simp only [if_true]
      have hl : (FloatKind.f32.format.order m 0 == some .lt) = true := h0
      clear h0 HD HS
      go_enter Try.func28, Try.ntmps28
      go_wp2_with fail
      refine (HV.out _).mono ?_
      rintro e w1 ⟨rfl, hb1⟩
      obtain ⟨hc1, hf1⟩ := bcell hb1
      have hz2 : w.heap.size + 1 + 1 < w1.heap.size := by have := hb1.size; simp at this; omega
      have D1 : w1.cell? ⟨w.heap.size + 1, 0, none⟩ = some (.float .f32 h) := by simp [hc1, go_sem]
      have E1 : w1.cell? ⟨w.heap.size + 1 + 1, 0, none⟩ = some (.float .f32 m) := by simp [hc1, go_sem]
      have HB1 := Lib.hid (show Below w.heap.size w w1 from below_step hb1 ((((Below.refl _ _).alloc (Nat.le_refl _) _).alloc (by simp) _).alloc (by simp; omega) _) (by simp; omega))
      clear hb1 hc1 hf1
      go_wp2_with fail
      refine (HN.out _).mono ?_
      rintro e w2 ⟨rfl, rfl⟩
      go_wp2_with fail
      refine (HM.out _).mono ?_
      rintro e w2 ⟨rfl, rfl⟩
      go_wp2_with fail
      exact bodyPost_ret (v := .tuple #[.float .f32 0, .int .i64 2]) (by simp [results, Try.results28, go_sem]) rfl ⟨rfl, HB1.out⟩
  · rw [if_neg H]
    generalize (fin a && fin b && fin c) = p at *
    generalize fin h = q at *
    generalize fin m = r at *
    clear ha hb hc hh hm
    cases p
    · go_enter Try.func28, Try.ntmps28
      go_wp2_with fail
      refine (HV.out _).mono ?_
      rintro e w1 ⟨rfl, hb1⟩
      have HB1 := Lib.hid (show Below w.heap.size w w1 from below_step hb1 ((((Below.refl _ _).alloc (Nat.le_refl _) _).alloc (by simp) _).alloc (by simp; omega) _) (by simp; omega))
      clear hb1
      go_wp2_with fail
      exact bodyPost_ret (v := .tuple #[.float .f32 0, .int .i64 1]) (by simp [results, Try.results28, go_sem]) rfl ⟨rfl, HB1.out⟩
    cases q
    · go_enter Try.func28, Try.ntmps28
      go_wp2_with fail
      refine (HV.out _).mono ?_
      rintro e w1 ⟨rfl, hb1⟩
      obtain ⟨hc1, hf1⟩ := bcell hb1
      have D1 : w1.cell? ⟨w.heap.size + 1, 0, none⟩ = some (.float .f32 h) := by simp [hc1, go_sem]
      have HB1 := Lib.hid (show Below w.heap.size w w1 from below_step hb1 ((((Below.refl _ _).alloc (Nat.le_refl _) _).alloc (by simp) _).alloc (by simp; omega) _) (by simp; omega))
      clear hb1 hc1 hf1
      go_wp2_with fail
      refine (HN.out _).mono ?_
      rintro e w2 ⟨rfl, rfl⟩
      go_wp2_with fail
      exact bodyPost_ret (v := .tuple #[.float .f32 0, .int .i64 1]) (by simp [results, Try.results28, go_sem]) rfl ⟨rfl, HB1.out⟩
    cases r
    · go_enter Try.func28, Try.ntmps28
      go_wp2_with fail
      refine (HV.out _).mono ?_
      rintro e w1 ⟨rfl, hb1⟩
      obtain ⟨hc1, hf1⟩ := bcell hb1
      have D1 : w1.cell? ⟨w.heap.size + 1, 0, none⟩ = some (.float .f32 h) := by simp [hc1, go_sem]
      have E1 : w1.cell? ⟨w.heap.size + 1 + 1, 0, none⟩ = some (.float .f32 m) := by simp [hc1, go_sem]
      have HB1 := Lib.hid (show Below w.heap.size w w1 from below_step hb1 ((((Below.refl _ _).alloc (Nat.le_refl _) _).alloc (by simp) _).alloc (by simp; omega) _) (by simp; omega))
      clear hb1 hc1 hf1
      go_wp2_with fail
      refine (HN.out _).mono ?_
      rintro e w2 ⟨rfl, rfl⟩
      go_wp2_with fail
      refine (HM.out _).mono ?_
      rintro e w2 ⟨rfl, rfl⟩
      go_wp2_with fail
      exact bodyPost_ret (v := .tuple #[.float .f32 0, .int .i64 1]) (by simp [results, Try.results28, go_sem]) rfl ⟨rfl, HB1.out⟩
    · exact absurd rfl H

theorem chooseHolds : Rows.FnExactChooseStepSaid := ChooseStep.holds chooseStepOk

end Go.Proofs.Ytlmhibeimfkpiaa
