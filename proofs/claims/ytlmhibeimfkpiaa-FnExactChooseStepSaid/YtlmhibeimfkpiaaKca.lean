/- ErrorOfStep of the program. Walks: ChooseStep of the specification. Walks: ChooseStep of the specification, whole. -/
import Derived.Test.YtlmhibeimfkpiaaErI
import Derived.Test.YtlmhibeimfkpiaaKbz
import Derived.Test.YtlmhibeimfkpiaaKbw
import Derived.Laws.Cover2
namespace Go.Proofs.Ytlmhibeimfkpiaa
open Go.RowKit

/-- A closure over a vector and a number that hands both on to a function that makes a float32 or panics. -/
theorem errC_ok {a b c h B D : Nat} {o : Nat ⊕ Int} (HS : ∀ w, Calls Try.prog 57 #[.agg #[.float .f32 a, .float .f32 b, .float .f32 c], .float .f32 h] w fun e w' => e = endF o ∧ Below w.heap.size w w') {w : World} (V : VF w B a b c) (hD : w.cell? ⟨D, 0, none⟩ = some (.float .f32 h)) (hl : D < w.heap.size) :
    Calls Try.prog 56 #[.pointer (some ⟨B, 0, none⟩), .pointer (some ⟨D, 0, none⟩)] w fun e w' => e = endF o ∧ Below w.heap.size w w' := by
  replace HS := Lib.hid HS
  obtain ⟨c0, c1, c2, hl0⟩ := V
  cases o with
  | inr j =>
    unfold endF panicC at *
    go_enter Try.func56, Try.ntmps56
    go_wp2_with fail
    refine (HS.out _).mono ?_
    rintro e w1 ⟨rfl, hb1⟩
    go_wp2_with fail
    exact ⟨rfl, rfl, hb1⟩
  | inl t =>
    unfold endF at *
    go_enter Try.func56, Try.ntmps56
    go_wp2_with fail
    refine (HS.out _).mono ?_
    rintro e w1 ⟨rfl, hb1⟩
    go_wp2_with fail
    go_ret
    exact ⟨rfl, hb1⟩

set_option maxRecDepth 100000 in
set_option maxHeartbeats 2000000 in
theorem errorOfStepOk : ErrorOfStepOk := by
  intro a b c h w ha hb hc hh
  have HV := Lib.hid (fun w => isVector_any a b c w ha hb hc)
  have HN := Lib.hid (fun w => isNumber_any h w hh)
  unfold errRes
  have hmf : ∀ (fn : Fn) (first cap : Array Value) (w : World), (Instr.makeFunc fn first cap).run Try.prog w = .ok (.func fn first cap) w := fun _ _ _ _ => rfl
  by_cases H : ((fin a && fin b && fin c) && fin h) = true
  · rw [if_pos H]
    obtain ⟨fa, fb, fc, fh⟩ := num_of H
    have HS := Lib.hid (fun w => errorWith_any (a := a) (b := b) (c := c) (h := h) ⟨ha, fa⟩ ⟨hb, fb⟩ ⟨hc, fc⟩ ⟨hh, fh⟩ w)
    rw [errIn_res]
    generalize errE a b c h = o at *
    obtain ⟨x, j, hform⟩ := resF_form o
    rw [hform]
    have HD := Lib.hid (fun (F : FuncId) cap w hE hF => doorF_any (F := F) (cap := cap) o w hE hF)
    rw [hform] at HD
    rw [fa, fb, fc] at HV
    rw [fh] at HN
    clear ha hb hc hh hform H fa fb fc fh
    simp only [Bool.and_self] at HV
    go_enter Try.func25, Try.ntmps25
    go_wp2_with fail
    refine (HV.out _).mono ?_
    rintro e w1 ⟨rfl, hb1⟩
    obtain ⟨hc1, hf1⟩ := bcell hb1
    have hz1 : w.heap.size + 1 < w1.heap.size := by have := hb1.size; simp at this; omega
    have V1 := Lib.hid (show VF w1 w.heap.size a b c from ⟨by simp [hc1, go_sem], by simp [hc1, go_sem], by simp [hc1, go_sem], by omega⟩)
    have D1 : w1.cell? ⟨w.heap.size + 1, 0, none⟩ = some (.float .f32 h) := by simp [hc1, go_sem]
    have HB1 := Lib.hid (show Below w.heap.size w w1 from below_step hb1 (((Below.refl _ _).alloc (Nat.le_refl _) _).alloc (by simp) _) (by simp; omega))
    clear hb1 hc1 hf1
    go_wp2_with fail
    refine (HN.out _).mono ?_
    rintro e w2 ⟨rfl, rfl⟩
    go_wp2_with fail
    refine (HD.out _ _ _ (fun _ => by kernel_rfl) fun w' hb' => errC_ok HS.out (V1.out.below hb') ((hb'.cell (p := ⟨w.heap.size + 1, 0, none⟩) hz1).trans D1) (Nat.lt_of_lt_of_le hz1 hb'.size)).mono ?_
    rintro e w2 ⟨rfl, hb2⟩
    have HB2 := Lib.hid (below_step hb2 HB1.out HB1.out.size)
    clear hb2 V1 HD HS
    go_wp2_with fail
    exact bodyPost_ret (v := .tuple #[.float .f32 x, .int .i64 j]) (by simp [results, Try.results25, go_sem]) rfl ⟨rfl, HB2.out⟩
  · rw [if_neg H]
    generalize (fin a && fin b && fin c) = p at *
    generalize fin h = q at *
    clear ha hb hc hh
    cases p
    · go_enter Try.func25, Try.ntmps25
      go_wp2_with fail
      refine (HV.out _).mono ?_
      rintro e w1 ⟨rfl, hb1⟩
      have HB1 := Lib.hid (show Below w.heap.size w w1 from below_step hb1 (((Below.refl _ _).alloc (Nat.le_refl _) _).alloc (by simp) _) (by simp; omega))
      clear hb1
      go_wp2_with fail
      exact bodyPost_ret (v := .tuple #[.float .f32 0, .int .i64 1]) (by simp [results, Try.results25, go_sem]) rfl ⟨rfl, HB1.out⟩
    cases q
    · go_enter Try.func25, Try.ntmps25
      go_wp2_with fail
      refine (HV.out _).mono ?_
      rintro e w1 ⟨rfl, hb1⟩
      obtain ⟨hc1, hf1⟩ := bcell hb1
      have hz1 : w.heap.size + 1 < w1.heap.size := by have := hb1.size; simp at this; omega
      have D1 : w1.cell? ⟨w.heap.size + 1, 0, none⟩ = some (.float .f32 h) := by simp [hc1, go_sem]
      have HB1 := Lib.hid (show Below w.heap.size w w1 from below_step hb1 (((Below.refl _ _).alloc (Nat.le_refl _) _).alloc (by simp) _) (by simp; omega))
      clear hb1 hc1 hf1
      go_wp2_with fail
      refine (HN.out _).mono ?_
      rintro e w2 ⟨rfl, rfl⟩
      go_wp2_with fail
      exact bodyPost_ret (v := .tuple #[.float .f32 0, .int .i64 1]) (by simp [results, Try.results25, go_sem]) rfl ⟨rfl, HB1.out⟩
    · exact absurd rfl H

theorem errHolds : Rows.FnExactErrorOfStepSaid := ErrorOfStep.holds errorOfStepOk

end Go.Proofs.Ytlmhibeimfkpiaa

namespace Go.Proofs.Ytlmhibeimfkpiaa
open Go.RowKit

/-- '<=' of float32. -/
def leW (x y : Nat) : Bool := FloatKind.f32.format.order x y == some .lt || FloatKind.f32.format.order x y == some .eq

/-- What is chosen with n trials at most. -/
def chooseIn (a b c e : Nat) : Nat → Nat → Value
  | 0, _ => .tuple #[.float .f32 0, .int .i64 4]
  | n + 1, h => if errOk a b c h then (if leW (errN a b c h) e then .tuple #[.float .f32 h, .int .i64 0] else chooseIn a b c e n (hN h)) else .tuple #[.float .f32 0, .int .i64 3]

/-- What ChooseStep answers. -/
def chooseRes (a b c h e : Nat) : Value := if (fin a && fin b && fin c) && (fin h && fin e) then (if less0 e then .tuple #[.float .f32 0, .int .i64 2] else chooseIn a b c e 21 h) else .tuple #[.float .f32 0, .int .i64 1]

theorem chooseIn_form {a b c e : Nat} : ∀ (n h : Nat), Num h → ∃ (x : Nat) (j : Int), chooseIn a b c e n h = .tuple #[.float .f32 x, .int .i64 j] ∧ x < 4294967296 ∧ fin x = true
  | 0, _, _ => ⟨0, 4, rfl, by omega, by decide +kernel⟩
  | n + 1, h, hh => by
    unfold chooseIn
    split
    · split
      · exact ⟨h, 0, rfl, hh.1, hh.2⟩
      · exact chooseIn_form n (hN h) (half_num hh).2
    · exact ⟨0, 3, rfl, by omega, by decide +kernel⟩

theorem chooseRes_form {a b c h e : Nat} (_ha : a < 4294967296) (_hb : b < 4294967296) (_hc : c < 4294967296) (hh : h < 4294967296) (_he : e < 4294967296) : ∃ (x : Nat) (j : Int), chooseRes a b c h e = .tuple #[.float .f32 x, .int .i64 j] ∧ x < 4294967296 ∧ fin x = true := by
  unfold chooseRes
  split
  · rename_i H
    simp only [Bool.and_eq_true] at H
    split
    · exact ⟨0, 2, rfl, by omega, by decide +kernel⟩
    · exact chooseIn_form 21 h ⟨hh, H.2.1⟩
  · exact ⟨0, 1, rfl, by omega, by decide +kernel⟩

set_option maxRecDepth 100000 in
set_option maxHeartbeats 2000000 in
theorem choose_loop {a b c h e : Nat} (ha : Num a) (hb : Num b) (hc : Num c) (hh : Num h) (he : Num e) (h0 : less0 e = false) (w : World) :
    Calls Try.prog 27 #[.agg #[.float .f32 a, .float .f32 b, .float .f32 c], .float .f32 h, .float .f32 e] w fun x w' => x = .returned (chooseIn a b c e 21 h) ∧ Below w.heap.size w w' := by
  have HV := Lib.hid (fun w => l09Is_any a b c w ha.1 hb.1 hc.1)
  have HF := Lib.hid (fun w => fine_any h w hh.1)
  have HG := Lib.hid (fun w => fine_any e w he.1)
  have HE := Lib.hid (fun h (hh : Num h) w => l09Error_any ha hb hc hh w)
  rw [ha.2, hb.2, hc.2] at HV
  rw [hh.2] at HF
  rw [he.2] at HG
  simp only [Bool.and_self] at HV
  obtain ⟨x, j, hR, _, _⟩ := chooseIn_form (a := a) (b := b) (c := c) (e := e) 21 h hh
  have HR := Lib.hid hR
  rw [hR]
  have hl : (FloatKind.f32.format.order e 0 == some .lt) = false := h0
  clear ha hb hc he h0 hR
  go_enter Try.func27, Try.ntmps27
  go_wp2_with fail
  refine (HV.out _).mono ?_
  rintro e w1 ⟨rfl, hb1⟩
  obtain ⟨hc1, hf1⟩ := bcell hb1
  have V1 := Lib.hid (show VF w1 w.heap.size a b c from ⟨by simp [hc1, go_sem], by simp [hc1, go_sem], by simp [hc1, go_sem], by have := hb1.size; simp at this; omega⟩)
  have HB1 := Lib.hid (show Below w.heap.size w w1 from below_step hb1 ((Below.refl _ _).alloc (Nat.le_refl _) _) (by simp))
  clear hb1 hc1 hf1
  go_wp2_with fail
  refine (HF.out _).mono ?_
  rintro e w2 ⟨rfl, n1, rfl⟩
  go_wp2_with fail
  refine (HG.out _).mono ?_
  rintro e w2 ⟨rfl, n2, rfl⟩
  go_wp2_with fail
  go_loopw [1, 8] (fun hv kv wr => ∃ (k : Int) (y : Nat), kv = .int .i64 k ∧ hv = .float .f32 y ∧ 0 ≤ k ∧ k ≤ 21 ∧ Num y ∧ chooseIn a b c e (21 - k).toNat y = .tuple #[.float .f32 x, .int .i64 j] ∧ VF wr w.heap.size a b c ∧ Below w.heap.size w wr) (fun _ kv _ => 21 - (intOf kv).toNat)
  case atStart => exact ⟨0, h, rfl, rfl, by omega, by omega, hh, HR.out, V1.out.below (below_drewN (Below.refl _ _) _), below_drewN HB1.out _⟩
  case round =>
    clear hh HR V1 HB1 HV HF HG hl
    obtain ⟨k, y, rfl, rfl, k0, k1, hy, hR, V, B⟩ := hrel
    have HV := Lib.hid V
    have HB := Lib.hid B
    obtain ⟨c0, c1, c2, _⟩ := V
    clear B
    by_cases hk : k ≤ 20
    · obtain ⟨n, hn⟩ : ∃ n, (21 - k).toNat = n + 1 := ⟨(20 - k).toNat, by omega⟩
      have hn' : (21 - (k + 1)).toNat = n := by omega
      rw [hn] at hR
      unfold chooseIn at hR
      have H := HE.out y hy
      unfold errIn at H
      cases hok : errOk a b c y
      · rw [hok] at H hR
        simp only [Bool.false_eq_true, if_false] at H hR
        simp only [Value.tuple.injEq, Array.mk.injEq, List.cons.injEq, Value.float.injEq, Value.int.injEq, true_and, and_true] at hR
        obtain ⟨rfl, rfl⟩ := hR
        have H := Lib.hid H
        clear hy HE hok hn hn'
        go_wp2_with fail
        refine (H.out _).mono ?_
        rintro e w2 ⟨rfl, hb2⟩
        have HB2 := Lib.hid (below_step hb2 HB.out HB.out.size)
        clear hb2
        go_wp2_with fail
        exact bodyPost_ret (v := .tuple #[.float .f32 0, .int .i64 3]) (by simp [results, Try.results27, go_sem]) rfl ⟨rfl, HB2.out⟩
      · rw [hok] at H hR
        simp only [if_true] at H hR
        have hhalf := half_num hy
        have rk : ∀ w, (binOp .quo 22 (.float .f32 y) (.float .f32 1073741824)).run Try.prog w = .ok (.float .f32 (hN y)) w := fun w => run_float_arith w .quo _ .f32 y 1073741824 (hN y) hhalf.1
        have H := Lib.hid H
        cases hle : leW (errN a b c y) e
        · rw [hle] at hR
          simp only [Bool.false_eq_true, if_false] at hR
          rw [← hn'] at hR
          have HR := Lib.hid hR
          have HY := Lib.hid hhalf.2
          have g : (FloatKind.f32.format.order (errN a b c y) e == some .lt || FloatKind.f32.format.order (errN a b c y) e == some .eq) = false := hle
          generalize errN a b c y = E at *
          generalize hN y = y' at *
          clear hy HE hok hn hn' hle hhalf hR
          have gl : (FloatKind.f32.format.order E e == some .lt) = false := by simp only [Bool.or_eq_false_iff] at g; exact g.1
          have ge : (FloatKind.f32.format.order E e == some .eq) = false := by simp only [Bool.or_eq_false_iff] at g; exact g.2
          go_wp2_with fail
          refine (H.out _).mono ?_
          rintro e' w2 ⟨rfl, hb2⟩
          have HV2 := Lib.hid (HV.out.below hb2)
          have HB2 := Lib.hid (below_step hb2 HB.out HB.out.size)
          clear hb2
          go_wp2_with fail
          go_roundw
          case rel => exact ⟨k + 1, y', by go_num, rfl, by omega, by omega, HY.out, HR.out, HV2.out, HB2.out⟩
          case measure => simp [intOf]; omega
        · rw [hle] at hR
          simp only [if_true] at hR
          simp only [Value.tuple.injEq, Array.mk.injEq, List.cons.injEq, Value.float.injEq, Value.int.injEq, true_and, and_true] at hR
          obtain ⟨rfl, rfl⟩ := hR
          have g : (FloatKind.f32.format.order (errN a b c y) e == some .lt || FloatKind.f32.format.order (errN a b c y) e == some .eq) = true := hle
          generalize errN a b c y = E at *
          clear hy HE hok hn hn' hle hhalf rk
          go_wp2_with fail
          refine (H.out _).mono ?_
          rintro e' w2 ⟨rfl, hb2⟩
          have HB2 := Lib.hid (below_step hb2 HB.out HB.out.size)
          clear hb2
          go_wp2_with fail
          exact bodyPost_ret (v := .tuple #[.float .f32 y, .int .i64 0]) (by simp [results, Try.results27, go_sem]) rfl ⟨rfl, HB2.out⟩
    · have hk' : k = 21 := by omega
      subst hk'
      have hR' : chooseIn a b c e 0 y = .tuple #[.float .f32 x, .int .i64 j] := hR
      unfold chooseIn at hR'
      simp only [Value.tuple.injEq, Array.mk.injEq, List.cons.injEq, Value.float.injEq, Value.int.injEq, true_and, and_true] at hR'
      obtain ⟨rfl, rfl⟩ := hR'
      clear hR hy HE k0 k1 hk
      go_wp2_with fail
      exact bodyPost_ret (v := .tuple #[.float .f32 0, .int .i64 4]) (by simp [results, Try.results27, go_sem]) rfl ⟨rfl, HB.out⟩

end Go.Proofs.Ytlmhibeimfkpiaa

namespace Go.Proofs.Ytlmhibeimfkpiaa
open Go.RowKit

set_option maxRecDepth 100000 in
set_option maxHeartbeats 2000000 in
theorem specChoose (a b c h e : Nat) (w : World) (ha : a < 4294967296) (hb : b < 4294967296) (hc : c < 4294967296) (hh : h < 4294967296) (he : e < 4294967296) :
    Calls Try.prog 27 #[.agg #[.float .f32 a, .float .f32 b, .float .f32 c], .float .f32 h, .float .f32 e] w fun x w' => x = .returned (chooseRes a b c h e) ∧ Below w.heap.size w w' := by
  unfold chooseRes
  by_cases H : ((fin a && fin b && fin c) && (fin h && fin e)) = true
  · rw [if_pos H]
    simp only [Bool.and_eq_true] at H
    obtain ⟨⟨⟨fa, fb⟩, fc⟩, fh, fe⟩ := H
    cases h0 : less0 e
    · simp only [Bool.false_eq_true, if_false]
      exact choose_loop ⟨ha, fa⟩ ⟨hb, fb⟩ ⟨hc, fc⟩ ⟨hh, fh⟩ ⟨he, fe⟩ h0 w
    · simp only [if_true]
      have HV := Lib.hid (fun w => l09Is_any a b c w ha hb hc)
      have HF := Lib.hid (fun w => fine_any h w hh)
      have HG := Lib.hid (fun w => fine_any e w he)
      rw [fa, fb, fc] at HV
      rw [fh] at HF
      rw [fe] at HG
      simp only [Bool.and_self] at HV
      have hl : (FloatKind.f32.format.order e 0 == some .lt) = true := h0
      clear ha hb hc hh he h0 fa fb fc fh fe
      go_enter Try.func27, Try.ntmps27
      go_wp2_with fail
      refine (HV.out _).mono ?_
      rintro e w1 ⟨rfl, hb1⟩
      have HB1 := Lib.hid (show Below w.heap.size w w1 from below_step hb1 ((Below.refl _ _).alloc (Nat.le_refl _) _) (by simp))
      clear hb1
      go_wp2_with fail
      refine (HF.out _).mono ?_
      rintro e w2 ⟨rfl, n1, rfl⟩
      go_wp2_with fail
      refine (HG.out _).mono ?_
      rintro e w2 ⟨rfl, n2, rfl⟩
      go_wp2_with fail
      exact bodyPost_ret (v := .tuple #[.float .f32 0, .int .i64 2]) (by simp [results, Try.results27, go_sem]) rfl ⟨rfl, below_drewN HB1.out _⟩
  · rw [if_neg H]
    have HV := Lib.hid (fun w => l09Is_any a b c w ha hb hc)
    have HF := Lib.hid (fun w => fine_any h w hh)
    have HG := Lib.hid (fun w => fine_any e w he)
    generalize (fin a && fin b && fin c) = p at *
    generalize fin h = q at *
    generalize fin e = r at *
    clear ha hb hc hh he
    cases p
    · go_enter Try.func27, Try.ntmps27
      go_wp2_with fail
      refine (HV.out _).mono ?_
      rintro e w1 ⟨rfl, hb1⟩
      have HB1 := Lib.hid (show Below w.heap.size w w1 from below_step hb1 ((Below.refl _ _).alloc (Nat.le_refl _) _) (by simp))
      clear hb1
      go_wp2_with fail
      exact bodyPost_ret (v := .tuple #[.float .f32 0, .int .i64 1]) (by simp [results, Try.results27, go_sem]) rfl ⟨rfl, HB1.out⟩
    cases q
    · go_enter Try.func27, Try.ntmps27
      go_wp2_with fail
      refine (HV.out _).mono ?_
      rintro e w1 ⟨rfl, hb1⟩
      have HB1 := Lib.hid (show Below w.heap.size w w1 from below_step hb1 ((Below.refl _ _).alloc (Nat.le_refl _) _) (by simp))
      clear hb1
      go_wp2_with fail
      refine (HF.out _).mono ?_
      rintro e w2 ⟨rfl, n1, rfl⟩
      go_wp2_with fail
      exact bodyPost_ret (v := .tuple #[.float .f32 0, .int .i64 1]) (by simp [results, Try.results27, go_sem]) rfl ⟨rfl, below_drewN HB1.out _⟩
    cases r
    · go_enter Try.func27, Try.ntmps27
      go_wp2_with fail
      refine (HV.out _).mono ?_
      rintro e w1 ⟨rfl, hb1⟩
      have HB1 := Lib.hid (show Below w.heap.size w w1 from below_step hb1 ((Below.refl _ _).alloc (Nat.le_refl _) _) (by simp))
      clear hb1
      go_wp2_with fail
      refine (HF.out _).mono ?_
      rintro e w2 ⟨rfl, n1, rfl⟩
      go_wp2_with fail
      refine (HG.out _).mono ?_
      rintro e w2 ⟨rfl, n2, rfl⟩
      go_wp2_with fail
      exact bodyPost_ret (v := .tuple #[.float .f32 0, .int .i64 1]) (by simp [results, Try.results27, go_sem]) rfl ⟨rfl, below_drewN HB1.out _⟩
    · exact absurd rfl H

end Go.Proofs.Ytlmhibeimfkpiaa
