/- Walks: ErrorOfStep of the specification. For every array of three float32 and every float32, ErrorOfStep of the program hands back what ErrorOfStep of the specification does, the signs of zeros too: the law FnExactErrorOfStep returns true, and its arguments read as before. Over what the law wants of the program. -/
import Derived.Test.YtlmhibeimfkpiaaKbw
import Derived.Test.YtlmhibeimfkpiaaKad
import Derived.Test.YtlmhibeimfkpiaaKag
import Derived.ProofKit
import Derived.OpenShut
namespace Go.Proofs.Ytlmhibeimfkpiaa
open Go.RowKit

set_option maxRecDepth 100000 in
set_option maxHeartbeats 2000000 in
theorem specErr (a b c h : Nat) (w : World) (ha : a < 4294967296) (hb : b < 4294967296) (hc : c < 4294967296) (hh : h < 4294967296) :
    Calls Try.prog 24 #[.agg #[.float .f32 a, .float .f32 b, .float .f32 c], .float .f32 h] w fun e w' => e = .returned (errRes a b c h) ∧ Below w.heap.size w w' := by
  have HV := Lib.hid (fun w => l09Is_any a b c w ha hb hc)
  have HF := Lib.hid (fun w => fine_any h w hh)
  unfold errRes
  by_cases H : ((fin a && fin b && fin c) && fin h) = true
  · rw [if_pos H]
    obtain ⟨fa, fb, fc, fh⟩ := num_of H
    have HS := Lib.hid (fun w => l09Error_any ⟨ha, fa⟩ ⟨hb, fb⟩ ⟨hc, fc⟩ ⟨hh, fh⟩ w)
    obtain ⟨x, j, hres, _, _⟩ := errIn_form ⟨ha, fa⟩ ⟨hb, fb⟩ ⟨hc, fc⟩ ⟨hh, fh⟩
    rw [hres] at HS ⊢
    rw [fa, fb, fc] at HV
    rw [fh] at HF
    clear ha hb hc hh hres H fa fb fc fh
    simp only [Bool.and_self] at HV
    go_enter Try.func24, Try.ntmps24
    go_wp2_with fail
    refine (HV.out _).mono ?_
    rintro e w1 ⟨rfl, hb1⟩
    obtain ⟨hc1, hf1⟩ := bcell hb1
    have hz0 : w.heap.size < w1.heap.size := by have := hb1.size; simp at this; omega
    have c0 : w1.cell? ⟨w.heap.size, 0, none⟩ = some (.float .f32 a) := by simp [hc1, go_sem]
    have c1 : w1.cell? ⟨w.heap.size, 1, none⟩ = some (.float .f32 b) := by simp [hc1, go_sem]
    have c2 : w1.cell? ⟨w.heap.size, 2, none⟩ = some (.float .f32 c) := by simp [hc1, go_sem]
    have HB1 := Lib.hid (show Below w.heap.size w w1 from below_step hb1 ((Below.refl _ _).alloc (Nat.le_refl _) _) (by simp))
    clear hb1 hc1 hf1
    go_wp2_with fail
    refine (HF.out _).mono ?_
    rintro e w2 ⟨rfl, n1, rfl⟩
    go_wp2_with fail
    refine (HS.out _).mono ?_
    rintro e w2 ⟨rfl, hb2⟩
    have HB2 := Lib.hid (below_step hb2 (below_drewN HB1.out _) (by simp; omega))
    clear hb2 c0 c1 c2
    go_wp2_with fail
    exact bodyPost_ret (v := .tuple #[.float .f32 x, .int .i64 j]) (by simp [results, Try.results24, go_sem]) rfl ⟨rfl, HB2.out⟩
  · rw [if_neg H]
    generalize (fin a && fin b && fin c) = p at *
    generalize fin h = q at *
    clear ha hb hc hh
    cases p
    · go_enter Try.func24, Try.ntmps24
      go_wp2_with fail
      refine (HV.out _).mono ?_
      rintro e w1 ⟨rfl, hb1⟩
      have HB1 := Lib.hid (show Below w.heap.size w w1 from below_step hb1 ((Below.refl _ _).alloc (Nat.le_refl _) _) (by simp))
      clear hb1
      go_wp2_with fail
      exact bodyPost_ret (v := .tuple #[.float .f32 0, .int .i64 1]) (by simp [results, Try.results24, go_sem]) rfl ⟨rfl, HB1.out⟩
    cases q
    · go_enter Try.func24, Try.ntmps24
      go_wp2_with fail
      refine (HV.out _).mono ?_
      rintro e w1 ⟨rfl, hb1⟩
      have HB1 := Lib.hid (show Below w.heap.size w w1 from below_step hb1 ((Below.refl _ _).alloc (Nat.le_refl _) _) (by simp))
      clear hb1
      go_wp2_with fail
      refine (HF.out _).mono ?_
      rintro e w2 ⟨rfl, n1, rfl⟩
      go_wp2_with fail
      exact bodyPost_ret (v := .tuple #[.float .f32 0, .int .i64 1]) (by simp [results, Try.results24, go_sem]) rfl ⟨rfl, below_drewN HB1.out _⟩
    · exact absurd rfl H

end Go.Proofs.Ytlmhibeimfkpiaa

namespace Go.Proofs.Ytlmhibeimfkpiaa
open Go.ChangeShapes Go.WideShapes Go.ChangeAt Go.RowKit

/-- What the law wants of the program. -/
def ErrorOfStepOk : Prop := ∀ (a b c h : Nat) (w : World), a < 4294967296 → b < 4294967296 → c < 4294967296 → h < 4294967296 → Calls Try.prog 25 #[.agg #[.float .f32 a, .float .f32 b, .float .f32 c], .float .f32 h] w fun e w' => e = .returned (errRes a b c h) ∧ Below w.heap.size w w'

namespace ErrorOfStep

set_option maxRecDepth 100000 in
set_option maxHeartbeats 2000000 in
theorem law (H : ErrorOfStepOk) (a b c h : Nat) (w : World) (ha : a < 4294967296) (hb : b < 4294967296) (hc : c < 4294967296) (hh : h < 4294967296) :
    Calls Try.prog 7 #[.agg #[.float .f32 a, .float .f32 b, .float .f32 c], .float .f32 h] w fun e w' => e = .returned (.bool true) ∧ Below w.heap.size w w' := by
  have HI := Lib.hid (fun w => H a b c h w ha hb hc hh)
  have HS := Lib.hid (fun w => specErr a b c h w ha hb hc hh)
  obtain ⟨x, j, hres, hx, hf⟩ := errRes_form ha hb hc hh
  rw [hres] at HI HS
  obtain ⟨y, hy, hsame⟩ := same_word x hx hf
  have HY := Lib.hid hsame
  clear H hres hx hf ha hb hc hh hsame
  go_enter Try.func7, Try.ntmps7
  go_wp2_with fail
  refine (toVector_any _ _ _ _).mono ?_
  rintro e w1 ⟨rfl, hb1⟩
  obtain ⟨hc1, hf1⟩ := bcell hb1
  have hz1 : w.heap.size < w1.heap.size := by have := hb1.size; simp at this; omega
  have c0 : w1.cell? ⟨w.heap.size, 0, none⟩ = some (.float .f32 a) := by simp [hc1, go_sem]
  have c1 : w1.cell? ⟨w.heap.size, 1, none⟩ = some (.float .f32 b) := by simp [hc1, go_sem]
  have c2 : w1.cell? ⟨w.heap.size, 2, none⟩ = some (.float .f32 c) := by simp [hc1, go_sem]
  have HB1 := Lib.hid (show Below w.heap.size w w1 from below_step hb1 ((Below.refl _ _).alloc (Nat.le_refl _) _) (by simp))
  clear hb1 hc1 hf1
  go_wp2_with fail
  refine (HS.out _).mono ?_
  rintro e w2 ⟨rfl, hb2⟩
  obtain ⟨hc2, hf2⟩ := bcell hb2
  have hz2 : w.heap.size < w2.heap.size := by have := hb2.size; omega
  have d0 : w2.cell? ⟨w.heap.size, 0, none⟩ = some (.float .f32 a) := by rw [hc2 _ _ hz1]; exact c0
  have d1 : w2.cell? ⟨w.heap.size, 1, none⟩ = some (.float .f32 b) := by rw [hc2 _ _ hz1]; exact c1
  have d2 : w2.cell? ⟨w.heap.size, 2, none⟩ = some (.float .f32 c) := by rw [hc2 _ _ hz1]; exact c2
  have HB2 := Lib.hid (below_step hb2 HB1.out (by omega))
  clear hb2 hc2 hf2 c0 c1 c2 hz1
  go_wp2_with fail
  refine (toVector_any _ _ _ _).mono ?_
  rintro e w3 ⟨rfl, hb3⟩
  have hz3 : w.heap.size < w3.heap.size := by have := hb3.size;  omega
  have HB3 := Lib.hid (below_step hb3 (HB2.out) (by  omega))
  clear hb3 d0 d1 d2
  go_wp2_with fail
  refine (HI.out _).mono ?_
  rintro e w4 ⟨rfl, hb4⟩
  have HB4 := Lib.hid (below_step hb4 HB3.out (by omega))
  have hz4 : w.heap.size < w4.heap.size := by have := hb4.size; omega
  clear hb4
  go_wp2_with fail
  refine (HY.out _).mono ?_
  rintro e w' ⟨rfl, rfl⟩
  go_wp2_with fail
  go_ret
  exact ⟨rfl, HB4.out⟩

theorem cellsV : Try.prog.cellsOf 23 = 3 := by kernel_rfl
theorem cellsF : Try.prog.cellsOf 22 = 1 := by kernel_rfl

theorem trod_float {H : Type} {enc : TypeId × Value → H} {P : Program} {w : World} {base : Nat} {spare : Nat → Bool} {held : Bool} {fuel : Nat} {t : TypeId} {k : FloatKind} {c : Value} {y : DataW H × List MemPlace} (ht : P.underlying t = some (.float k))
    (h : DataW.trod enc P w base spare held fuel t [c] = some y) : ∃ b, c = .float k b ∧ y = (.lit (.float k b), []) ∧ (Lit.float k b).wf = true := by
  cases fuel with
  | zero => simp [DataW.trod] at h
  | succ n =>
    unfold DataW.trod at h
    rw [ht] at h
    cases c <;> simp at h
    obtain ⟨⟨rfl, hw⟩, rfl⟩ := h
    exact ⟨_, rfl, rfl, hw⟩

theorem list3 {α : Type} (l : List α) (h : (⟨l⟩ : Array α).size = 3) : ∃ a b c, l = [a, b, c] := by
  match l, h with
  | [a, b, c], _ => exact ⟨a, b, c, rfl⟩

set_option maxRecDepth 100000 in
/-- An array of three float32 by value, opened. -/
theorem open_vec {H : Type} {enc : TypeId × Value → H} {w : World} {b0 : Nat} {base : Nat} {spare : Nat → Bool} {held : Bool} {v : Value} {d : DataW H} {ps : List MemPlace}
    (hv : Value.okWide Try.prog w .any b0 23 v) (hd : DataW.Trod enc Try.prog w base spare held 23 v d ps) :
    ∃ a b c : Nat, v = .agg #[.float .f32 a, .float .f32 b, .float .f32 c] ∧ d = .agg [.lit (.float .f32 a), .lit (.float .f32 b), .lit (.float .f32 c)] ∧ ps = [] ∧ (Lit.float .f32 a).wf = true ∧ (Lit.float .f32 b).wf = true ∧ (Lit.float .f32 c).wf = true := by
  obtain ⟨cs, rfl, hsz, _⟩ : ∃ cs, v = .agg cs ∧ cs.size = Try.prog.cellsOf 23 ∧ Row.okWide Try.prog w .any b0 23 cs := by
    simpa [Value.okWide, Try.underlying23] using hv
  rw [cellsV] at hsz
  obtain ⟨l⟩ := cs
  obtain ⟨c0, c1, c2, rfl⟩ := list3 l hsz
  obtain ⟨fuel, hf⟩ := hd
  obtain ⟨y0, y1, y2, m, hx, hy0, hy1, hy2⟩ := trod_array3 Try.underlying23 cellsF hf
  obtain ⟨a, rfl, rfl, wa⟩ := trod_float Try.underlying22 hy0
  obtain ⟨b, rfl, rfl, wb⟩ := trod_float Try.underlying22 hy1
  obtain ⟨c, rfl, rfl, wc⟩ := trod_float Try.underlying22 hy2
  simp only [Prod.mk.injEq] at hx
  exact ⟨a, b, c, rfl, hx.1, hx.2, wa, wb, wc⟩

theorem shut_vec {H : Type} {enc : TypeId × Value → H} {w : World} {base : Nat} {spare : Nat → Bool} {held : Bool} {a b c : Nat} (wa : (Lit.float .f32 a).wf = true) (wb : (Lit.float .f32 b).wf = true) (wc : (Lit.float .f32 c).wf = true) :
    DataW.Trod enc Try.prog w base spare held 23 (.agg #[.float .f32 a, .float .f32 b, .float .f32 c]) (.agg [.lit (.float .f32 a), .lit (.float .f32 b), .lit (.float .f32 c)]) [] :=
  ⟨2, by simp [DataW.trod, Value.cells, Try.underlying23, Try.underlying22, cellsV, cellsF, wa, wb, wc, show List.range 3 = [0, 1, 2] from rfl]⟩

theorem own : ownKnob Try.prog.godebug = none := by kernel_rfl

set_option maxRecDepth 100000 in
theorem lifted (HB : ErrorOfStepOk) (os : Os) (started : os.Started) (H : Type) (enc : TypeId × Value → H) :
    ReturnsInHanded {} Try.checked os 7 .any (Rows.fnExactErrorOfStepSpec.pre6 enc Try.prog Try.f7 Rows.fnExactErrorOfStepRow.domain false) (Rows.fnExactErrorOfStepSpec.post enc Try.prog Try.f7 false true false false) := by
  refine returnsInHanded_of_change (C := Try.checked) own started (by kernel_rfl) Try.func7
    (ChangeSpec.witness6 (enc := enc) (C := Try.checked) false ⟨#[], #[.agg #[.float .f32 0, .float .f32 0, .float .f32 0], .float .f32 0], []⟩ 8 (by kernel_rfl) (by kernel_rfl) (by kernel_rfl) (by kernel_rfl)) ?_
  intro W base args ds gs before hval0 hW hcnd _
  have hval : ∀ (j : Nat) t v, Try.f7.params[j]? = some t → args[j]? = some v → Value.okWide Try.prog W .any base t v := hval0
  have hW' := hW
  obtain ⟨p, q, hA0, hV, rfl, hfz, hnd⟩ := hW
  have hA : DataW.TrodAll enc Try.prog W 0 (fun _ => true) true Try.f7.params.toList args.toList ds p := hA0
  rw [Try.params7] at hA hval
  obtain ⟨v0, v1, d0, d1, p0, p1, rfl, rfl, rfl, h0, h1⟩ := trodAll_two hA
  obtain ⟨rfl, rfl⟩ := trodVars_none hV
  obtain ⟨a, b, c, rfl, rfl, rfl, wa, wb, wc⟩ := open_vec (hval 0 23 v0 rfl rfl) h0
  obtain ⟨h, rfl, rfl, rfl, wh⟩ := open_float Try.underlying22 (hval 1 22 v1 rfl rfl) h1
  clear hA0 hval0
  simp only [List.append_nil] at hW'
  refine (law HB a b c h W (by simpa [Lit.wf] using wa) (by simpa [Lit.wf] using wb) (by simpa [Lit.wf] using wc) (by simpa [Lit.wf] using wh)).mono fun e W' ⟨he, hb⟩ => ?_
  subst he
  exact ⟨_, rfl, _, _, _, [], _, [], hW', trodAll_mk1 (shut_bool Try.underlying4 _), trodAll_mk2 (shut_vec wa wb wc) (shut_float Try.underlying22 wh), rfl, hb.frame _, fun h => by cases h⟩

theorem holds (HB : ErrorOfStepOk) : Rows.FnExactErrorOfStepSaid :=
  OpenClaim.holds_of_wide 7 Try.f7 rfl rfl rfl rfl rfl rfl rfl ⟨rfl, rfl, rfl, rfl, rfl⟩ rfl rfl rfl rfl rfl (by kernel_rfl) Try.func7 (by kernel_rfl)
    (of_decide_eq_true (by kernel_rfl)) (by unfold Func.isWrapper; first | (rw [if_pos (by decide +kernel)]; kernel_rfl) | (rw [if_neg (by decide +kernel)]; exact ⟨rfl, rfl⟩))
    (fun os started H enc _ => lifted HB os started H enc)


end ErrorOfStep

end Go.Proofs.Ytlmhibeimfkpiaa
