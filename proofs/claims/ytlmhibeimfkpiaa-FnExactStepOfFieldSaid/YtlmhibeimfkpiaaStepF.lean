/- For every array of three float32 and every float32, StepOfField of the program hands back what StepOfField of the specification does, the signs of zeros too: the law FnExactStepOfField returns true, and its arguments read as before. Over what the law wants of the program. -/
import Derived.Test.YtlmhibeimfkpiaaG3
import Derived.Test.YtlmhibeimfkpiaaKbm
import Derived.Test.YtlmhibeimfkpiaaKad
import Derived.ProofKit
import Derived.OpenShut
namespace Go.Proofs.Ytlmhibeimfkpiaa
open Go.ChangeShapes Go.WideShapes Go.ChangeAt Go.RowKit

/-- What the law wants of the program. -/
def StepOfFieldOk : Prop := ∀ (a b c h : Nat) (w : World), a < 4294967296 → b < 4294967296 → c < 4294967296 → h < 4294967296 → Calls Try.prog 15 #[.agg #[.float .f32 a, .float .f32 b, .float .f32 c], .float .f32 h] w fun e w' => e = .returned (stepRes a b c h) ∧ Below w.heap.size w w'

namespace StepOfField

set_option maxRecDepth 100000 in
set_option maxHeartbeats 2000000 in
theorem law (H : StepOfFieldOk) (a b c h : Nat) (w : World) (ha : a < 4294967296) (hb : b < 4294967296) (hc : c < 4294967296) (hh : h < 4294967296) :
    Calls Try.prog 4 #[.agg #[.float .f32 a, .float .f32 b, .float .f32 c], .float .f32 h] w fun e w' => e = .returned (.bool true) ∧ Below w.heap.size w w' := by
  have HI := Lib.hid (fun w => H a b c h w ha hb hc hh)
  have HS := Lib.hid (fun w => specStep a b c h w ha hb hc hh)
  obtain ⟨v, j, a0, b0, a1, b1, a2, b2, a3, b3, hres, rfl, g0, k0, g1, k1, g2, k2, g3, k3⟩ := stepRes_form ha hb hc hh
  rw [hres] at HI HS
  have HE := Lib.hid (fun w => eqTurn_any a0 b0 a1 b1 a2 b2 a3 b3 w g0 k0 g1 k1 g2 k2 g3 k3)
  clear H hres ha hb hc hh g0 k0 g1 k1 g2 k2 g3 k3
  go_enter Try.func4, Try.ntmps4
  go_wp2_with fail
  refine (toVector_any _ _ _ _).mono ?_
  rintro e w1 ⟨rfl, hb1⟩
  obtain ⟨hc1, hf1⟩ := bcell hb1
  have hz1 : w.heap.size < w1.heap.size := by have := hb1.size; simp at this; omega
  have c0 : w1.cell? ⟨w.heap.size, 0, none⟩ = some (.float .f32 a) := by simp [hc1, go_sem]
  have c1 : w1.cell? ⟨w.heap.size, 1, none⟩ = some (.float .f32 b) := by simp [hc1, go_sem]
  have c2 : w1.cell? ⟨w.heap.size, 2, none⟩ = some (.float .f32 c) := by simp [hc1, go_sem]
  have HB1 := Lib.hid (show Below w.heap.size w w1 from below_step hb1 ((Below.refl _ _).alloc (Nat.le_refl _) _) (by simp))
  clear hb1 hc1 hf1
  go_wp2_with fail
  refine (HS.out _).mono ?_
  rintro e w2 ⟨rfl, hb2⟩
  obtain ⟨hc2, hf2⟩ := bcell hb2
  have hz2 : w.heap.size < w2.heap.size := by have := hb2.size; omega
  have d0 : w2.cell? ⟨w.heap.size, 0, none⟩ = some (.float .f32 a) := by rw [hc2 _ _ hz1]; exact c0
  have d1 : w2.cell? ⟨w.heap.size, 1, none⟩ = some (.float .f32 b) := by rw [hc2 _ _ hz1]; exact c1
  have d2 : w2.cell? ⟨w.heap.size, 2, none⟩ = some (.float .f32 c) := by rw [hc2 _ _ hz1]; exact c2
  have HB2 := Lib.hid (below_step hb2 HB1.out (by omega))
  clear hb2 hc2 hf2 c0 c1 c2 hz1
  go_wp2_with fail
  refine (toVector_any _ _ _ _).mono ?_
  rintro e w3 ⟨rfl, hb3⟩
  obtain ⟨hc3, hf3⟩ := bcell hb3
  have hy3 : w2.heap.size < w3.heap.size := by have := hb3.size; simp at this; omega
  have q0 : w3.cell? ⟨w2.heap.size, 0, none⟩ = some (.complex .f32 a0 b0) := by rw [hc3 _ _ (by simp)]; simp [go_sem]
  have q1 : w3.cell? ⟨w2.heap.size, 1, none⟩ = some (.complex .f32 a1 b1) := by rw [hc3 _ _ (by simp)]; simp [go_sem]
  have q2 : w3.cell? ⟨w2.heap.size, 2, none⟩ = some (.complex .f32 a2 b2) := by rw [hc3 _ _ (by simp)]; simp [go_sem]
  have q3 : w3.cell? ⟨w2.heap.size, 3, none⟩ = some (.complex .f32 a3 b3) := by rw [hc3 _ _ (by simp)]; simp [go_sem]
  have hz3 : w.heap.size < w3.heap.size := by have := hb3.size; simp at this; omega
  have HB3 := Lib.hid (below_step hb3 (HB2.out.alloc (by omega) _) (by simp; omega))
  clear hb3 d0 d1 d2
  go_wp2_with fail
  refine (HI.out _).mono ?_
  rintro e w4 ⟨rfl, hb4⟩
  obtain ⟨hc4, hf4⟩ := bcell hb4
  have hy4 : w2.heap.size < w4.heap.size := by have := hb4.size; omega
  have r0 : w4.cell? ⟨w2.heap.size, 0, none⟩ = some (.complex .f32 a0 b0) := by rw [hc4 _ _ hy3]; exact q0
  have r1 : w4.cell? ⟨w2.heap.size, 1, none⟩ = some (.complex .f32 a1 b1) := by rw [hc4 _ _ hy3]; exact q1
  have r2 : w4.cell? ⟨w2.heap.size, 2, none⟩ = some (.complex .f32 a2 b2) := by rw [hc4 _ _ hy3]; exact q2
  have r3 : w4.cell? ⟨w2.heap.size, 3, none⟩ = some (.complex .f32 a3 b3) := by rw [hc4 _ _ hy3]; exact q3
  clear q0 q1 q2 q3 hc4 hf4 hc3 hf3
  have HB4 := Lib.hid (below_step hb4 HB3.out (by omega))
  have hz4 : w.heap.size < w4.heap.size := by have := hb4.size; omega
  clear hb4
  go_wp2_with fail
  refine (HE.out _).mono ?_
  rintro e w5 ⟨rfl, hb5⟩
  have HB5 := Lib.hid hb5
  clear hb5
  go_wp2_with fail
  go_ret
  refine ⟨rfl, ?_⟩
  refine below_step HB5.out ?_ ?_
  all_goals repeat first
    | exact HB4.out
    | refine Below.setCell ?_ ?_ _
    | refine Below.alloc ?_ ?_ _
  all_goals first | omega | (simp; done) | (simp; omega)

theorem cellsV : Try.prog.cellsOf 23 = 3 := by kernel_rfl
theorem cellsF : Try.prog.cellsOf 22 = 1 := by kernel_rfl

theorem trod_float {H : Type} {enc : TypeId × Value → H} {P : Program} {w : World} {base : Nat} {spare : Nat → Bool} {held : Bool} {fuel : Nat} {t : TypeId} {k : FloatKind} {c : Value} {y : DataW H × List MemPlace} (ht : P.underlying t = some (.float k))
    (h : DataW.trod enc P w base spare held fuel t [c] = some y) : ∃ b, c = .float k b ∧ y = (.lit (.float k b), []) ∧ (Lit.float k b).wf = true := by
  cases fuel with
  | zero => simp [DataW.trod] at h
  | succ n =>
    unfold DataW.trod at h
    rw [ht] at h
    cases c <;> simp at h
    obtain ⟨⟨rfl, hw⟩, rfl⟩ := h
    exact ⟨_, rfl, rfl, hw⟩

theorem list3 {α : Type} (l : List α) (h : (⟨l⟩ : Array α).size = 3) : ∃ a b c, l = [a, b, c] := by
  match l, h with
  | [a, b, c], _ => exact ⟨a, b, c, rfl⟩

set_option maxRecDepth 100000 in
/-- An array of three float32 by value, opened. -/
theorem open_vec {H : Type} {enc : TypeId × Value → H} {w : World} {b0 : Nat} {base : Nat} {spare : Nat → Bool} {held : Bool} {v : Value} {d : DataW H} {ps : List MemPlace}
    (hv : Value.okWide Try.prog w .any b0 23 v) (hd : DataW.Trod enc Try.prog w base spare held 23 v d ps) :
    ∃ a b c : Nat, v = .agg #[.float .f32 a, .float .f32 b, .float .f32 c] ∧ d = .agg [.lit (.float .f32 a), .lit (.float .f32 b), .lit (.float .f32 c)] ∧ ps = [] ∧ (Lit.float .f32 a).wf = true ∧ (Lit.float .f32 b).wf = true ∧ (Lit.float .f32 c).wf = true := by
  obtain ⟨cs, rfl, hsz, _⟩ : ∃ cs, v = .agg cs ∧ cs.size = Try.prog.cellsOf 23 ∧ Row.okWide Try.prog w .any b0 23 cs := by
    simpa [Value.okWide, Try.underlying23] using hv
  rw [cellsV] at hsz
  obtain ⟨l⟩ := cs
  obtain ⟨c0, c1, c2, rfl⟩ := list3 l hsz
  obtain ⟨fuel, hf⟩ := hd
  obtain ⟨y0, y1, y2, m, hx, hy0, hy1, hy2⟩ := trod_array3 Try.underlying23 cellsF hf
  obtain ⟨a, rfl, rfl, wa⟩ := trod_float Try.underlying22 hy0
  obtain ⟨b, rfl, rfl, wb⟩ := trod_float Try.underlying22 hy1
  obtain ⟨c, rfl, rfl, wc⟩ := trod_float Try.underlying22 hy2
  simp only [Prod.mk.injEq] at hx
  exact ⟨a, b, c, rfl, hx.1, hx.2, wa, wb, wc⟩

theorem shut_vec {H : Type} {enc : TypeId × Value → H} {w : World} {base : Nat} {spare : Nat → Bool} {held : Bool} {a b c : Nat} (wa : (Lit.float .f32 a).wf = true) (wb : (Lit.float .f32 b).wf = true) (wc : (Lit.float .f32 c).wf = true) :
    DataW.Trod enc Try.prog w base spare held 23 (.agg #[.float .f32 a, .float .f32 b, .float .f32 c]) (.agg [.lit (.float .f32 a), .lit (.float .f32 b), .lit (.float .f32 c)]) [] :=
  ⟨2, by simp [DataW.trod, Value.cells, Try.underlying23, Try.underlying22, cellsV, cellsF, wa, wb, wc, show List.range 3 = [0, 1, 2] from rfl]⟩

theorem own : ownKnob Try.prog.godebug = none := by kernel_rfl

set_option maxRecDepth 100000 in
theorem lifted (HB : StepOfFieldOk) (os : Os) (started : os.Started) (H : Type) (enc : TypeId × Value → H) :
    ReturnsInHanded {} Try.checked os 4 .any (Rows.fnExactStepOfFieldSpec.pre6 enc Try.prog Try.f4 Rows.fnExactStepOfFieldRow.domain false) (Rows.fnExactStepOfFieldSpec.post enc Try.prog Try.f4 false true false false) := by
  refine returnsInHanded_of_change (C := Try.checked) own started (by kernel_rfl) Try.func4
    (ChangeSpec.witness6 (enc := enc) (C := Try.checked) false ⟨#[], #[.agg #[.float .f32 0, .float .f32 0, .float .f32 0], .float .f32 0], []⟩ 8 (by kernel_rfl) (by kernel_rfl) (by kernel_rfl) (by kernel_rfl)) ?_
  intro W base args ds gs before hval0 hW hcnd _
  have hval : ∀ (j : Nat) t v, Try.f4.params[j]? = some t → args[j]? = some v → Value.okWide Try.prog W .any base t v := hval0
  have hW' := hW
  obtain ⟨p, q, hA0, hV, rfl, hfz, hnd⟩ := hW
  have hA : DataW.TrodAll enc Try.prog W 0 (fun _ => true) true Try.f4.params.toList args.toList ds p := hA0
  rw [Try.params4] at hA hval
  obtain ⟨v0, v1, d0, d1, p0, p1, rfl, rfl, rfl, h0, h1⟩ := trodAll_two hA
  obtain ⟨rfl, rfl⟩ := trodVars_none hV
  obtain ⟨a, b, c, rfl, rfl, rfl, wa, wb, wc⟩ := open_vec (hval 0 23 v0 rfl rfl) h0
  obtain ⟨h, rfl, rfl, rfl, wh⟩ := open_float Try.underlying22 (hval 1 22 v1 rfl rfl) h1
  clear hA0 hval0
  simp only [List.append_nil] at hW'
  refine (law HB a b c h W (by simpa [Lit.wf] using wa) (by simpa [Lit.wf] using wb) (by simpa [Lit.wf] using wc) (by simpa [Lit.wf] using wh)).mono fun e W' ⟨he, hb⟩ => ?_
  subst he
  exact ⟨_, rfl, _, _, _, [], _, [], hW', trodAll_mk1 (shut_bool Try.underlying4 _), trodAll_mk2 (shut_vec wa wb wc) (shut_float Try.underlying22 wh), rfl, hb.frame _, fun h => by cases h⟩

theorem holds (HB : StepOfFieldOk) : Rows.FnExactStepOfFieldSaid :=
  OpenClaim.holds_of_wide 4 Try.f4 rfl rfl rfl rfl rfl rfl rfl ⟨rfl, rfl, rfl, rfl, rfl⟩ rfl rfl rfl rfl rfl (by kernel_rfl) Try.func4 (by kernel_rfl)
    (of_decide_eq_true (by kernel_rfl)) (by unfold Func.isWrapper; first | (rw [if_pos (by decide +kernel)]; kernel_rfl) | (rw [if_neg (by decide +kernel)]; exact ⟨rfl, rfl⟩))
    (fun os started H enc _ => lifted HB os started H enc)


end StepOfField

end Go.Proofs.Ytlmhibeimfkpiaa
