/- For every two arrays of three float32 and every int64, RampFields of the program hands back what RampFields of the specification does, the signs of zeros too: the law FnExactRampFields returns true, and its arguments read as before. Over what the law wants of both. -/
import Derived.Test.YtaghfffbhgpalaaRaL
import Derived.ProofKit
import Derived.OpenShut
namespace Go.Proofs.Ytaghfffbhgpalaa
open Go.ChangeShapes Go.WideShapes Go.ChangeAt Go.RowKit

/-- What the law wants of both. -/
def RampFieldsOk : Prop := ∀ (a b c a' b' c' : Nat) (n : Int), a < 4294967296 → b < 4294967296 → c < 4294967296 → a' < 4294967296 → b' < 4294967296 → c' < 4294967296 → (Lit.int .i64 n).wf = true →
  ∃ (m : Nat) (X : Nat → Nat) (code : Int), m ≤ 400 ∧ (∀ i, i < 3 * m → X i < 4294967296 ∧ fin (X i) = true) ∧ GivesR 5 a b c a' b' c' n m X code ∧ GivesR 7 a b c a' b' c' n m X code

namespace RampFields

theorem cellsV : Try.prog.cellsOf 23 = 3 := by kernel_rfl
theorem cellsF : Try.prog.cellsOf 22 = 1 := by kernel_rfl

theorem trod_float {H : Type} {enc : TypeId × Value → H} {P : Program} {w : World} {base : Nat} {spare : Nat → Bool} {held : Bool} {fuel : Nat} {t : TypeId} {k : FloatKind} {c : Value} {y : DataW H × List MemPlace} (ht : P.underlying t = some (.float k))
    (h : DataW.trod enc P w base spare held fuel t [c] = some y) : ∃ b, c = .float k b ∧ y = (.lit (.float k b), []) ∧ (Lit.float k b).wf = true := by
  cases fuel with
  | zero => simp [DataW.trod] at h
  | succ n =>
    unfold DataW.trod at h
    rw [ht] at h
    cases c <;> simp at h
    obtain ⟨⟨rfl, hw⟩, rfl⟩ := h
    exact ⟨_, rfl, rfl, hw⟩

theorem list3 {α : Type} (l : List α) (h : (⟨l⟩ : Array α).size = 3) : ∃ a b c, l = [a, b, c] := by
  match l, h with
  | [a, b, c], _ => exact ⟨a, b, c, rfl⟩

set_option maxRecDepth 100000 in
/-- An array of three float32 by value, opened. -/
theorem open_vec {H : Type} {enc : TypeId × Value → H} {w : World} {b0 : Nat} {base : Nat} {spare : Nat → Bool} {held : Bool} {v : Value} {d : DataW H} {ps : List MemPlace}
    (hv : Value.okWide Try.prog w .any b0 23 v) (hd : DataW.Trod enc Try.prog w base spare held 23 v d ps) :
    ∃ a b c : Nat, v = .agg #[.float .f32 a, .float .f32 b, .float .f32 c] ∧ d = .agg [.lit (.float .f32 a), .lit (.float .f32 b), .lit (.float .f32 c)] ∧ ps = [] ∧ (Lit.float .f32 a).wf = true ∧ (Lit.float .f32 b).wf = true ∧ (Lit.float .f32 c).wf = true := by
  obtain ⟨cs, rfl, hsz, _⟩ : ∃ cs, v = .agg cs ∧ cs.size = Try.prog.cellsOf 23 ∧ Row.okWide Try.prog w .any b0 23 cs := by
    simpa [Value.okWide, Try.underlying23] using hv
  rw [cellsV] at hsz
  obtain ⟨l⟩ := cs
  obtain ⟨c0, c1, c2, rfl⟩ := list3 l hsz
  obtain ⟨fuel, hf⟩ := hd
  obtain ⟨y0, y1, y2, m, hx, hy0, hy1, hy2⟩ := trod_array3 Try.underlying23 cellsF hf
  obtain ⟨a, rfl, rfl, wa⟩ := trod_float Try.underlying22 hy0
  obtain ⟨b, rfl, rfl, wb⟩ := trod_float Try.underlying22 hy1
  obtain ⟨c, rfl, rfl, wc⟩ := trod_float Try.underlying22 hy2
  simp only [Prod.mk.injEq] at hx
  exact ⟨a, b, c, rfl, hx.1, hx.2, wa, wb, wc⟩

theorem shut_vec {H : Type} {enc : TypeId × Value → H} {w : World} {base : Nat} {spare : Nat → Bool} {held : Bool} {a b c : Nat} (wa : (Lit.float .f32 a).wf = true) (wb : (Lit.float .f32 b).wf = true) (wc : (Lit.float .f32 c).wf = true) :
    DataW.Trod enc Try.prog w base spare held 23 (.agg #[.float .f32 a, .float .f32 b, .float .f32 c]) (.agg [.lit (.float .f32 a), .lit (.float .f32 b), .lit (.float .f32 c)]) [] :=
  ⟨2, by simp [DataW.trod, Value.cells, Try.underlying23, Try.underlying22, cellsV, cellsF, wa, wb, wc, show List.range 3 = [0, 1, 2] from rfl]⟩

theorem own : ownKnob Try.prog.godebug = none := by kernel_rfl

set_option maxRecDepth 100000 in
theorem lifted (HB : RampFieldsOk) (os : Os) (started : os.Started) (H : Type) (enc : TypeId × Value → H) :
    ReturnsInHanded {} Try.checked os 3 .any (Rows.fnExactRampFieldsSpec.pre6 enc Try.prog Try.f3 Rows.fnExactRampFieldsRow.domain false) (Rows.fnExactRampFieldsSpec.post enc Try.prog Try.f3 false true false false) := by
  refine returnsInHanded_of_change (C := Try.checked) own started (by kernel_rfl) Try.func3
    (ChangeSpec.witness6 (enc := enc) (C := Try.checked) false ⟨#[], #[.agg #[.float .f32 0, .float .f32 0, .float .f32 0], .agg #[.float .f32 0, .float .f32 0, .float .f32 0], .int .i64 0], []⟩ 8 (by kernel_rfl) (by kernel_rfl) (by kernel_rfl) (by kernel_rfl)) ?_
  intro W base args ds gs before hval0 hW hcnd _
  have hval : ∀ (j : Nat) t v, Try.f3.params[j]? = some t → args[j]? = some v → Value.okWide Try.prog W .any base t v := hval0
  have hW' := hW
  obtain ⟨p, q, hA0, hV, rfl, hfz, hnd⟩ := hW
  have hA : DataW.TrodAll enc Try.prog W 0 (fun _ => true) true Try.f3.params.toList args.toList ds p := hA0
  rw [Try.params3] at hA hval
  obtain ⟨v0, v1, v2, d0, d1, d2, p0, p1, p2, rfl, rfl, rfl, h0, h1, h2⟩ := trodAll_three hA
  obtain ⟨rfl, rfl⟩ := trodVars_none hV
  obtain ⟨a, b, c, rfl, rfl, rfl, wa, wb, wc⟩ := open_vec (hval 0 23 v0 rfl rfl) h0
  obtain ⟨a', b', c', rfl, rfl, rfl, wa', wb', wc'⟩ := open_vec (hval 1 23 v1 rfl rfl) h1
  obtain ⟨n, rfl, rfl, rfl, wn⟩ := open_int Try.underlying2 (hval 2 2 v2 rfl rfl) h2
  clear hA0 hval0
  simp only [List.append_nil] at hW'
  obtain ⟨m, X, code, hm, hX, SP, IM⟩ := HB a b c a' b' c' n (by simpa [Lit.wf] using wa) (by simpa [Lit.wf] using wb) (by simpa [Lit.wf] using wc) (by simpa [Lit.wf] using wa') (by simpa [Lit.wf] using wb') (by simpa [Lit.wf] using wc') wn
  refine (law_ramp hm hX SP IM W).mono fun e W' ⟨he, hb⟩ => ?_
  subst he
  exact ⟨_, rfl, _, _, _, [], _, [], hW', trodAll_mk1 (shut_bool Try.underlying4 _), trodAll_mk3 (shut_vec wa wb wc) (shut_vec wa' wb' wc') (shut_int Try.underlying2 wn), rfl, hb.frame _, fun h => by cases h⟩

theorem holds (HB : RampFieldsOk) : Rows.FnExactRampFieldsSaid :=
  OpenClaim.holds_of_wide 3 Try.f3 rfl rfl rfl rfl rfl rfl rfl ⟨rfl, rfl, rfl, rfl, rfl⟩ rfl rfl rfl rfl rfl (by kernel_rfl) Try.func3 (by kernel_rfl)
    (of_decide_eq_true (by kernel_rfl)) (by unfold Func.isWrapper; first | (rw [if_pos (by decide +kernel)]; kernel_rfl) | (rw [if_neg (by decide +kernel)]; exact ⟨rfl, rfl⟩))
    (fun os started H enc _ => lifted HB os started H enc)


end RampFields

end Go.Proofs.Ytaghfffbhgpalaa
