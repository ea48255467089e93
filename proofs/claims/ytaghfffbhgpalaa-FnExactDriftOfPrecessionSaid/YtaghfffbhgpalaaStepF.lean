/- For every array of three float32 and every float32, StepOfField of the program hands back what StepOfField of the specification does, the signs of zeros too: the law FnExactStepOfField returns true, and its arguments read as before. Over what the law wants of the program. -/
import Derived.Test.YtaghfffbhgpalaaKbm
import Derived.Test.YtaghfffbhgpalaaKal
import Derived.ProofKit
import Derived.OpenShut
namespace Go.Proofs.Ytaghfffbhgpalaa
open Go.ChangeShapes Go.WideShapes Go.ChangeAt Go.RowKit

namespace StepOfField

theorem cellsV : Try.prog.cellsOf 23 = 3 := by kernel_rfl
theorem cellsF : Try.prog.cellsOf 22 = 1 := by kernel_rfl

theorem trod_float {H : Type} {enc : TypeId × Value → H} {P : Program} {w : World} {base : Nat} {spare : Nat → Bool} {held : Bool} {fuel : Nat} {t : TypeId} {k : FloatKind} {c : Value} {y : DataW H × List MemPlace} (ht : P.underlying t = some (.float k))
    (h : DataW.trod enc P w base spare held fuel t [c] = some y) : ∃ b, c = .float k b ∧ y = (.lit (.float k b), []) ∧ (Lit.float k b).wf = true := by
  cases fuel with
  | zero => simp [DataW.trod] at h
  | succ n =>
    unfold DataW.trod at h
    rw [ht] at h
    cases c <;> simp at h
    obtain ⟨⟨rfl, hw⟩, rfl⟩ := h
    exact ⟨_, rfl, rfl, hw⟩

theorem list3 {α : Type} (l : List α) (h : (⟨l⟩ : Array α).size = 3) : ∃ a b c, l = [a, b, c] := by
  match l, h with
  | [a, b, c], _ => exact ⟨a, b, c, rfl⟩

set_option maxRecDepth 100000 in
/-- An array of three float32 by value, opened. -/
theorem open_vec {H : Type} {enc : TypeId × Value → H} {w : World} {b0 : Nat} {base : Nat} {spare : Nat → Bool} {held : Bool} {v : Value} {d : DataW H} {ps : List MemPlace}
    (hv : Value.okWide Try.prog w .any b0 23 v) (hd : DataW.Trod enc Try.prog w base spare held 23 v d ps) :
    ∃ a b c : Nat, v = .agg #[.float .f32 a, .float .f32 b, .float .f32 c] ∧ d = .agg [.lit (.float .f32 a), .lit (.float .f32 b), .lit (.float .f32 c)] ∧ ps = [] ∧ (Lit.float .f32 a).wf = true ∧ (Lit.float .f32 b).wf = true ∧ (Lit.float .f32 c).wf = true := by
  obtain ⟨cs, rfl, hsz, _⟩ : ∃ cs, v = .agg cs ∧ cs.size = Try.prog.cellsOf 23 ∧ Row.okWide Try.prog w .any b0 23 cs := by
    simpa [Value.okWide, Try.underlying23] using hv
  rw [cellsV] at hsz
  obtain ⟨l⟩ := cs
  obtain ⟨c0, c1, c2, rfl⟩ := list3 l hsz
  obtain ⟨fuel, hf⟩ := hd
  obtain ⟨y0, y1, y2, m, hx, hy0, hy1, hy2⟩ := trod_array3 Try.underlying23 cellsF hf
  obtain ⟨a, rfl, rfl, wa⟩ := trod_float Try.underlying22 hy0
  obtain ⟨b, rfl, rfl, wb⟩ := trod_float Try.underlying22 hy1
  obtain ⟨c, rfl, rfl, wc⟩ := trod_float Try.underlying22 hy2
  simp only [Prod.mk.injEq] at hx
  exact ⟨a, b, c, rfl, hx.1, hx.2, wa, wb, wc⟩

theorem shut_vec {H : Type} {enc : TypeId × Value → H} {w : World} {base : Nat} {spare : Nat → Bool} {held : Bool} {a b c : Nat} (wa : (Lit.float .f32 a).wf = true) (wb : (Lit.float .f32 b).wf = true) (wc : (Lit.float .f32 c).wf = true) :
    DataW.Trod enc Try.prog w base spare held 23 (.agg #[.float .f32 a, .float .f32 b, .float .f32 c]) (.agg [.lit (.float .f32 a), .lit (.float .f32 b), .lit (.float .f32 c)]) [] :=
  ⟨2, by simp [DataW.trod, Value.cells, Try.underlying23, Try.underlying22, cellsV, cellsF, wa, wb, wc, show List.range 3 = [0, 1, 2] from rfl]⟩

theorem own : ownKnob Try.prog.godebug = none := by kernel_rfl


end StepOfField

end Go.Proofs.Ytaghfffbhgpalaa
