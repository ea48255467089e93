/-
  No cell of these rows narrows 'for every input' (looked for: loops, veiled, ifaces, maps, wideKeys, modest, calm, conditions, laid).
  DERIVED. THE GIVEN ROWS OF THIS SEAT. 7 by the template 'for every input the law returns true; each argument reads behind the call as it read before'; 0 by the template 'total and deterministic' (their statements: YtlmhibeimfkpiaaTotals.lean).
  GIVEN WITH THE SEED: the statements are not yours to turn. If you find one false, say at which input.
  Laid BY PROGRAM, IN A SANDBOX (cutbox-rows.mjs): the forced cells as the released guide's own fill.sh prints them over the translation 9eeb337b5b2d40be… (all of the seat's roots in one cut). By AI agents, Wed Nov 11 2026. No macro, syntax, notation, axiom, sorry.
-/
import Derived.Test.YtlmhibeimfkpiaaChecked
import GoSem.Claim
import GoSem.ClaimJoined
import GoSem.ClaimMapViews
import Derived.JoinedTies
import Derived.KernelRfl
namespace Go.Proofs.Ytlmhibeimfkpiaa
/- THE CELL 'sum', in the pinned program and in every row, IS THE sha256 OF THE DUMP (.gsa) THAT YtlmhibeimfkpiaaProg.lean LOADS. Nothing in Lean hashes anything: it is a label: what it is worth is what the hold of that sum in a sandbox is worth. -/
noncomputable def Try.pinned : Pinned := { name := "ytlmhibeimfkpiaa", sum := "9eeb337b5b2d40be2564ef1ca25677639cedfd3714834c5e89614ab6365e6bb7", checked := Try.checked }
namespace Rows
def none {H : Type} : Left H := { results := [], args := [] }

/-- 'laws.FnExactCrossOfVectors': WHATEVER THE INPUT: true; the input reads as it did. -/
def fnExactCrossOfVectorsSpec : ChangeSpec := { name := "fnExactCrossOfVectors", fn := fun _ => fun
  | [d1, d2] => { results := [.lit (.bool true)], args := [d1, d2] }
  | _ => none }
def fnExactCrossOfVectorsRow : OpenClaim := { program := "ytlmhibeimfkpiaa", sum := "9eeb337b5b2d40be2564ef1ca25677639cedfd3714834c5e89614ab6365e6bb7", func := "loop.example/g01214/laws.FnExactCrossOfVectors", spec := "fnExactCrossOfVectors", apart := false }
def FnExactCrossOfVectorsSaid : Prop := fnExactCrossOfVectorsRow.holds Try.pinned (OpenSpec.ofChange fnExactCrossOfVectorsSpec)

/-- ITS FALSE NEIGHBOUR: 'it returns false'. Refute it at one input. -/
def fnExactCrossOfVectorsWrong : ChangeSpec := { name := "fnExactCrossOfVectors", fn := fun _ => fun
  | [d1, d2] => { results := [.lit (.bool false)], args := [d1, d2] }
  | _ => none }
def FnExactCrossOfVectorsWrongFalsely : Prop := fnExactCrossOfVectorsRow.holds Try.pinned (OpenSpec.ofChange fnExactCrossOfVectorsWrong)

/-- 'laws.FnExactStepOfField': WHATEVER THE INPUT: true; the input reads as it did. -/
def fnExactStepOfFieldSpec : ChangeSpec := { name := "fnExactStepOfField", fn := fun _ => fun
  | [d1, d2] => { results := [.lit (.bool true)], args := [d1, d2] }
  | _ => none }
def fnExactStepOfFieldRow : OpenClaim := { program := "ytlmhibeimfkpiaa", sum := "9eeb337b5b2d40be2564ef1ca25677639cedfd3714834c5e89614ab6365e6bb7", func := "loop.example/g01214/laws.FnExactStepOfField", spec := "fnExactStepOfField", inPlace := ["math.Float32bits"], unfollowed := true, recurses := true, apart := false }
def FnExactStepOfFieldSaid : Prop := fnExactStepOfFieldRow.holds Try.pinned (OpenSpec.ofChange fnExactStepOfFieldSpec)

/-- ITS FALSE NEIGHBOUR: 'it returns false'. Refute it at one input. -/
def fnExactStepOfFieldWrong : ChangeSpec := { name := "fnExactStepOfField", fn := fun _ => fun
  | [d1, d2] => { results := [.lit (.bool false)], args := [d1, d2] }
  | _ => none }
def FnExactStepOfFieldWrongFalsely : Prop := fnExactStepOfFieldRow.holds Try.pinned (OpenSpec.ofChange fnExactStepOfFieldWrong)

/-- 'laws.FnExactSplitStep': WHATEVER THE INPUT: true; the input reads as it did. -/
def fnExactSplitStepSpec : ChangeSpec := { name := "fnExactSplitStep", fn := fun _ => fun
  | [d1, d2] => { results := [.lit (.bool true)], args := [d1, d2] }
  | _ => none }
def fnExactSplitStepRow : OpenClaim := { program := "ytlmhibeimfkpiaa", sum := "9eeb337b5b2d40be2564ef1ca25677639cedfd3714834c5e89614ab6365e6bb7", func := "loop.example/g01214/laws.FnExactSplitStep", spec := "fnExactSplitStep", inPlace := ["math.Float32bits"], unfollowed := true, recurses := true, apart := false }
def FnExactSplitStepSaid : Prop := fnExactSplitStepRow.holds Try.pinned (OpenSpec.ofChange fnExactSplitStepSpec)

/-- ITS FALSE NEIGHBOUR: 'it returns false'. Refute it at one input. -/
def fnExactSplitStepWrong : ChangeSpec := { name := "fnExactSplitStep", fn := fun _ => fun
  | [d1, d2] => { results := [.lit (.bool false)], args := [d1, d2] }
  | _ => none }
def FnExactSplitStepWrongFalsely : Prop := fnExactSplitStepRow.holds Try.pinned (OpenSpec.ofChange fnExactSplitStepWrong)

/-- 'laws.FnExactRampFields': WHATEVER THE INPUT: true; the input reads as it did. -/
def fnExactRampFieldsSpec : ChangeSpec := { name := "fnExactRampFields", fn := fun _ => fun
  | [d1, d2, d3] => { results := [.lit (.bool true)], args := [d1, d2, d3] }
  | _ => none }
def fnExactRampFieldsRow : OpenClaim := { program := "ytlmhibeimfkpiaa", sum := "9eeb337b5b2d40be2564ef1ca25677639cedfd3714834c5e89614ab6365e6bb7", func := "loop.example/g01214/laws.FnExactRampFields", spec := "fnExactRampFields", apart := false }
def FnExactRampFieldsSaid : Prop := fnExactRampFieldsRow.holds Try.pinned (OpenSpec.ofChange fnExactRampFieldsSpec)

/-- ITS FALSE NEIGHBOUR: 'it returns false'. Refute it at one input. -/
def fnExactRampFieldsWrong : ChangeSpec := { name := "fnExactRampFields", fn := fun _ => fun
  | [d1, d2, d3] => { results := [.lit (.bool false)], args := [d1, d2, d3] }
  | _ => none }
def FnExactRampFieldsWrongFalsely : Prop := fnExactRampFieldsRow.holds Try.pinned (OpenSpec.ofChange fnExactRampFieldsWrong)

/-- 'laws.FnExactErrorOfStep': WHATEVER THE INPUT: true; the input reads as it did. -/
def fnExactErrorOfStepSpec : ChangeSpec := { name := "fnExactErrorOfStep", fn := fun _ => fun
  | [d1, d2] => { results := [.lit (.bool true)], args := [d1, d2] }
  | _ => none }
def fnExactErrorOfStepRow : OpenClaim := { program := "ytlmhibeimfkpiaa", sum := "9eeb337b5b2d40be2564ef1ca25677639cedfd3714834c5e89614ab6365e6bb7", func := "loop.example/g01214/laws.FnExactErrorOfStep", spec := "fnExactErrorOfStep", inPlace := ["math.Float32bits", "math.Float32frombits"], unfollowed := true, recurses := true, apart := false }
def FnExactErrorOfStepSaid : Prop := fnExactErrorOfStepRow.holds Try.pinned (OpenSpec.ofChange fnExactErrorOfStepSpec)

/-- ITS FALSE NEIGHBOUR: 'it returns false'. Refute it at one input. -/
def fnExactErrorOfStepWrong : ChangeSpec := { name := "fnExactErrorOfStep", fn := fun _ => fun
  | [d1, d2] => { results := [.lit (.bool false)], args := [d1, d2] }
  | _ => none }
def FnExactErrorOfStepWrongFalsely : Prop := fnExactErrorOfStepRow.holds Try.pinned (OpenSpec.ofChange fnExactErrorOfStepWrong)

/-- 'laws.FnExactChooseStep': WHATEVER THE INPUT: true; the input reads as it did. -/
def fnExactChooseStepSpec : ChangeSpec := { name := "fnExactChooseStep", fn := fun _ => fun
  | [d1, d2, d3] => { results := [.lit (.bool true)], args := [d1, d2, d3] }
  | _ => none }
def fnExactChooseStepRow : OpenClaim := { program := "ytlmhibeimfkpiaa", sum := "9eeb337b5b2d40be2564ef1ca25677639cedfd3714834c5e89614ab6365e6bb7", func := "loop.example/g01214/laws.FnExactChooseStep", spec := "fnExactChooseStep", inPlace := ["math.Float32bits", "math.Float32frombits"], unfollowed := true, recurses := true, apart := false }
def FnExactChooseStepSaid : Prop := fnExactChooseStepRow.holds Try.pinned (OpenSpec.ofChange fnExactChooseStepSpec)

/-- ITS FALSE NEIGHBOUR: 'it returns false'. Refute it at one input. -/
def fnExactChooseStepWrong : ChangeSpec := { name := "fnExactChooseStep", fn := fun _ => fun
  | [d1, d2, d3] => { results := [.lit (.bool false)], args := [d1, d2, d3] }
  | _ => none }
def FnExactChooseStepWrongFalsely : Prop := fnExactChooseStepRow.holds Try.pinned (OpenSpec.ofChange fnExactChooseStepWrong)

/-- 'laws.FnExactDriftOfPrecession': WHATEVER THE INPUT: true; the input reads as it did. -/
def fnExactDriftOfPrecessionSpec : ChangeSpec := { name := "fnExactDriftOfPrecession", fn := fun _ => fun
  | [d1, d2, d3] => { results := [.lit (.bool true)], args := [d1, d2, d3] }
  | _ => none }
def fnExactDriftOfPrecessionRow : OpenClaim := { program := "ytlmhibeimfkpiaa", sum := "9eeb337b5b2d40be2564ef1ca25677639cedfd3714834c5e89614ab6365e6bb7", func := "loop.example/g01214/laws.FnExactDriftOfPrecession", spec := "fnExactDriftOfPrecession", inPlace := ["math.Float32bits", "math.Float32frombits"], unfollowed := true, recurses := true, apart := false }
def FnExactDriftOfPrecessionSaid : Prop := fnExactDriftOfPrecessionRow.holds Try.pinned (OpenSpec.ofChange fnExactDriftOfPrecessionSpec)

/-- ITS FALSE NEIGHBOUR: 'it returns false'. Refute it at one input. -/
def fnExactDriftOfPrecessionWrong : ChangeSpec := { name := "fnExactDriftOfPrecession", fn := fun _ => fun
  | [d1, d2, d3] => { results := [.lit (.bool false)], args := [d1, d2, d3] }
  | _ => none }
def FnExactDriftOfPrecessionWrongFalsely : Prop := fnExactDriftOfPrecessionRow.holds Try.pinned (OpenSpec.ofChange fnExactDriftOfPrecessionWrong)

/- THE SECOND FORM. 'bulk': how many values and letters a reading holds, each counted each time it is reached (what is shared counts as often as it is met; a slice's spare places count too). A statement '..UptoSaid' is the law's where the arguments, and the package variables that the reading takes, are together of bulk at most 1048576: NARROWER than '..Said'. Prove '..Said' where nothing that the law and all that it calls make is longer than what came in: it says more and counts as full. Else prove '..UptoSaid'. A law counts once. -/
mutual
def uptoBulk {H : Type} : DataW H → Nat
  | .lit (.string bytes) => bytes.length + 1
  | .lit _ => 1
  | .nil => 1
  | .ptr d => uptoBulk d + 1
  | .slice elems spare => uptoBulkAll elems + uptoBulkAll spare + 1
  | .agg parts => uptoBulkAll parts + 1
  | .iface _ d => uptoBulk d + 1
  | .map entries => uptoBulkEntries entries + 1
  | .held _ => 1
def uptoBulkAll {H : Type} : List (DataW H) → Nat
  | [] => 0
  | d :: r => uptoBulk d + uptoBulkAll r
def uptoBulkEntries {H : Type} : List (Lit × DataW H) → Nat
  | [] => 0
  | x :: r => uptoBulkEntry x + uptoBulkEntries r
def uptoBulkEntry {H : Type} : Lit × DataW H → Nat
  | (.string bytes, d) => bytes.length + uptoBulk d + 1
  | (_, d) => uptoBulk d + 1
 end
def uptoSmall : (H : Type) → List (DataW H) → Bool := fun _ ds => decide (uptoBulkAll ds ≤ 1048576)
def OpenSpec.upto (s : _root_.Go.ChangeSpec) : _root_.Go.OpenSpec := { _root_.Go.OpenSpec.ofChange s with cond := some uptoSmall }

/-- 'laws.FnExactCrossOfVectors', WHERE WHAT IT READS IS OF BULK AT MOST 1048576: true; the input reads as it did. -/
def fnExactCrossOfVectorsUptoRow : OpenClaim := { program := "ytlmhibeimfkpiaa", sum := "9eeb337b5b2d40be2564ef1ca25677639cedfd3714834c5e89614ab6365e6bb7", func := "loop.example/g01214/laws.FnExactCrossOfVectors", spec := "fnExactCrossOfVectors", apart := false, narrowed := true }
def FnExactCrossOfVectorsUptoSaid : Prop := fnExactCrossOfVectorsUptoRow.holds Try.pinned (OpenSpec.upto fnExactCrossOfVectorsSpec)

/-- 'laws.FnExactStepOfField', WHERE WHAT IT READS IS OF BULK AT MOST 1048576: true; the input reads as it did. -/
def fnExactStepOfFieldUptoRow : OpenClaim := { program := "ytlmhibeimfkpiaa", sum := "9eeb337b5b2d40be2564ef1ca25677639cedfd3714834c5e89614ab6365e6bb7", func := "loop.example/g01214/laws.FnExactStepOfField", spec := "fnExactStepOfField", inPlace := ["math.Float32bits"], unfollowed := true, recurses := true, apart := false, narrowed := true }
def FnExactStepOfFieldUptoSaid : Prop := fnExactStepOfFieldUptoRow.holds Try.pinned (OpenSpec.upto fnExactStepOfFieldSpec)

/-- 'laws.FnExactSplitStep', WHERE WHAT IT READS IS OF BULK AT MOST 1048576: true; the input reads as it did. -/
def fnExactSplitStepUptoRow : OpenClaim := { program := "ytlmhibeimfkpiaa", sum := "9eeb337b5b2d40be2564ef1ca25677639cedfd3714834c5e89614ab6365e6bb7", func := "loop.example/g01214/laws.FnExactSplitStep", spec := "fnExactSplitStep", inPlace := ["math.Float32bits"], unfollowed := true, recurses := true, apart := false, narrowed := true }
def FnExactSplitStepUptoSaid : Prop := fnExactSplitStepUptoRow.holds Try.pinned (OpenSpec.upto fnExactSplitStepSpec)

/-- 'laws.FnExactRampFields', WHERE WHAT IT READS IS OF BULK AT MOST 1048576: true; the input reads as it did. -/
def fnExactRampFieldsUptoRow : OpenClaim := { program := "ytlmhibeimfkpiaa", sum := "9eeb337b5b2d40be2564ef1ca25677639cedfd3714834c5e89614ab6365e6bb7", func := "loop.example/g01214/laws.FnExactRampFields", spec := "fnExactRampFields", apart := false, narrowed := true }
def FnExactRampFieldsUptoSaid : Prop := fnExactRampFieldsUptoRow.holds Try.pinned (OpenSpec.upto fnExactRampFieldsSpec)

/-- 'laws.FnExactErrorOfStep', WHERE WHAT IT READS IS OF BULK AT MOST 1048576: true; the input reads as it did. -/
def fnExactErrorOfStepUptoRow : OpenClaim := { program := "ytlmhibeimfkpiaa", sum := "9eeb337b5b2d40be2564ef1ca25677639cedfd3714834c5e89614ab6365e6bb7", func := "loop.example/g01214/laws.FnExactErrorOfStep", spec := "fnExactErrorOfStep", inPlace := ["math.Float32bits", "math.Float32frombits"], unfollowed := true, recurses := true, apart := false, narrowed := true }
def FnExactErrorOfStepUptoSaid : Prop := fnExactErrorOfStepUptoRow.holds Try.pinned (OpenSpec.upto fnExactErrorOfStepSpec)

/-- 'laws.FnExactChooseStep', WHERE WHAT IT READS IS OF BULK AT MOST 1048576: true; the input reads as it did. -/
def fnExactChooseStepUptoRow : OpenClaim := { program := "ytlmhibeimfkpiaa", sum := "9eeb337b5b2d40be2564ef1ca25677639cedfd3714834c5e89614ab6365e6bb7", func := "loop.example/g01214/laws.FnExactChooseStep", spec := "fnExactChooseStep", inPlace := ["math.Float32bits", "math.Float32frombits"], unfollowed := true, recurses := true, apart := false, narrowed := true }
def FnExactChooseStepUptoSaid : Prop := fnExactChooseStepUptoRow.holds Try.pinned (OpenSpec.upto fnExactChooseStepSpec)

/-- 'laws.FnExactDriftOfPrecession', WHERE WHAT IT READS IS OF BULK AT MOST 1048576: true; the input reads as it did. -/
def fnExactDriftOfPrecessionUptoRow : OpenClaim := { program := "ytlmhibeimfkpiaa", sum := "9eeb337b5b2d40be2564ef1ca25677639cedfd3714834c5e89614ab6365e6bb7", func := "loop.example/g01214/laws.FnExactDriftOfPrecession", spec := "fnExactDriftOfPrecession", inPlace := ["math.Float32bits", "math.Float32frombits"], unfollowed := true, recurses := true, apart := false, narrowed := true }
def FnExactDriftOfPrecessionUptoSaid : Prop := fnExactDriftOfPrecessionUptoRow.holds Try.pinned (OpenSpec.upto fnExactDriftOfPrecessionSpec)

end Rows
end Go.Proofs.Ytlmhibeimfkpiaa
