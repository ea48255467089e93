/-
  No cell of these rows narrows 'for every input' (looked for: loops, veiled, ifaces, maps, wideKeys, modest, calm, conditions, laid).
  DERIVED. THE GIVEN ROWS OF THIS SEAT. 4 by the template 'for every input the law returns true; each argument reads behind the call as it read before'; 0 by the template 'total and deterministic' (their statements: YtcikohbcndppkaaTotals.lean).
  GIVEN WITH THE SEED: the statements are not yours to turn. If you find one false, say at which input.
  Laid BY PROGRAM, IN A SANDBOX (cutbox-rows.mjs): the forced cells as the released guide's own fill.sh prints them over the translation 9029113346444073… (all of the seat's roots in one cut). By AI agents, Wed Nov 11 2026. No macro, syntax, notation, axiom, sorry.
-/
import Derived.Test.YtcikohbcndppkaaChecked
import GoSem.Claim
import GoSem.ClaimJoined
import GoSem.ClaimMapViews
import Derived.JoinedTies
import Derived.KernelRfl
namespace Go.Proofs.Ytcikohbcndppkaa
/- THE CELL 'sum', in the pinned program and in every row, IS THE sha256 OF THE DUMP (.gsa) THAT YtcikohbcndppkaaProg.lean LOADS. Nothing in Lean hashes anything: it is a label: what it is worth is what the hold of that sum in a sandbox is worth. -/
noncomputable def Try.pinned : Pinned := { name := "ytcikohbcndppkaa", sum := "90291133464440736b6459342e08bad13c876faf44890a1b71bf199c5452f1f8", checked := Try.checked }
namespace Rows
def none {H : Type} : Left H := { results := [], args := [] }

/-- 'laws.FnSpinorSums': WHATEVER THE INPUT: true; the input reads as it did. -/
def fnSpinorSumsSpec : ChangeSpec := { name := "fnSpinorSums", fn := fun _ => fun
  | [d] => { results := [.lit (.bool true)], args := [d] }
  | _ => none }
def fnSpinorSumsRow : OpenClaim := { program := "ytcikohbcndppkaa", sum := "90291133464440736b6459342e08bad13c876faf44890a1b71bf199c5452f1f8", func := "loop.example/g01214/laws.FnSpinorSums", spec := "fnSpinorSums", inPlace := ["math.Float32bits", "math.Float64bits", "math.Float64frombits"], unfollowed := true, recurses := true, plainKeys := false, apart := false }
def FnSpinorSumsSaid : Prop := fnSpinorSumsRow.holds Try.pinned (OpenSpec.ofChange fnSpinorSumsSpec)

/-- ITS FALSE NEIGHBOUR: 'it returns false'. Refute it at one input. -/
def fnSpinorSumsWrong : ChangeSpec := { name := "fnSpinorSums", fn := fun _ => fun
  | [d] => { results := [.lit (.bool false)], args := [d] }
  | _ => none }
def FnSpinorSumsWrongFalsely : Prop := fnSpinorSumsRow.holds Try.pinned (OpenSpec.ofChange fnSpinorSumsWrong)

/-- 'laws.FnInners': WHATEVER THE INPUT: true; the input reads as it did. -/
def fnInnersSpec : ChangeSpec := { name := "fnInners", fn := fun _ => fun
  | [d] => { results := [.lit (.bool true)], args := [d] }
  | _ => none }
def fnInnersRow : OpenClaim := { program := "ytcikohbcndppkaa", sum := "90291133464440736b6459342e08bad13c876faf44890a1b71bf199c5452f1f8", func := "loop.example/g01214/laws.FnInners", spec := "fnInners", inPlace := ["math.Float32bits"], recurses := true, plainKeys := false, apart := false }
def FnInnersSaid : Prop := fnInnersRow.holds Try.pinned (OpenSpec.ofChange fnInnersSpec)

/-- ITS FALSE NEIGHBOUR: 'it returns false'. Refute it at one input. -/
def fnInnersWrong : ChangeSpec := { name := "fnInners", fn := fun _ => fun
  | [d] => { results := [.lit (.bool false)], args := [d] }
  | _ => none }
def FnInnersWrongFalsely : Prop := fnInnersRow.holds Try.pinned (OpenSpec.ofChange fnInnersWrong)

/-- 'laws.FnPhases': WHATEVER THE INPUT: true; the input reads as it did. -/
def fnPhasesSpec : ChangeSpec := { name := "fnPhases", fn := fun _ => fun
  | [d] => { results := [.lit (.bool true)], args := [d] }
  | _ => none }
def fnPhasesRow : OpenClaim := { program := "ytcikohbcndppkaa", sum := "90291133464440736b6459342e08bad13c876faf44890a1b71bf199c5452f1f8", func := "loop.example/g01214/laws.FnPhases", spec := "fnPhases", inPlace := ["math.Float32bits", "math.sqrt", "math.Float64bits", "math.Float64frombits", "math.Float32frombits"], unfollowed := true, recurses := true, plainKeys := false, apart := false }
def FnPhasesSaid : Prop := fnPhasesRow.holds Try.pinned (OpenSpec.ofChange fnPhasesSpec)

/-- ITS FALSE NEIGHBOUR: 'it returns false'. Refute it at one input. -/
def fnPhasesWrong : ChangeSpec := { name := "fnPhases", fn := fun _ => fun
  | [d] => { results := [.lit (.bool false)], args := [d] }
  | _ => none }
def FnPhasesWrongFalsely : Prop := fnPhasesRow.holds Try.pinned (OpenSpec.ofChange fnPhasesWrong)

/-- 'laws.FnExactAddVectors': WHATEVER THE INPUT: true; the input reads as it did. -/
def fnExactAddVectorsSpec : ChangeSpec := { name := "fnExactAddVectors", fn := fun _ => fun
  | [d1, d2] => { results := [.lit (.bool true)], args := [d1, d2] }
  | _ => none }
def fnExactAddVectorsRow : OpenClaim := { program := "ytcikohbcndppkaa", sum := "90291133464440736b6459342e08bad13c876faf44890a1b71bf199c5452f1f8", func := "loop.example/g01214/laws.FnExactAddVectors", spec := "fnExactAddVectors", plainKeys := false, apart := false }
def FnExactAddVectorsSaid : Prop := fnExactAddVectorsRow.holds Try.pinned (OpenSpec.ofChange fnExactAddVectorsSpec)

/-- ITS FALSE NEIGHBOUR: 'it returns false'. Refute it at one input. -/
def fnExactAddVectorsWrong : ChangeSpec := { name := "fnExactAddVectors", fn := fun _ => fun
  | [d1, d2] => { results := [.lit (.bool false)], args := [d1, d2] }
  | _ => none }
def FnExactAddVectorsWrongFalsely : Prop := fnExactAddVectorsRow.holds Try.pinned (OpenSpec.ofChange fnExactAddVectorsWrong)

/- THE SECOND FORM. 'bulk': how many values and letters a reading holds, each counted each time it is reached (what is shared counts as often as it is met; a slice's spare places count too). A statement '..UptoSaid' is the law's where the arguments, and the package variables that the reading takes, are together of bulk at most 1048576: NARROWER than '..Said'. Prove '..Said' where nothing that the law and all that it calls make is longer than what came in: it says more and counts as full. Else prove '..UptoSaid'. A law counts once. -/
mutual
def uptoBulk {H : Type} : DataW H → Nat
  | .lit (.string bytes) => bytes.length + 1
  | .lit _ => 1
  | .nil => 1
  | .ptr d => uptoBulk d + 1
  | .slice elems spare => uptoBulkAll elems + uptoBulkAll spare + 1
  | .agg parts => uptoBulkAll parts + 1
  | .iface _ d => uptoBulk d + 1
  | .map entries => uptoBulkEntries entries + 1
  | .held _ => 1
def uptoBulkAll {H : Type} : List (DataW H) → Nat
  | [] => 0
  | d :: r => uptoBulk d + uptoBulkAll r
def uptoBulkEntries {H : Type} : List (Lit × DataW H) → Nat
  | [] => 0
  | x :: r => uptoBulkEntry x + uptoBulkEntries r
def uptoBulkEntry {H : Type} : Lit × DataW H → Nat
  | (.string bytes, d) => bytes.length + uptoBulk d + 1
  | (_, d) => uptoBulk d + 1
 end
def uptoSmall : (H : Type) → List (DataW H) → Bool := fun _ ds => decide (uptoBulkAll ds ≤ 1048576)
def OpenSpec.upto (s : _root_.Go.ChangeSpec) : _root_.Go.OpenSpec := { _root_.Go.OpenSpec.ofChange s with cond := some uptoSmall }

/-- 'laws.FnSpinorSums', WHERE WHAT IT READS IS OF BULK AT MOST 1048576: true; the input reads as it did. -/
def fnSpinorSumsUptoRow : OpenClaim := { program := "ytcikohbcndppkaa", sum := "90291133464440736b6459342e08bad13c876faf44890a1b71bf199c5452f1f8", func := "loop.example/g01214/laws.FnSpinorSums", spec := "fnSpinorSums", inPlace := ["math.Float32bits", "math.Float64bits", "math.Float64frombits"], unfollowed := true, recurses := true, plainKeys := false, apart := false, narrowed := true }
def FnSpinorSumsUptoSaid : Prop := fnSpinorSumsUptoRow.holds Try.pinned (OpenSpec.upto fnSpinorSumsSpec)

/-- 'laws.FnInners', WHERE WHAT IT READS IS OF BULK AT MOST 1048576: true; the input reads as it did. -/
def fnInnersUptoRow : OpenClaim := { program := "ytcikohbcndppkaa", sum := "90291133464440736b6459342e08bad13c876faf44890a1b71bf199c5452f1f8", func := "loop.example/g01214/laws.FnInners", spec := "fnInners", inPlace := ["math.Float32bits"], recurses := true, plainKeys := false, apart := false, narrowed := true }
def FnInnersUptoSaid : Prop := fnInnersUptoRow.holds Try.pinned (OpenSpec.upto fnInnersSpec)

/-- 'laws.FnPhases', WHERE WHAT IT READS IS OF BULK AT MOST 1048576: true; the input reads as it did. -/
def fnPhasesUptoRow : OpenClaim := { program := "ytcikohbcndppkaa", sum := "90291133464440736b6459342e08bad13c876faf44890a1b71bf199c5452f1f8", func := "loop.example/g01214/laws.FnPhases", spec := "fnPhases", inPlace := ["math.Float32bits", "math.sqrt", "math.Float64bits", "math.Float64frombits", "math.Float32frombits"], unfollowed := true, recurses := true, plainKeys := false, apart := false, narrowed := true }
def FnPhasesUptoSaid : Prop := fnPhasesUptoRow.holds Try.pinned (OpenSpec.upto fnPhasesSpec)

/-- 'laws.FnExactAddVectors', WHERE WHAT IT READS IS OF BULK AT MOST 1048576: true; the input reads as it did. -/
def fnExactAddVectorsUptoRow : OpenClaim := { program := "ytcikohbcndppkaa", sum := "90291133464440736b6459342e08bad13c876faf44890a1b71bf199c5452f1f8", func := "loop.example/g01214/laws.FnExactAddVectors", spec := "fnExactAddVectors", plainKeys := false, apart := false, narrowed := true }
def FnExactAddVectorsUptoSaid : Prop := fnExactAddVectorsUptoRow.holds Try.pinned (OpenSpec.upto fnExactAddVectorsSpec)

end Rows
end Go.Proofs.Ytcikohbcndppkaa
