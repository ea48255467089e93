/-
  No cell of these rows narrows 'for every input' (looked for: loops, veiled, ifaces, maps, wideKeys, modest, calm, conditions, laid).
  DERIVED. THE GIVEN ROWS OF THIS SEAT. 3 by the template 'for every input the law returns true; each argument reads behind the call as it read before'; 0 by the template 'total and deterministic' (their statements: YtlebkkbbjnkjoaaTotals.lean).
  GIVEN WITH THE SEED: the statements are not yours to turn. If you find one false, say at which input.
  Laid BY PROGRAM, IN A SANDBOX (cutbox-rows.mjs): the forced cells as the released guide's own fill.sh prints them over the translation 2d6ff7afa45ff849… (all of the seat's roots in one cut). By AI agents, Wed Nov 11 2026. No macro, syntax, notation, axiom, sorry.
-/
import Derived.Test.YtlebkkbbjnkjoaaChecked
import GoSem.Claim
import GoSem.ClaimJoined
import GoSem.ClaimMapViews
import Derived.JoinedTies
import Derived.KernelRfl
namespace Go.Proofs.Ytlebkkbbjnkjoaa
/- THE CELL 'sum', in the pinned program and in every row, IS THE sha256 OF THE DUMP (.gsa) THAT YtlebkkbbjnkjoaaProg.lean LOADS. Nothing in Lean hashes anything: it is a label: what it is worth is what the hold of that sum in a sandbox is worth. -/
noncomputable def Try.pinned : Pinned := { name := "ytlebkkbbjnkjoaa", sum := "2d6ff7afa45ff8492a6fb7785ee126a6099bb4dd30ec457d837aafb307efa0f9", checked := Try.checked }
namespace Rows
def none {H : Type} : Left H := { results := [], args := [] }

/-- 'laws.FnExactMixtureOfVector': WHATEVER THE INPUT: true; the input reads as it did. -/
def fnExactMixtureOfVectorSpec : ChangeSpec := { name := "fnExactMixtureOfVector", fn := fun _ => fun
  | [d] => { results := [.lit (.bool true)], args := [d] }
  | _ => none }
def fnExactMixtureOfVectorRow : OpenClaim := { program := "ytlebkkbbjnkjoaa", sum := "2d6ff7afa45ff8492a6fb7785ee126a6099bb4dd30ec457d837aafb307efa0f9", func := "loop.example/g01214/laws.FnExactMixtureOfVector", spec := "fnExactMixtureOfVector", plainKeys := false, apart := false }
def FnExactMixtureOfVectorSaid : Prop := fnExactMixtureOfVectorRow.holds Try.pinned (OpenSpec.ofChange fnExactMixtureOfVectorSpec)

/-- ITS FALSE NEIGHBOUR: 'it returns false'. Refute it at one input. -/
def fnExactMixtureOfVectorWrong : ChangeSpec := { name := "fnExactMixtureOfVector", fn := fun _ => fun
  | [d] => { results := [.lit (.bool false)], args := [d] }
  | _ => none }
def FnExactMixtureOfVectorWrongFalsely : Prop := fnExactMixtureOfVectorRow.holds Try.pinned (OpenSpec.ofChange fnExactMixtureOfVectorWrong)

/-- 'laws.FnMixtures': WHATEVER THE INPUT: true; the input reads as it did. -/
def fnMixturesSpec : ChangeSpec := { name := "fnMixtures", fn := fun _ => fun
  | [d] => { results := [.lit (.bool true)], args := [d] }
  | _ => none }
def fnMixturesRow : OpenClaim := { program := "ytlebkkbbjnkjoaa", sum := "2d6ff7afa45ff8492a6fb7785ee126a6099bb4dd30ec457d837aafb307efa0f9", func := "loop.example/g01214/laws.FnMixtures", spec := "fnMixtures", inPlace := ["math.Float32bits"], recurses := true, plainKeys := false, apart := false }
def FnMixturesSaid : Prop := fnMixturesRow.holds Try.pinned (OpenSpec.ofChange fnMixturesSpec)

/-- ITS FALSE NEIGHBOUR: 'it returns false'. Refute it at one input. -/
def fnMixturesWrong : ChangeSpec := { name := "fnMixtures", fn := fun _ => fun
  | [d] => { results := [.lit (.bool false)], args := [d] }
  | _ => none }
def FnMixturesWrongFalsely : Prop := fnMixturesRow.holds Try.pinned (OpenSpec.ofChange fnMixturesWrong)

/-- 'laws.FnChannels': WHATEVER THE INPUT: true; the input reads as it did. -/
def fnChannelsSpec : ChangeSpec := { name := "fnChannels", fn := fun _ => fun
  | [d] => { results := [.lit (.bool true)], args := [d] }
  | _ => none }
def fnChannelsRow : OpenClaim := { program := "ytlebkkbbjnkjoaa", sum := "2d6ff7afa45ff8492a6fb7785ee126a6099bb4dd30ec457d837aafb307efa0f9", func := "loop.example/g01214/laws.FnChannels", spec := "fnChannels", inPlace := ["math.Float32bits"], unfollowed := true, recurses := true, plainKeys := false, apart := false }
def FnChannelsSaid : Prop := fnChannelsRow.holds Try.pinned (OpenSpec.ofChange fnChannelsSpec)

/-- ITS FALSE NEIGHBOUR: 'it returns false'. Refute it at one input. -/
def fnChannelsWrong : ChangeSpec := { name := "fnChannels", fn := fun _ => fun
  | [d] => { results := [.lit (.bool false)], args := [d] }
  | _ => none }
def FnChannelsWrongFalsely : Prop := fnChannelsRow.holds Try.pinned (OpenSpec.ofChange fnChannelsWrong)

/- THE SECOND FORM. 'bulk': how many values and letters a reading holds, each counted each time it is reached (what is shared counts as often as it is met; a slice's spare places count too). A statement '..UptoSaid' is the law's where the arguments, and the package variables that the reading takes, are together of bulk at most 1048576: NARROWER than '..Said'. Prove '..Said' where nothing that the law and all that it calls make is longer than what came in: it says more and counts as full. Else prove '..UptoSaid'. A law counts once. -/
mutual
def uptoBulk {H : Type} : DataW H → Nat
  | .lit (.string bytes) => bytes.length + 1
  | .lit _ => 1
  | .nil => 1
  | .ptr d => uptoBulk d + 1
  | .slice elems spare => uptoBulkAll elems + uptoBulkAll spare + 1
  | .agg parts => uptoBulkAll parts + 1
  | .iface _ d => uptoBulk d + 1
  | .map entries => uptoBulkEntries entries + 1
  | .held _ => 1
def uptoBulkAll {H : Type} : List (DataW H) → Nat
  | [] => 0
  | d :: r => uptoBulk d + uptoBulkAll r
def uptoBulkEntries {H : Type} : List (Lit × DataW H) → Nat
  | [] => 0
  | x :: r => uptoBulkEntry x + uptoBulkEntries r
def uptoBulkEntry {H : Type} : Lit × DataW H → Nat
  | (.string bytes, d) => bytes.length + uptoBulk d + 1
  | (_, d) => uptoBulk d + 1
 end
def uptoSmall : (H : Type) → List (DataW H) → Bool := fun _ ds => decide (uptoBulkAll ds ≤ 1048576)
def OpenSpec.upto (s : _root_.Go.ChangeSpec) : _root_.Go.OpenSpec := { _root_.Go.OpenSpec.ofChange s with cond := some uptoSmall }

/-- 'laws.FnExactMixtureOfVector', WHERE WHAT IT READS IS OF BULK AT MOST 1048576: true; the input reads as it did. -/
def fnExactMixtureOfVectorUptoRow : OpenClaim := { program := "ytlebkkbbjnkjoaa", sum := "2d6ff7afa45ff8492a6fb7785ee126a6099bb4dd30ec457d837aafb307efa0f9", func := "loop.example/g01214/laws.FnExactMixtureOfVector", spec := "fnExactMixtureOfVector", plainKeys := false, apart := false, narrowed := true }
def FnExactMixtureOfVectorUptoSaid : Prop := fnExactMixtureOfVectorUptoRow.holds Try.pinned (OpenSpec.upto fnExactMixtureOfVectorSpec)

/-- 'laws.FnMixtures', WHERE WHAT IT READS IS OF BULK AT MOST 1048576: true; the input reads as it did. -/
def fnMixturesUptoRow : OpenClaim := { program := "ytlebkkbbjnkjoaa", sum := "2d6ff7afa45ff8492a6fb7785ee126a6099bb4dd30ec457d837aafb307efa0f9", func := "loop.example/g01214/laws.FnMixtures", spec := "fnMixtures", inPlace := ["math.Float32bits"], recurses := true, plainKeys := false, apart := false, narrowed := true }
def FnMixturesUptoSaid : Prop := fnMixturesUptoRow.holds Try.pinned (OpenSpec.upto fnMixturesSpec)

/-- 'laws.FnChannels', WHERE WHAT IT READS IS OF BULK AT MOST 1048576: true; the input reads as it did. -/
def fnChannelsUptoRow : OpenClaim := { program := "ytlebkkbbjnkjoaa", sum := "2d6ff7afa45ff8492a6fb7785ee126a6099bb4dd30ec457d837aafb307efa0f9", func := "loop.example/g01214/laws.FnChannels", spec := "fnChannels", inPlace := ["math.Float32bits"], unfollowed := true, recurses := true, plainKeys := false, apart := false, narrowed := true }
def FnChannelsUptoSaid : Prop := fnChannelsUptoRow.holds Try.pinned (OpenSpec.upto fnChannelsSpec)

end Rows
end Go.Proofs.Ytlebkkbbjnkjoaa
