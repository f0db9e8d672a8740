/-
  No cell of these rows narrows 'for every input' (looked for: loops, veiled, ifaces, maps, wideKeys, modest, calm, conditions, laid).
  DERIVED. THE GIVEN ROWS OF THIS SEAT. 4 by the template 'for every input the law returns true; each argument reads behind the call as it read before'; 0 by the template 'total and deterministic' (their statements: YtcocapkdpbdmdaaTotals.lean).
  GIVEN WITH THE SEED: the statements are not yours to turn. If you find one false, say at which input.
  Laid BY PROGRAM, IN A SANDBOX (cutbox-rows.mjs): the forced cells as the released guide's own fill.sh prints them over the translation 0e1c252b99fd4ccf… (all of the seat's roots in one cut). By AI agents, Wed Nov 11 2026. No macro, syntax, notation, axiom, sorry.
-/
import Derived.Test.YtcocapkdpbdmdaaChecked
import GoSem.Claim
import GoSem.ClaimJoined
import GoSem.ClaimMapViews
import Derived.JoinedTies
import Derived.KernelRfl
namespace Go.Proofs.Ytcocapkdpbdmdaa
/- THE CELL 'sum', in the pinned program and in every row, IS THE sha256 OF THE DUMP (.gsa) THAT YtcocapkdpbdmdaaProg.lean LOADS. Nothing in Lean hashes anything: it is a label: what it is worth is what the hold of that sum in a sandbox is worth. -/
noncomputable def Try.pinned : Pinned := { name := "ytcocapkdpbdmdaa", sum := "0e1c252b99fd4ccf988ab615a2d8bf5ef7fce96eec4db620ed84d92041dd009f", checked := Try.checked }
namespace Rows
def none {H : Type} : Left H := { results := [], args := [] }

/-- 'laws.FnExactPrimitiveSpace': WHATEVER THE INPUT: true; the input reads as it did. -/
def fnExactPrimitiveSpaceSpec : ChangeSpec := { name := "fnExactPrimitiveSpace", fn := fun _ => fun
  | [d1, d2, d3] => { results := [.lit (.bool true)], args := [d1, d2, d3] }
  | _ => none }
def fnExactPrimitiveSpaceRow : OpenClaim := { program := "ytcocapkdpbdmdaa", sum := "0e1c252b99fd4ccf988ab615a2d8bf5ef7fce96eec4db620ed84d92041dd009f", func := "loop.example/g01230/laws.FnExactPrimitiveSpace", spec := "fnExactPrimitiveSpace", plainKeys := false, apart := false }
def FnExactPrimitiveSpaceSaid : Prop := fnExactPrimitiveSpaceRow.holds Try.pinned (OpenSpec.ofChange fnExactPrimitiveSpaceSpec)

/-- ITS FALSE NEIGHBOUR: 'it returns false'. Refute it at one input. -/
def fnExactPrimitiveSpaceWrong : ChangeSpec := { name := "fnExactPrimitiveSpace", fn := fun _ => fun
  | [d1, d2, d3] => { results := [.lit (.bool false)], args := [d1, d2, d3] }
  | _ => none }
def FnExactPrimitiveSpaceWrongFalsely : Prop := fnExactPrimitiveSpaceRow.holds Try.pinned (OpenSpec.ofChange fnExactPrimitiveSpaceWrong)

/-- 'laws.FnExactLeastSubcoalgebra': WHATEVER THE INPUT: true; the input reads as it did. -/
def fnExactLeastSubcoalgebraSpec : ChangeSpec := { name := "fnExactLeastSubcoalgebra", fn := fun _ => fun
  | [d1, d2] => { results := [.lit (.bool true)], args := [d1, d2] }
  | _ => none }
def fnExactLeastSubcoalgebraRow : OpenClaim := { program := "ytcocapkdpbdmdaa", sum := "0e1c252b99fd4ccf988ab615a2d8bf5ef7fce96eec4db620ed84d92041dd009f", func := "loop.example/g01230/laws.FnExactLeastSubcoalgebra", spec := "fnExactLeastSubcoalgebra", plainKeys := false, apart := false }
def FnExactLeastSubcoalgebraSaid : Prop := fnExactLeastSubcoalgebraRow.holds Try.pinned (OpenSpec.ofChange fnExactLeastSubcoalgebraSpec)

/-- ITS FALSE NEIGHBOUR: 'it returns false'. Refute it at one input. -/
def fnExactLeastSubcoalgebraWrong : ChangeSpec := { name := "fnExactLeastSubcoalgebra", fn := fun _ => fun
  | [d1, d2] => { results := [.lit (.bool false)], args := [d1, d2] }
  | _ => none }
def FnExactLeastSubcoalgebraWrongFalsely : Prop := fnExactLeastSubcoalgebraRow.holds Try.pinned (OpenSpec.ofChange fnExactLeastSubcoalgebraWrong)

/-- 'laws.FnExactReduceVectors': WHATEVER THE INPUT: true; the input reads as it did. -/
def fnExactReduceVectorsSpec : ChangeSpec := { name := "fnExactReduceVectors", fn := fun _ => fun
  | [d1, d2, d3] => { results := [.lit (.bool true)], args := [d1, d2, d3] }
  | _ => none }
def fnExactReduceVectorsRow : OpenClaim := { program := "ytcocapkdpbdmdaa", sum := "0e1c252b99fd4ccf988ab615a2d8bf5ef7fce96eec4db620ed84d92041dd009f", func := "loop.example/g01230/laws.FnExactReduceVectors", spec := "fnExactReduceVectors", plainKeys := false, apart := false }
def FnExactReduceVectorsSaid : Prop := fnExactReduceVectorsRow.holds Try.pinned (OpenSpec.ofChange fnExactReduceVectorsSpec)

/-- ITS FALSE NEIGHBOUR: 'it returns false'. Refute it at one input. -/
def fnExactReduceVectorsWrong : ChangeSpec := { name := "fnExactReduceVectors", fn := fun _ => fun
  | [d1, d2, d3] => { results := [.lit (.bool false)], args := [d1, d2, d3] }
  | _ => none }
def FnExactReduceVectorsWrongFalsely : Prop := fnExactReduceVectorsRow.holds Try.pinned (OpenSpec.ofChange fnExactReduceVectorsWrong)

/-- 'laws.FnExactIsSubcoalgebra': WHATEVER THE INPUT: true; the input reads as it did. -/
def fnExactIsSubcoalgebraSpec : ChangeSpec := { name := "fnExactIsSubcoalgebra", fn := fun _ => fun
  | [d1, d2] => { results := [.lit (.bool true)], args := [d1, d2] }
  | _ => none }
def fnExactIsSubcoalgebraRow : OpenClaim := { program := "ytcocapkdpbdmdaa", sum := "0e1c252b99fd4ccf988ab615a2d8bf5ef7fce96eec4db620ed84d92041dd009f", func := "loop.example/g01230/laws.FnExactIsSubcoalgebra", spec := "fnExactIsSubcoalgebra", plainKeys := false, apart := false }
def FnExactIsSubcoalgebraSaid : Prop := fnExactIsSubcoalgebraRow.holds Try.pinned (OpenSpec.ofChange fnExactIsSubcoalgebraSpec)

/-- ITS FALSE NEIGHBOUR: 'it returns false'. Refute it at one input. -/
def fnExactIsSubcoalgebraWrong : ChangeSpec := { name := "fnExactIsSubcoalgebra", fn := fun _ => fun
  | [d1, d2] => { results := [.lit (.bool false)], args := [d1, d2] }
  | _ => none }
def FnExactIsSubcoalgebraWrongFalsely : Prop := fnExactIsSubcoalgebraRow.holds Try.pinned (OpenSpec.ofChange fnExactIsSubcoalgebraWrong)

/- THE SECOND FORM. 'bulk': how many values and letters a reading holds, each counted each time it is reached (what is shared counts as often as it is met; a slice's spare places count too). A statement '..UptoSaid' is the law's where the arguments, and the package variables that the reading takes, are together of bulk at most 1048576: NARROWER than '..Said'. Prove '..Said' where nothing that the law and all that it calls make is longer than what came in: it says more and counts as full. Else prove '..UptoSaid'. A law counts once. -/
mutual
def uptoBulk {H : Type} : DataW H → Nat
  | .lit (.string bytes) => bytes.length + 1
  | .lit _ => 1
  | .nil => 1
  | .ptr d => uptoBulk d + 1
  | .slice elems spare => uptoBulkAll elems + uptoBulkAll spare + 1
  | .agg parts => uptoBulkAll parts + 1
  | .iface _ d => uptoBulk d + 1
  | .map entries => uptoBulkEntries entries + 1
  | .held _ => 1
def uptoBulkAll {H : Type} : List (DataW H) → Nat
  | [] => 0
  | d :: r => uptoBulk d + uptoBulkAll r
def uptoBulkEntries {H : Type} : List (Lit × DataW H) → Nat
  | [] => 0
  | x :: r => uptoBulkEntry x + uptoBulkEntries r
def uptoBulkEntry {H : Type} : Lit × DataW H → Nat
  | (.string bytes, d) => bytes.length + uptoBulk d + 1
  | (_, d) => uptoBulk d + 1
 end
def uptoSmall : (H : Type) → List (DataW H) → Bool := fun _ ds => decide (uptoBulkAll ds ≤ 1048576)
def OpenSpec.upto (s : _root_.Go.ChangeSpec) : _root_.Go.OpenSpec := { _root_.Go.OpenSpec.ofChange s with cond := some uptoSmall }

/-- 'laws.FnExactPrimitiveSpace', WHERE WHAT IT READS IS OF BULK AT MOST 1048576: true; the input reads as it did. -/
def fnExactPrimitiveSpaceUptoRow : OpenClaim := { program := "ytcocapkdpbdmdaa", sum := "0e1c252b99fd4ccf988ab615a2d8bf5ef7fce96eec4db620ed84d92041dd009f", func := "loop.example/g01230/laws.FnExactPrimitiveSpace", spec := "fnExactPrimitiveSpace", plainKeys := false, apart := false, narrowed := true }
def FnExactPrimitiveSpaceUptoSaid : Prop := fnExactPrimitiveSpaceUptoRow.holds Try.pinned (OpenSpec.upto fnExactPrimitiveSpaceSpec)

/-- 'laws.FnExactLeastSubcoalgebra', WHERE WHAT IT READS IS OF BULK AT MOST 1048576: true; the input reads as it did. -/
def fnExactLeastSubcoalgebraUptoRow : OpenClaim := { program := "ytcocapkdpbdmdaa", sum := "0e1c252b99fd4ccf988ab615a2d8bf5ef7fce96eec4db620ed84d92041dd009f", func := "loop.example/g01230/laws.FnExactLeastSubcoalgebra", spec := "fnExactLeastSubcoalgebra", plainKeys := false, apart := false, narrowed := true }
def FnExactLeastSubcoalgebraUptoSaid : Prop := fnExactLeastSubcoalgebraUptoRow.holds Try.pinned (OpenSpec.upto fnExactLeastSubcoalgebraSpec)

/-- 'laws.FnExactReduceVectors', WHERE WHAT IT READS IS OF BULK AT MOST 1048576: true; the input reads as it did. -/
def fnExactReduceVectorsUptoRow : OpenClaim := { program := "ytcocapkdpbdmdaa", sum := "0e1c252b99fd4ccf988ab615a2d8bf5ef7fce96eec4db620ed84d92041dd009f", func := "loop.example/g01230/laws.FnExactReduceVectors", spec := "fnExactReduceVectors", plainKeys := false, apart := false, narrowed := true }
def FnExactReduceVectorsUptoSaid : Prop := fnExactReduceVectorsUptoRow.holds Try.pinned (OpenSpec.upto fnExactReduceVectorsSpec)

/-- 'laws.FnExactIsSubcoalgebra', WHERE WHAT IT READS IS OF BULK AT MOST 1048576: true; the input reads as it did. -/
def fnExactIsSubcoalgebraUptoRow : OpenClaim := { program := "ytcocapkdpbdmdaa", sum := "0e1c252b99fd4ccf988ab615a2d8bf5ef7fce96eec4db620ed84d92041dd009f", func := "loop.example/g01230/laws.FnExactIsSubcoalgebra", spec := "fnExactIsSubcoalgebra", plainKeys := false, apart := false, narrowed := true }
def FnExactIsSubcoalgebraUptoSaid : Prop := fnExactIsSubcoalgebraUptoRow.holds Try.pinned (OpenSpec.upto fnExactIsSubcoalgebraSpec)

end Rows
end Go.Proofs.Ytcocapkdpbdmdaa
