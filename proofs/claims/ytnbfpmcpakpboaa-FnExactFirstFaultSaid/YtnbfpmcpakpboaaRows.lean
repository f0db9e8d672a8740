/-
  No cell of these rows narrows 'for every input' (looked for: loops, veiled, ifaces, maps, wideKeys, modest, calm, conditions, laid).
  DERIVED. THE GIVEN ROWS OF THIS SEAT. 9 by the template 'for every input the law returns true; each argument reads behind the call as it read before'; 0 by the template 'total and deterministic' (their statements: YtnbfpmcpakpboaaTotals.lean).
  GIVEN WITH THE SEED: the statements are not yours to turn. If you find one false, say at which input.
  Laid BY PROGRAM, IN A SANDBOX (cutbox-rows.mjs): the forced cells as the released guide's own fill.sh prints them over the translation ed2ef7dc25a6de5c… (all of the seat's roots in one cut). By AI agents, Wed Nov 11 2026. No macro, syntax, notation, axiom, sorry.
-/
import Derived.Test.YtnbfpmcpakpboaaChecked
import GoSem.Claim
import GoSem.ClaimJoined
import GoSem.ClaimMapViews
import Derived.JoinedTies
import Derived.KernelRfl
namespace Go.Proofs.Ytnbfpmcpakpboaa
/- THE CELL 'sum', in the pinned program and in every row, IS THE sha256 OF THE DUMP (.gsa) THAT YtnbfpmcpakpboaaProg.lean LOADS. Nothing in Lean hashes anything: it is a label: what it is worth is what the hold of that sum in a sandbox is worth. -/
noncomputable def Try.pinned : Pinned := { name := "ytnbfpmcpakpboaa", sum := "ed2ef7dc25a6de5cddcba4961526955380c6e479f318aeec052d7a3da842c835", checked := Try.checked }
namespace Rows
def none {H : Type} : Left H := { results := [], args := [] }

/-- 'laws.FnAlgebras': WHATEVER THE INPUT: true; the input reads as it did. -/
def fnAlgebrasSpec : ChangeSpec := { name := "fnAlgebras", fn := fun _ => fun
  | [d] => { results := [.lit (.bool true)], args := [d] }
  | _ => none }
def fnAlgebrasRow : OpenClaim := { program := "ytnbfpmcpakpboaa", sum := "ed2ef7dc25a6de5cddcba4961526955380c6e479f318aeec052d7a3da842c835", func := "loop.example/g01230/laws.FnAlgebras", spec := "fnAlgebras", plainKeys := false, apart := false }
def FnAlgebrasSaid : Prop := fnAlgebrasRow.holds Try.pinned (OpenSpec.ofChange fnAlgebrasSpec)

/-- ITS FALSE NEIGHBOUR: 'it returns false'. Refute it at one input. -/
def fnAlgebrasWrong : ChangeSpec := { name := "fnAlgebras", fn := fun _ => fun
  | [d] => { results := [.lit (.bool false)], args := [d] }
  | _ => none }
def FnAlgebrasWrongFalsely : Prop := fnAlgebrasRow.holds Try.pinned (OpenSpec.ofChange fnAlgebrasWrong)

/-- 'laws.FnCoalgebras': WHATEVER THE INPUT: true; the input reads as it did. -/
def fnCoalgebrasSpec : ChangeSpec := { name := "fnCoalgebras", fn := fun _ => fun
  | [d] => { results := [.lit (.bool true)], args := [d] }
  | _ => none }
def fnCoalgebrasRow : OpenClaim := { program := "ytnbfpmcpakpboaa", sum := "ed2ef7dc25a6de5cddcba4961526955380c6e479f318aeec052d7a3da842c835", func := "loop.example/g01230/laws.FnCoalgebras", spec := "fnCoalgebras", plainKeys := false, apart := false }
def FnCoalgebrasSaid : Prop := fnCoalgebrasRow.holds Try.pinned (OpenSpec.ofChange fnCoalgebrasSpec)

/-- ITS FALSE NEIGHBOUR: 'it returns false'. Refute it at one input. -/
def fnCoalgebrasWrong : ChangeSpec := { name := "fnCoalgebras", fn := fun _ => fun
  | [d] => { results := [.lit (.bool false)], args := [d] }
  | _ => none }
def FnCoalgebrasWrongFalsely : Prop := fnCoalgebrasRow.holds Try.pinned (OpenSpec.ofChange fnCoalgebrasWrong)

/-- 'laws.FnConvolutionMaps': WHATEVER THE INPUT: true; the input reads as it did. -/
def fnConvolutionMapsSpec : ChangeSpec := { name := "fnConvolutionMaps", fn := fun _ => fun
  | [d] => { results := [.lit (.bool true)], args := [d] }
  | _ => none }
def fnConvolutionMapsRow : OpenClaim := { program := "ytnbfpmcpakpboaa", sum := "ed2ef7dc25a6de5cddcba4961526955380c6e479f318aeec052d7a3da842c835", func := "loop.example/g01230/laws.FnConvolutionMaps", spec := "fnConvolutionMaps", plainKeys := false, apart := false }
def FnConvolutionMapsSaid : Prop := fnConvolutionMapsRow.holds Try.pinned (OpenSpec.ofChange fnConvolutionMapsSpec)

/-- ITS FALSE NEIGHBOUR: 'it returns false'. Refute it at one input. -/
def fnConvolutionMapsWrong : ChangeSpec := { name := "fnConvolutionMaps", fn := fun _ => fun
  | [d] => { results := [.lit (.bool false)], args := [d] }
  | _ => none }
def FnConvolutionMapsWrongFalsely : Prop := fnConvolutionMapsRow.holds Try.pinned (OpenSpec.ofChange fnConvolutionMapsWrong)

/-- 'laws.FnExactIsPrime': WHATEVER THE INPUT: true; the input reads as it did. -/
def fnExactIsPrimeSpec : ChangeSpec := { name := "fnExactIsPrime", fn := fun _ => fun
  | [d] => { results := [.lit (.bool true)], args := [d] }
  | _ => none }
def fnExactIsPrimeRow : OpenClaim := { program := "ytnbfpmcpakpboaa", sum := "ed2ef7dc25a6de5cddcba4961526955380c6e479f318aeec052d7a3da842c835", func := "loop.example/g01230/laws.FnExactIsPrime", spec := "fnExactIsPrime", plainKeys := false, apart := false }
def FnExactIsPrimeSaid : Prop := fnExactIsPrimeRow.holds Try.pinned (OpenSpec.ofChange fnExactIsPrimeSpec)

/-- ITS FALSE NEIGHBOUR: 'it returns false'. Refute it at one input. -/
def fnExactIsPrimeWrong : ChangeSpec := { name := "fnExactIsPrime", fn := fun _ => fun
  | [d] => { results := [.lit (.bool false)], args := [d] }
  | _ => none }
def FnExactIsPrimeWrongFalsely : Prop := fnExactIsPrimeRow.holds Try.pinned (OpenSpec.ofChange fnExactIsPrimeWrong)

/-- 'laws.FnExactIsVector': WHATEVER THE INPUT: true; the input reads as it did. -/
def fnExactIsVectorSpec : ChangeSpec := { name := "fnExactIsVector", fn := fun _ => fun
  | [d1, d2, d3] => { results := [.lit (.bool true)], args := [d1, d2, d3] }
  | _ => none }
def fnExactIsVectorRow : OpenClaim := { program := "ytnbfpmcpakpboaa", sum := "ed2ef7dc25a6de5cddcba4961526955380c6e479f318aeec052d7a3da842c835", func := "loop.example/g01230/laws.FnExactIsVector", spec := "fnExactIsVector", plainKeys := false, apart := false }
def FnExactIsVectorSaid : Prop := fnExactIsVectorRow.holds Try.pinned (OpenSpec.ofChange fnExactIsVectorSpec)

/-- ITS FALSE NEIGHBOUR: 'it returns false'. Refute it at one input. -/
def fnExactIsVectorWrong : ChangeSpec := { name := "fnExactIsVector", fn := fun _ => fun
  | [d1, d2, d3] => { results := [.lit (.bool false)], args := [d1, d2, d3] }
  | _ => none }
def FnExactIsVectorWrongFalsely : Prop := fnExactIsVectorRow.holds Try.pinned (OpenSpec.ofChange fnExactIsVectorWrong)

/-- 'laws.FnExactIsAlgebra': WHATEVER THE INPUT: true; the input reads as it did. -/
def fnExactIsAlgebraSpec : ChangeSpec := { name := "fnExactIsAlgebra", fn := fun _ => fun
  | [d] => { results := [.lit (.bool true)], args := [d] }
  | _ => none }
def fnExactIsAlgebraRow : OpenClaim := { program := "ytnbfpmcpakpboaa", sum := "ed2ef7dc25a6de5cddcba4961526955380c6e479f318aeec052d7a3da842c835", func := "loop.example/g01230/laws.FnExactIsAlgebra", spec := "fnExactIsAlgebra", plainKeys := false, apart := false }
def FnExactIsAlgebraSaid : Prop := fnExactIsAlgebraRow.holds Try.pinned (OpenSpec.ofChange fnExactIsAlgebraSpec)

/-- ITS FALSE NEIGHBOUR: 'it returns false'. Refute it at one input. -/
def fnExactIsAlgebraWrong : ChangeSpec := { name := "fnExactIsAlgebra", fn := fun _ => fun
  | [d] => { results := [.lit (.bool false)], args := [d] }
  | _ => none }
def FnExactIsAlgebraWrongFalsely : Prop := fnExactIsAlgebraRow.holds Try.pinned (OpenSpec.ofChange fnExactIsAlgebraWrong)

/-- 'laws.FnExactFirstFault': WHATEVER THE INPUT: true; the input reads as it did. -/
def fnExactFirstFaultSpec : ChangeSpec := { name := "fnExactFirstFault", fn := fun _ => fun
  | [d] => { results := [.lit (.bool true)], args := [d] }
  | _ => none }
def fnExactFirstFaultRow : OpenClaim := { program := "ytnbfpmcpakpboaa", sum := "ed2ef7dc25a6de5cddcba4961526955380c6e479f318aeec052d7a3da842c835", func := "loop.example/g01230/laws.FnExactFirstFault", spec := "fnExactFirstFault", plainKeys := false, apart := false }
def FnExactFirstFaultSaid : Prop := fnExactFirstFaultRow.holds Try.pinned (OpenSpec.ofChange fnExactFirstFaultSpec)

/-- ITS FALSE NEIGHBOUR: 'it returns false'. Refute it at one input. -/
def fnExactFirstFaultWrong : ChangeSpec := { name := "fnExactFirstFault", fn := fun _ => fun
  | [d] => { results := [.lit (.bool false)], args := [d] }
  | _ => none }
def FnExactFirstFaultWrongFalsely : Prop := fnExactFirstFaultRow.holds Try.pinned (OpenSpec.ofChange fnExactFirstFaultWrong)

/-- 'laws.FnExactMultiplyVectors': WHATEVER THE INPUT: true; the input reads as it did. -/
def fnExactMultiplyVectorsSpec : ChangeSpec := { name := "fnExactMultiplyVectors", fn := fun _ => fun
  | [d1, d2, d3] => { results := [.lit (.bool true)], args := [d1, d2, d3] }
  | _ => none }
def fnExactMultiplyVectorsRow : OpenClaim := { program := "ytnbfpmcpakpboaa", sum := "ed2ef7dc25a6de5cddcba4961526955380c6e479f318aeec052d7a3da842c835", func := "loop.example/g01230/laws.FnExactMultiplyVectors", spec := "fnExactMultiplyVectors", plainKeys := false, apart := false }
def FnExactMultiplyVectorsSaid : Prop := fnExactMultiplyVectorsRow.holds Try.pinned (OpenSpec.ofChange fnExactMultiplyVectorsSpec)

/-- ITS FALSE NEIGHBOUR: 'it returns false'. Refute it at one input. -/
def fnExactMultiplyVectorsWrong : ChangeSpec := { name := "fnExactMultiplyVectors", fn := fun _ => fun
  | [d1, d2, d3] => { results := [.lit (.bool false)], args := [d1, d2, d3] }
  | _ => none }
def FnExactMultiplyVectorsWrongFalsely : Prop := fnExactMultiplyVectorsRow.holds Try.pinned (OpenSpec.ofChange fnExactMultiplyVectorsWrong)

/-- 'laws.FnExactPowerOf': WHATEVER THE INPUT: true; the input reads as it did. -/
def fnExactPowerOfSpec : ChangeSpec := { name := "fnExactPowerOf", fn := fun _ => fun
  | [d1, d2, d3] => { results := [.lit (.bool true)], args := [d1, d2, d3] }
  | _ => none }
def fnExactPowerOfRow : OpenClaim := { program := "ytnbfpmcpakpboaa", sum := "ed2ef7dc25a6de5cddcba4961526955380c6e479f318aeec052d7a3da842c835", func := "loop.example/g01230/laws.FnExactPowerOf", spec := "fnExactPowerOf", plainKeys := false, apart := false }
def FnExactPowerOfSaid : Prop := fnExactPowerOfRow.holds Try.pinned (OpenSpec.ofChange fnExactPowerOfSpec)

/-- ITS FALSE NEIGHBOUR: 'it returns false'. Refute it at one input. -/
def fnExactPowerOfWrong : ChangeSpec := { name := "fnExactPowerOf", fn := fun _ => fun
  | [d1, d2, d3] => { results := [.lit (.bool false)], args := [d1, d2, d3] }
  | _ => none }
def FnExactPowerOfWrongFalsely : Prop := fnExactPowerOfRow.holds Try.pinned (OpenSpec.ofChange fnExactPowerOfWrong)

/- THE SECOND FORM. 'bulk': how many values and letters a reading holds, each counted each time it is reached (what is shared counts as often as it is met; a slice's spare places count too). A statement '..UptoSaid' is the law's where the arguments, and the package variables that the reading takes, are together of bulk at most 1048576: NARROWER than '..Said'. Prove '..Said' where nothing that the law and all that it calls make is longer than what came in: it says more and counts as full. Else prove '..UptoSaid'. A law counts once. -/
mutual
def uptoBulk {H : Type} : DataW H → Nat
  | .lit (.string bytes) => bytes.length + 1
  | .lit _ => 1
  | .nil => 1
  | .ptr d => uptoBulk d + 1
  | .slice elems spare => uptoBulkAll elems + uptoBulkAll spare + 1
  | .agg parts => uptoBulkAll parts + 1
  | .iface _ d => uptoBulk d + 1
  | .map entries => uptoBulkEntries entries + 1
  | .held _ => 1
def uptoBulkAll {H : Type} : List (DataW H) → Nat
  | [] => 0
  | d :: r => uptoBulk d + uptoBulkAll r
def uptoBulkEntries {H : Type} : List (Lit × DataW H) → Nat
  | [] => 0
  | x :: r => uptoBulkEntry x + uptoBulkEntries r
def uptoBulkEntry {H : Type} : Lit × DataW H → Nat
  | (.string bytes, d) => bytes.length + uptoBulk d + 1
  | (_, d) => uptoBulk d + 1
 end
def uptoSmall : (H : Type) → List (DataW H) → Bool := fun _ ds => decide (uptoBulkAll ds ≤ 1048576)
def OpenSpec.upto (s : _root_.Go.ChangeSpec) : _root_.Go.OpenSpec := { _root_.Go.OpenSpec.ofChange s with cond := some uptoSmall }

/-- 'laws.FnAlgebras', WHERE WHAT IT READS IS OF BULK AT MOST 1048576: true; the input reads as it did. -/
def fnAlgebrasUptoRow : OpenClaim := { program := "ytnbfpmcpakpboaa", sum := "ed2ef7dc25a6de5cddcba4961526955380c6e479f318aeec052d7a3da842c835", func := "loop.example/g01230/laws.FnAlgebras", spec := "fnAlgebras", plainKeys := false, apart := false, narrowed := true }
def FnAlgebrasUptoSaid : Prop := fnAlgebrasUptoRow.holds Try.pinned (OpenSpec.upto fnAlgebrasSpec)

/-- 'laws.FnCoalgebras', WHERE WHAT IT READS IS OF BULK AT MOST 1048576: true; the input reads as it did. -/
def fnCoalgebrasUptoRow : OpenClaim := { program := "ytnbfpmcpakpboaa", sum := "ed2ef7dc25a6de5cddcba4961526955380c6e479f318aeec052d7a3da842c835", func := "loop.example/g01230/laws.FnCoalgebras", spec := "fnCoalgebras", plainKeys := false, apart := false, narrowed := true }
def FnCoalgebrasUptoSaid : Prop := fnCoalgebrasUptoRow.holds Try.pinned (OpenSpec.upto fnCoalgebrasSpec)

/-- 'laws.FnConvolutionMaps', WHERE WHAT IT READS IS OF BULK AT MOST 1048576: true; the input reads as it did. -/
def fnConvolutionMapsUptoRow : OpenClaim := { program := "ytnbfpmcpakpboaa", sum := "ed2ef7dc25a6de5cddcba4961526955380c6e479f318aeec052d7a3da842c835", func := "loop.example/g01230/laws.FnConvolutionMaps", spec := "fnConvolutionMaps", plainKeys := false, apart := false, narrowed := true }
def FnConvolutionMapsUptoSaid : Prop := fnConvolutionMapsUptoRow.holds Try.pinned (OpenSpec.upto fnConvolutionMapsSpec)

/-- 'laws.FnExactIsPrime', WHERE WHAT IT READS IS OF BULK AT MOST 1048576: true; the input reads as it did. -/
def fnExactIsPrimeUptoRow : OpenClaim := { program := "ytnbfpmcpakpboaa", sum := "ed2ef7dc25a6de5cddcba4961526955380c6e479f318aeec052d7a3da842c835", func := "loop.example/g01230/laws.FnExactIsPrime", spec := "fnExactIsPrime", plainKeys := false, apart := false, narrowed := true }
def FnExactIsPrimeUptoSaid : Prop := fnExactIsPrimeUptoRow.holds Try.pinned (OpenSpec.upto fnExactIsPrimeSpec)

/-- 'laws.FnExactIsVector', WHERE WHAT IT READS IS OF BULK AT MOST 1048576: true; the input reads as it did. -/
def fnExactIsVectorUptoRow : OpenClaim := { program := "ytnbfpmcpakpboaa", sum := "ed2ef7dc25a6de5cddcba4961526955380c6e479f318aeec052d7a3da842c835", func := "loop.example/g01230/laws.FnExactIsVector", spec := "fnExactIsVector", plainKeys := false, apart := false, narrowed := true }
def FnExactIsVectorUptoSaid : Prop := fnExactIsVectorUptoRow.holds Try.pinned (OpenSpec.upto fnExactIsVectorSpec)

/-- 'laws.FnExactIsAlgebra', WHERE WHAT IT READS IS OF BULK AT MOST 1048576: true; the input reads as it did. -/
def fnExactIsAlgebraUptoRow : OpenClaim := { program := "ytnbfpmcpakpboaa", sum := "ed2ef7dc25a6de5cddcba4961526955380c6e479f318aeec052d7a3da842c835", func := "loop.example/g01230/laws.FnExactIsAlgebra", spec := "fnExactIsAlgebra", plainKeys := false, apart := false, narrowed := true }
def FnExactIsAlgebraUptoSaid : Prop := fnExactIsAlgebraUptoRow.holds Try.pinned (OpenSpec.upto fnExactIsAlgebraSpec)

/-- 'laws.FnExactFirstFault', WHERE WHAT IT READS IS OF BULK AT MOST 1048576: true; the input reads as it did. -/
def fnExactFirstFaultUptoRow : OpenClaim := { program := "ytnbfpmcpakpboaa", sum := "ed2ef7dc25a6de5cddcba4961526955380c6e479f318aeec052d7a3da842c835", func := "loop.example/g01230/laws.FnExactFirstFault", spec := "fnExactFirstFault", plainKeys := false, apart := false, narrowed := true }
def FnExactFirstFaultUptoSaid : Prop := fnExactFirstFaultUptoRow.holds Try.pinned (OpenSpec.upto fnExactFirstFaultSpec)

/-- 'laws.FnExactMultiplyVectors', WHERE WHAT IT READS IS OF BULK AT MOST 1048576: true; the input reads as it did. -/
def fnExactMultiplyVectorsUptoRow : OpenClaim := { program := "ytnbfpmcpakpboaa", sum := "ed2ef7dc25a6de5cddcba4961526955380c6e479f318aeec052d7a3da842c835", func := "loop.example/g01230/laws.FnExactMultiplyVectors", spec := "fnExactMultiplyVectors", plainKeys := false, apart := false, narrowed := true }
def FnExactMultiplyVectorsUptoSaid : Prop := fnExactMultiplyVectorsUptoRow.holds Try.pinned (OpenSpec.upto fnExactMultiplyVectorsSpec)

/-- 'laws.FnExactPowerOf', WHERE WHAT IT READS IS OF BULK AT MOST 1048576: true; the input reads as it did. -/
def fnExactPowerOfUptoRow : OpenClaim := { program := "ytnbfpmcpakpboaa", sum := "ed2ef7dc25a6de5cddcba4961526955380c6e479f318aeec052d7a3da842c835", func := "loop.example/g01230/laws.FnExactPowerOf", spec := "fnExactPowerOf", plainKeys := false, apart := false, narrowed := true }
def FnExactPowerOfUptoSaid : Prop := fnExactPowerOfUptoRow.holds Try.pinned (OpenSpec.upto fnExactPowerOfSpec)

end Rows
end Go.Proofs.Ytnbfpmcpakpboaa
