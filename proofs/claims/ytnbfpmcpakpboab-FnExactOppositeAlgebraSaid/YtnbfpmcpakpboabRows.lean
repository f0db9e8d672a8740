/-
  No cell of these rows narrows 'for every input' (looked for: loops, veiled, ifaces, maps, wideKeys, modest, calm, conditions, laid).
  DERIVED. THE GIVEN ROWS OF THIS SEAT. 10 by the template 'for every input the law returns true; each argument reads behind the call as it read before'; 0 by the template 'total and deterministic' (their statements: YtnbfpmcpakpboabTotals.lean).
  GIVEN WITH THE SEED: the statements are not yours to turn. If you find one false, say at which input.
  Laid BY PROGRAM, IN A SANDBOX (cutbox-rows.mjs): the forced cells as the released guide's own fill.sh prints them over the translation dc1a96ca21b1f3e4… (all of the seat's roots in one cut). By AI agents, Wed Nov 11 2026. No macro, syntax, notation, axiom, sorry.
-/
import Derived.Test.YtnbfpmcpakpboabChecked
import GoSem.Claim
import GoSem.ClaimJoined
import GoSem.ClaimMapViews
import Derived.JoinedTies
import Derived.KernelRfl
namespace Go.Proofs.Ytnbfpmcpakpboab
/- THE CELL 'sum', in the pinned program and in every row, IS THE sha256 OF THE DUMP (.gsa) THAT YtnbfpmcpakpboabProg.lean LOADS. Nothing in Lean hashes anything: it is a label: what it is worth is what the hold of that sum in a sandbox is worth. -/
noncomputable def Try.pinned : Pinned := { name := "ytnbfpmcpakpboab", sum := "dc1a96ca21b1f3e4a5b631d08cd7657adc852ac9a381e2fcf111f11bab78bcc6", checked := Try.checked }
namespace Rows
def none {H : Type} : Left H := { results := [], args := [] }

/-- 'laws.FnExactInverseOf': WHATEVER THE INPUT: true; the input reads as it did. -/
def fnExactInverseOfSpec : ChangeSpec := { name := "fnExactInverseOf", fn := fun _ => fun
  | [d1, d2] => { results := [.lit (.bool true)], args := [d1, d2] }
  | _ => none }
def fnExactInverseOfRow : OpenClaim := { program := "ytnbfpmcpakpboab", sum := "dc1a96ca21b1f3e4a5b631d08cd7657adc852ac9a381e2fcf111f11bab78bcc6", func := "loop.example/g01230/laws.FnExactInverseOf", spec := "fnExactInverseOf", plainKeys := false, apart := false }
def FnExactInverseOfSaid : Prop := fnExactInverseOfRow.holds Try.pinned (OpenSpec.ofChange fnExactInverseOfSpec)

/-- ITS FALSE NEIGHBOUR: 'it returns false'. Refute it at one input. -/
def fnExactInverseOfWrong : ChangeSpec := { name := "fnExactInverseOf", fn := fun _ => fun
  | [d1, d2] => { results := [.lit (.bool false)], args := [d1, d2] }
  | _ => none }
def FnExactInverseOfWrongFalsely : Prop := fnExactInverseOfRow.holds Try.pinned (OpenSpec.ofChange fnExactInverseOfWrong)

/-- 'laws.FnExactCentreOf': WHATEVER THE INPUT: true; the input reads as it did. -/
def fnExactCentreOfSpec : ChangeSpec := { name := "fnExactCentreOf", fn := fun _ => fun
  | [d] => { results := [.lit (.bool true)], args := [d] }
  | _ => none }
def fnExactCentreOfRow : OpenClaim := { program := "ytnbfpmcpakpboab", sum := "dc1a96ca21b1f3e4a5b631d08cd7657adc852ac9a381e2fcf111f11bab78bcc6", func := "loop.example/g01230/laws.FnExactCentreOf", spec := "fnExactCentreOf", plainKeys := false, apart := false }
def FnExactCentreOfSaid : Prop := fnExactCentreOfRow.holds Try.pinned (OpenSpec.ofChange fnExactCentreOfSpec)

/-- ITS FALSE NEIGHBOUR: 'it returns false'. Refute it at one input. -/
def fnExactCentreOfWrong : ChangeSpec := { name := "fnExactCentreOf", fn := fun _ => fun
  | [d] => { results := [.lit (.bool false)], args := [d] }
  | _ => none }
def FnExactCentreOfWrongFalsely : Prop := fnExactCentreOfRow.holds Try.pinned (OpenSpec.ofChange fnExactCentreOfWrong)

/-- 'laws.FnExactIsCommutative': WHATEVER THE INPUT: true; the input reads as it did. -/
def fnExactIsCommutativeSpec : ChangeSpec := { name := "fnExactIsCommutative", fn := fun _ => fun
  | [d] => { results := [.lit (.bool true)], args := [d] }
  | _ => none }
def fnExactIsCommutativeRow : OpenClaim := { program := "ytnbfpmcpakpboab", sum := "dc1a96ca21b1f3e4a5b631d08cd7657adc852ac9a381e2fcf111f11bab78bcc6", func := "loop.example/g01230/laws.FnExactIsCommutative", spec := "fnExactIsCommutative", plainKeys := false, apart := false }
def FnExactIsCommutativeSaid : Prop := fnExactIsCommutativeRow.holds Try.pinned (OpenSpec.ofChange fnExactIsCommutativeSpec)

/-- ITS FALSE NEIGHBOUR: 'it returns false'. Refute it at one input. -/
def fnExactIsCommutativeWrong : ChangeSpec := { name := "fnExactIsCommutative", fn := fun _ => fun
  | [d] => { results := [.lit (.bool false)], args := [d] }
  | _ => none }
def FnExactIsCommutativeWrongFalsely : Prop := fnExactIsCommutativeRow.holds Try.pinned (OpenSpec.ofChange fnExactIsCommutativeWrong)

/-- 'laws.FnExactLeftTable': WHATEVER THE INPUT: true; the input reads as it did. -/
def fnExactLeftTableSpec : ChangeSpec := { name := "fnExactLeftTable", fn := fun _ => fun
  | [d1, d2] => { results := [.lit (.bool true)], args := [d1, d2] }
  | _ => none }
def fnExactLeftTableRow : OpenClaim := { program := "ytnbfpmcpakpboab", sum := "dc1a96ca21b1f3e4a5b631d08cd7657adc852ac9a381e2fcf111f11bab78bcc6", func := "loop.example/g01230/laws.FnExactLeftTable", spec := "fnExactLeftTable", plainKeys := false, apart := false }
def FnExactLeftTableSaid : Prop := fnExactLeftTableRow.holds Try.pinned (OpenSpec.ofChange fnExactLeftTableSpec)

/-- ITS FALSE NEIGHBOUR: 'it returns false'. Refute it at one input. -/
def fnExactLeftTableWrong : ChangeSpec := { name := "fnExactLeftTable", fn := fun _ => fun
  | [d1, d2] => { results := [.lit (.bool false)], args := [d1, d2] }
  | _ => none }
def FnExactLeftTableWrongFalsely : Prop := fnExactLeftTableRow.holds Try.pinned (OpenSpec.ofChange fnExactLeftTableWrong)

/-- 'laws.FnExactTraceOf': WHATEVER THE INPUT: true; the input reads as it did. -/
def fnExactTraceOfSpec : ChangeSpec := { name := "fnExactTraceOf", fn := fun _ => fun
  | [d1, d2] => { results := [.lit (.bool true)], args := [d1, d2] }
  | _ => none }
def fnExactTraceOfRow : OpenClaim := { program := "ytnbfpmcpakpboab", sum := "dc1a96ca21b1f3e4a5b631d08cd7657adc852ac9a381e2fcf111f11bab78bcc6", func := "loop.example/g01230/laws.FnExactTraceOf", spec := "fnExactTraceOf", plainKeys := false, apart := false }
def FnExactTraceOfSaid : Prop := fnExactTraceOfRow.holds Try.pinned (OpenSpec.ofChange fnExactTraceOfSpec)

/-- ITS FALSE NEIGHBOUR: 'it returns false'. Refute it at one input. -/
def fnExactTraceOfWrong : ChangeSpec := { name := "fnExactTraceOf", fn := fun _ => fun
  | [d1, d2] => { results := [.lit (.bool false)], args := [d1, d2] }
  | _ => none }
def FnExactTraceOfWrongFalsely : Prop := fnExactTraceOfRow.holds Try.pinned (OpenSpec.ofChange fnExactTraceOfWrong)

/-- 'laws.FnExactOppositeAlgebra': WHATEVER THE INPUT: true; the input reads as it did. -/
def fnExactOppositeAlgebraSpec : ChangeSpec := { name := "fnExactOppositeAlgebra", fn := fun _ => fun
  | [d] => { results := [.lit (.bool true)], args := [d] }
  | _ => none }
def fnExactOppositeAlgebraRow : OpenClaim := { program := "ytnbfpmcpakpboab", sum := "dc1a96ca21b1f3e4a5b631d08cd7657adc852ac9a381e2fcf111f11bab78bcc6", func := "loop.example/g01230/laws.FnExactOppositeAlgebra", spec := "fnExactOppositeAlgebra", plainKeys := false, apart := false }
def FnExactOppositeAlgebraSaid : Prop := fnExactOppositeAlgebraRow.holds Try.pinned (OpenSpec.ofChange fnExactOppositeAlgebraSpec)

/-- ITS FALSE NEIGHBOUR: 'it returns false'. Refute it at one input. -/
def fnExactOppositeAlgebraWrong : ChangeSpec := { name := "fnExactOppositeAlgebra", fn := fun _ => fun
  | [d] => { results := [.lit (.bool false)], args := [d] }
  | _ => none }
def FnExactOppositeAlgebraWrongFalsely : Prop := fnExactOppositeAlgebraRow.holds Try.pinned (OpenSpec.ofChange fnExactOppositeAlgebraWrong)

/-- 'laws.FnExactProductAlgebra': WHATEVER THE INPUT: true; the input reads as it did. -/
def fnExactProductAlgebraSpec : ChangeSpec := { name := "fnExactProductAlgebra", fn := fun _ => fun
  | [d1, d2] => { results := [.lit (.bool true)], args := [d1, d2] }
  | _ => none }
def fnExactProductAlgebraRow : OpenClaim := { program := "ytnbfpmcpakpboab", sum := "dc1a96ca21b1f3e4a5b631d08cd7657adc852ac9a381e2fcf111f11bab78bcc6", func := "loop.example/g01230/laws.FnExactProductAlgebra", spec := "fnExactProductAlgebra", plainKeys := false, apart := false }
def FnExactProductAlgebraSaid : Prop := fnExactProductAlgebraRow.holds Try.pinned (OpenSpec.ofChange fnExactProductAlgebraSpec)

/-- ITS FALSE NEIGHBOUR: 'it returns false'. Refute it at one input. -/
def fnExactProductAlgebraWrong : ChangeSpec := { name := "fnExactProductAlgebra", fn := fun _ => fun
  | [d1, d2] => { results := [.lit (.bool false)], args := [d1, d2] }
  | _ => none }
def FnExactProductAlgebraWrongFalsely : Prop := fnExactProductAlgebraRow.holds Try.pinned (OpenSpec.ofChange fnExactProductAlgebraWrong)

/-- 'laws.FnExactReduceVectors': WHATEVER THE INPUT: true; the input reads as it did. -/
def fnExactReduceVectorsSpec : ChangeSpec := { name := "fnExactReduceVectors", fn := fun _ => fun
  | [d1, d2, d3] => { results := [.lit (.bool true)], args := [d1, d2, d3] }
  | _ => none }
def fnExactReduceVectorsRow : OpenClaim := { program := "ytnbfpmcpakpboab", sum := "dc1a96ca21b1f3e4a5b631d08cd7657adc852ac9a381e2fcf111f11bab78bcc6", func := "loop.example/g01230/laws.FnExactReduceVectors", spec := "fnExactReduceVectors", plainKeys := false, apart := false }
def FnExactReduceVectorsSaid : Prop := fnExactReduceVectorsRow.holds Try.pinned (OpenSpec.ofChange fnExactReduceVectorsSpec)

/-- ITS FALSE NEIGHBOUR: 'it returns false'. Refute it at one input. -/
def fnExactReduceVectorsWrong : ChangeSpec := { name := "fnExactReduceVectors", fn := fun _ => fun
  | [d1, d2, d3] => { results := [.lit (.bool false)], args := [d1, d2, d3] }
  | _ => none }
def FnExactReduceVectorsWrongFalsely : Prop := fnExactReduceVectorsRow.holds Try.pinned (OpenSpec.ofChange fnExactReduceVectorsWrong)

/-- 'laws.FnExactIsCoalgebra': WHATEVER THE INPUT: true; the input reads as it did. -/
def fnExactIsCoalgebraSpec : ChangeSpec := { name := "fnExactIsCoalgebra", fn := fun _ => fun
  | [d] => { results := [.lit (.bool true)], args := [d] }
  | _ => none }
def fnExactIsCoalgebraRow : OpenClaim := { program := "ytnbfpmcpakpboab", sum := "dc1a96ca21b1f3e4a5b631d08cd7657adc852ac9a381e2fcf111f11bab78bcc6", func := "loop.example/g01230/laws.FnExactIsCoalgebra", spec := "fnExactIsCoalgebra", plainKeys := false, apart := false }
def FnExactIsCoalgebraSaid : Prop := fnExactIsCoalgebraRow.holds Try.pinned (OpenSpec.ofChange fnExactIsCoalgebraSpec)

/-- ITS FALSE NEIGHBOUR: 'it returns false'. Refute it at one input. -/
def fnExactIsCoalgebraWrong : ChangeSpec := { name := "fnExactIsCoalgebra", fn := fun _ => fun
  | [d] => { results := [.lit (.bool false)], args := [d] }
  | _ => none }
def FnExactIsCoalgebraWrongFalsely : Prop := fnExactIsCoalgebraRow.holds Try.pinned (OpenSpec.ofChange fnExactIsCoalgebraWrong)

/-- 'laws.FnExactFirstCoFault': WHATEVER THE INPUT: true; the input reads as it did. -/
def fnExactFirstCoFaultSpec : ChangeSpec := { name := "fnExactFirstCoFault", fn := fun _ => fun
  | [d] => { results := [.lit (.bool true)], args := [d] }
  | _ => none }
def fnExactFirstCoFaultRow : OpenClaim := { program := "ytnbfpmcpakpboab", sum := "dc1a96ca21b1f3e4a5b631d08cd7657adc852ac9a381e2fcf111f11bab78bcc6", func := "loop.example/g01230/laws.FnExactFirstCoFault", spec := "fnExactFirstCoFault", plainKeys := false, apart := false }
def FnExactFirstCoFaultSaid : Prop := fnExactFirstCoFaultRow.holds Try.pinned (OpenSpec.ofChange fnExactFirstCoFaultSpec)

/-- ITS FALSE NEIGHBOUR: 'it returns false'. Refute it at one input. -/
def fnExactFirstCoFaultWrong : ChangeSpec := { name := "fnExactFirstCoFault", fn := fun _ => fun
  | [d] => { results := [.lit (.bool false)], args := [d] }
  | _ => none }
def FnExactFirstCoFaultWrongFalsely : Prop := fnExactFirstCoFaultRow.holds Try.pinned (OpenSpec.ofChange fnExactFirstCoFaultWrong)

/- THE SECOND FORM. 'bulk': how many values and letters a reading holds, each counted each time it is reached (what is shared counts as often as it is met; a slice's spare places count too). A statement '..UptoSaid' is the law's where the arguments, and the package variables that the reading takes, are together of bulk at most 1048576: NARROWER than '..Said'. Prove '..Said' where nothing that the law and all that it calls make is longer than what came in: it says more and counts as full. Else prove '..UptoSaid'. A law counts once. -/
mutual
def uptoBulk {H : Type} : DataW H → Nat
  | .lit (.string bytes) => bytes.length + 1
  | .lit _ => 1
  | .nil => 1
  | .ptr d => uptoBulk d + 1
  | .slice elems spare => uptoBulkAll elems + uptoBulkAll spare + 1
  | .agg parts => uptoBulkAll parts + 1
  | .iface _ d => uptoBulk d + 1
  | .map entries => uptoBulkEntries entries + 1
  | .held _ => 1
def uptoBulkAll {H : Type} : List (DataW H) → Nat
  | [] => 0
  | d :: r => uptoBulk d + uptoBulkAll r
def uptoBulkEntries {H : Type} : List (Lit × DataW H) → Nat
  | [] => 0
  | x :: r => uptoBulkEntry x + uptoBulkEntries r
def uptoBulkEntry {H : Type} : Lit × DataW H → Nat
  | (.string bytes, d) => bytes.length + uptoBulk d + 1
  | (_, d) => uptoBulk d + 1
 end
def uptoSmall : (H : Type) → List (DataW H) → Bool := fun _ ds => decide (uptoBulkAll ds ≤ 1048576)
def OpenSpec.upto (s : _root_.Go.ChangeSpec) : _root_.Go.OpenSpec := { _root_.Go.OpenSpec.ofChange s with cond := some uptoSmall }

/-- 'laws.FnExactInverseOf', WHERE WHAT IT READS IS OF BULK AT MOST 1048576: true; the input reads as it did. -/
def fnExactInverseOfUptoRow : OpenClaim := { program := "ytnbfpmcpakpboab", sum := "dc1a96ca21b1f3e4a5b631d08cd7657adc852ac9a381e2fcf111f11bab78bcc6", func := "loop.example/g01230/laws.FnExactInverseOf", spec := "fnExactInverseOf", plainKeys := false, apart := false, narrowed := true }
def FnExactInverseOfUptoSaid : Prop := fnExactInverseOfUptoRow.holds Try.pinned (OpenSpec.upto fnExactInverseOfSpec)

/-- 'laws.FnExactCentreOf', WHERE WHAT IT READS IS OF BULK AT MOST 1048576: true; the input reads as it did. -/
def fnExactCentreOfUptoRow : OpenClaim := { program := "ytnbfpmcpakpboab", sum := "dc1a96ca21b1f3e4a5b631d08cd7657adc852ac9a381e2fcf111f11bab78bcc6", func := "loop.example/g01230/laws.FnExactCentreOf", spec := "fnExactCentreOf", plainKeys := false, apart := false, narrowed := true }
def FnExactCentreOfUptoSaid : Prop := fnExactCentreOfUptoRow.holds Try.pinned (OpenSpec.upto fnExactCentreOfSpec)

/-- 'laws.FnExactIsCommutative', WHERE WHAT IT READS IS OF BULK AT MOST 1048576: true; the input reads as it did. -/
def fnExactIsCommutativeUptoRow : OpenClaim := { program := "ytnbfpmcpakpboab", sum := "dc1a96ca21b1f3e4a5b631d08cd7657adc852ac9a381e2fcf111f11bab78bcc6", func := "loop.example/g01230/laws.FnExactIsCommutative", spec := "fnExactIsCommutative", plainKeys := false, apart := false, narrowed := true }
def FnExactIsCommutativeUptoSaid : Prop := fnExactIsCommutativeUptoRow.holds Try.pinned (OpenSpec.upto fnExactIsCommutativeSpec)

/-- 'laws.FnExactLeftTable', WHERE WHAT IT READS IS OF BULK AT MOST 1048576: true; the input reads as it did. -/
def fnExactLeftTableUptoRow : OpenClaim := { program := "ytnbfpmcpakpboab", sum := "dc1a96ca21b1f3e4a5b631d08cd7657adc852ac9a381e2fcf111f11bab78bcc6", func := "loop.example/g01230/laws.FnExactLeftTable", spec := "fnExactLeftTable", plainKeys := false, apart := false, narrowed := true }
def FnExactLeftTableUptoSaid : Prop := fnExactLeftTableUptoRow.holds Try.pinned (OpenSpec.upto fnExactLeftTableSpec)

/-- 'laws.FnExactTraceOf', WHERE WHAT IT READS IS OF BULK AT MOST 1048576: true; the input reads as it did. -/
def fnExactTraceOfUptoRow : OpenClaim := { program := "ytnbfpmcpakpboab", sum := "dc1a96ca21b1f3e4a5b631d08cd7657adc852ac9a381e2fcf111f11bab78bcc6", func := "loop.example/g01230/laws.FnExactTraceOf", spec := "fnExactTraceOf", plainKeys := false, apart := false, narrowed := true }
def FnExactTraceOfUptoSaid : Prop := fnExactTraceOfUptoRow.holds Try.pinned (OpenSpec.upto fnExactTraceOfSpec)

/-- 'laws.FnExactOppositeAlgebra', WHERE WHAT IT READS IS OF BULK AT MOST 1048576: true; the input reads as it did. -/
def fnExactOppositeAlgebraUptoRow : OpenClaim := { program := "ytnbfpmcpakpboab", sum := "dc1a96ca21b1f3e4a5b631d08cd7657adc852ac9a381e2fcf111f11bab78bcc6", func := "loop.example/g01230/laws.FnExactOppositeAlgebra", spec := "fnExactOppositeAlgebra", plainKeys := false, apart := false, narrowed := true }
def FnExactOppositeAlgebraUptoSaid : Prop := fnExactOppositeAlgebraUptoRow.holds Try.pinned (OpenSpec.upto fnExactOppositeAlgebraSpec)

/-- 'laws.FnExactProductAlgebra', WHERE WHAT IT READS IS OF BULK AT MOST 1048576: true; the input reads as it did. -/
def fnExactProductAlgebraUptoRow : OpenClaim := { program := "ytnbfpmcpakpboab", sum := "dc1a96ca21b1f3e4a5b631d08cd7657adc852ac9a381e2fcf111f11bab78bcc6", func := "loop.example/g01230/laws.FnExactProductAlgebra", spec := "fnExactProductAlgebra", plainKeys := false, apart := false, narrowed := true }
def FnExactProductAlgebraUptoSaid : Prop := fnExactProductAlgebraUptoRow.holds Try.pinned (OpenSpec.upto fnExactProductAlgebraSpec)

/-- 'laws.FnExactReduceVectors', WHERE WHAT IT READS IS OF BULK AT MOST 1048576: true; the input reads as it did. -/
def fnExactReduceVectorsUptoRow : OpenClaim := { program := "ytnbfpmcpakpboab", sum := "dc1a96ca21b1f3e4a5b631d08cd7657adc852ac9a381e2fcf111f11bab78bcc6", func := "loop.example/g01230/laws.FnExactReduceVectors", spec := "fnExactReduceVectors", plainKeys := false, apart := false, narrowed := true }
def FnExactReduceVectorsUptoSaid : Prop := fnExactReduceVectorsUptoRow.holds Try.pinned (OpenSpec.upto fnExactReduceVectorsSpec)

/-- 'laws.FnExactIsCoalgebra', WHERE WHAT IT READS IS OF BULK AT MOST 1048576: true; the input reads as it did. -/
def fnExactIsCoalgebraUptoRow : OpenClaim := { program := "ytnbfpmcpakpboab", sum := "dc1a96ca21b1f3e4a5b631d08cd7657adc852ac9a381e2fcf111f11bab78bcc6", func := "loop.example/g01230/laws.FnExactIsCoalgebra", spec := "fnExactIsCoalgebra", plainKeys := false, apart := false, narrowed := true }
def FnExactIsCoalgebraUptoSaid : Prop := fnExactIsCoalgebraUptoRow.holds Try.pinned (OpenSpec.upto fnExactIsCoalgebraSpec)

/-- 'laws.FnExactFirstCoFault', WHERE WHAT IT READS IS OF BULK AT MOST 1048576: true; the input reads as it did. -/
def fnExactFirstCoFaultUptoRow : OpenClaim := { program := "ytnbfpmcpakpboab", sum := "dc1a96ca21b1f3e4a5b631d08cd7657adc852ac9a381e2fcf111f11bab78bcc6", func := "loop.example/g01230/laws.FnExactFirstCoFault", spec := "fnExactFirstCoFault", plainKeys := false, apart := false, narrowed := true }
def FnExactFirstCoFaultUptoSaid : Prop := fnExactFirstCoFaultUptoRow.holds Try.pinned (OpenSpec.upto fnExactFirstCoFaultSpec)

end Rows
end Go.Proofs.Ytnbfpmcpakpboab
