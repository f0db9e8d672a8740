/-
  No cell of these rows narrows 'for every input' (looked for: loops, veiled, ifaces, maps, wideKeys, modest, calm, conditions, laid).
  DERIVED. THE GIVEN ROWS OF THIS SEAT. 4 by the template 'for every input the law returns true; each argument reads behind the call as it read before'; 0 by the template 'total and deterministic' (their statements: YtmhebgcnloomaabTotals.lean).
  GIVEN WITH THE SEED: the statements are not yours to turn. If you find one false, say at which input.
  Laid BY PROGRAM, IN A SANDBOX (cutbox-rows.mjs): the forced cells as the released guide's own fill.sh prints them over the translation fca071bd7903a80a… (all of the seat's roots in one cut). By AI agents, Wed Nov 11 2026. No macro, syntax, notation, axiom, sorry.
-/
import Derived.Test.YtmhebgcnloomaabChecked
import GoSem.Claim
import GoSem.ClaimJoined
import GoSem.ClaimMapViews
import Derived.JoinedTies
import Derived.KernelRfl
namespace Go.Proofs.Ytmhebgcnloomaab
/- THE CELL 'sum', in the pinned program and in every row, IS THE sha256 OF THE DUMP (.gsa) THAT YtmhebgcnloomaabProg.lean LOADS. Nothing in Lean hashes anything: it is a label: what it is worth is what the hold of that sum in a sandbox is worth. -/
noncomputable def Try.pinned : Pinned := { name := "ytmhebgcnloomaab", sum := "fca071bd7903a80accc742c0bfb705e95f056dd85009882181df11d003bc44f8", checked := Try.checked }
namespace Rows
def none {H : Type} : Left H := { results := [], args := [] }

/-- 'laws.FnExactAxiomThatFails': WHATEVER THE INPUT: true; the input reads as it did. -/
def fnExactAxiomThatFailsSpec : ChangeSpec := { name := "fnExactAxiomThatFails", fn := fun _ => fun
  | [d] => { results := [.lit (.bool true)], args := [d] }
  | _ => none }
def fnExactAxiomThatFailsRow : OpenClaim := { program := "ytmhebgcnloomaab", sum := "fca071bd7903a80accc742c0bfb705e95f056dd85009882181df11d003bc44f8", func := "loop.example/g01230/laws.FnExactAxiomThatFails", spec := "fnExactAxiomThatFails", unfollowed := true, recurses := true, apart := false }
def FnExactAxiomThatFailsSaid : Prop := fnExactAxiomThatFailsRow.holds Try.pinned (OpenSpec.ofChange fnExactAxiomThatFailsSpec)

/-- ITS FALSE NEIGHBOUR: 'it returns false'. Refute it at one input. -/
def fnExactAxiomThatFailsWrong : ChangeSpec := { name := "fnExactAxiomThatFails", fn := fun _ => fun
  | [d] => { results := [.lit (.bool false)], args := [d] }
  | _ => none }
def FnExactAxiomThatFailsWrongFalsely : Prop := fnExactAxiomThatFailsRow.holds Try.pinned (OpenSpec.ofChange fnExactAxiomThatFailsWrong)

/-- 'laws.FnExactAlgebraOf': WHATEVER THE INPUT: true; the input reads as it did. -/
def fnExactAlgebraOfSpec : ChangeSpec := { name := "fnExactAlgebraOf", fn := fun _ => fun
  | [d] => { results := [.lit (.bool true)], args := [d] }
  | _ => none }
def fnExactAlgebraOfRow : OpenClaim := { program := "ytmhebgcnloomaab", sum := "fca071bd7903a80accc742c0bfb705e95f056dd85009882181df11d003bc44f8", func := "loop.example/g01230/laws.FnExactAlgebraOf", spec := "fnExactAlgebraOf", unfollowed := true, recurses := true, apart := false }
def FnExactAlgebraOfSaid : Prop := fnExactAlgebraOfRow.holds Try.pinned (OpenSpec.ofChange fnExactAlgebraOfSpec)

/-- ITS FALSE NEIGHBOUR: 'it returns false'. Refute it at one input. -/
def fnExactAlgebraOfWrong : ChangeSpec := { name := "fnExactAlgebraOf", fn := fun _ => fun
  | [d] => { results := [.lit (.bool false)], args := [d] }
  | _ => none }
def FnExactAlgebraOfWrongFalsely : Prop := fnExactAlgebraOfRow.holds Try.pinned (OpenSpec.ofChange fnExactAlgebraOfWrong)

/-- 'laws.FnExactCoalgebraOf': WHATEVER THE INPUT: true; the input reads as it did. -/
def fnExactCoalgebraOfSpec : ChangeSpec := { name := "fnExactCoalgebraOf", fn := fun _ => fun
  | [d] => { results := [.lit (.bool true)], args := [d] }
  | _ => none }
def fnExactCoalgebraOfRow : OpenClaim := { program := "ytmhebgcnloomaab", sum := "fca071bd7903a80accc742c0bfb705e95f056dd85009882181df11d003bc44f8", func := "loop.example/g01230/laws.FnExactCoalgebraOf", spec := "fnExactCoalgebraOf", unfollowed := true, recurses := true, apart := false }
def FnExactCoalgebraOfSaid : Prop := fnExactCoalgebraOfRow.holds Try.pinned (OpenSpec.ofChange fnExactCoalgebraOfSpec)

/-- ITS FALSE NEIGHBOUR: 'it returns false'. Refute it at one input. -/
def fnExactCoalgebraOfWrong : ChangeSpec := { name := "fnExactCoalgebraOf", fn := fun _ => fun
  | [d] => { results := [.lit (.bool false)], args := [d] }
  | _ => none }
def FnExactCoalgebraOfWrongFalsely : Prop := fnExactCoalgebraOfRow.holds Try.pinned (OpenSpec.ofChange fnExactCoalgebraOfWrong)

/-- 'laws.FnExactCoproductOf': WHATEVER THE INPUT: true; the input reads as it did. -/
def fnExactCoproductOfSpec : ChangeSpec := { name := "fnExactCoproductOf", fn := fun _ => fun
  | [d1, d2] => { results := [.lit (.bool true)], args := [d1, d2] }
  | _ => none }
def fnExactCoproductOfRow : OpenClaim := { program := "ytmhebgcnloomaab", sum := "fca071bd7903a80accc742c0bfb705e95f056dd85009882181df11d003bc44f8", func := "loop.example/g01230/laws.FnExactCoproductOf", spec := "fnExactCoproductOf", unfollowed := true, recurses := true, apart := false }
def FnExactCoproductOfSaid : Prop := fnExactCoproductOfRow.holds Try.pinned (OpenSpec.ofChange fnExactCoproductOfSpec)

/-- ITS FALSE NEIGHBOUR: 'it returns false'. Refute it at one input. -/
def fnExactCoproductOfWrong : ChangeSpec := { name := "fnExactCoproductOf", fn := fun _ => fun
  | [d1, d2] => { results := [.lit (.bool false)], args := [d1, d2] }
  | _ => none }
def FnExactCoproductOfWrongFalsely : Prop := fnExactCoproductOfRow.holds Try.pinned (OpenSpec.ofChange fnExactCoproductOfWrong)

/- THE SECOND FORM. 'bulk': how many values and letters a reading holds, each counted each time it is reached (what is shared counts as often as it is met; a slice's spare places count too). A statement '..UptoSaid' is the law's where the arguments, and the package variables that the reading takes, are together of bulk at most 1048576: NARROWER than '..Said'. Prove '..Said' where nothing that the law and all that it calls make is longer than what came in: it says more and counts as full. Else prove '..UptoSaid'. A law counts once. -/
mutual
def uptoBulk {H : Type} : DataW H → Nat
  | .lit (.string bytes) => bytes.length + 1
  | .lit _ => 1
  | .nil => 1
  | .ptr d => uptoBulk d + 1
  | .slice elems spare => uptoBulkAll elems + uptoBulkAll spare + 1
  | .agg parts => uptoBulkAll parts + 1
  | .iface _ d => uptoBulk d + 1
  | .map entries => uptoBulkEntries entries + 1
  | .held _ => 1
def uptoBulkAll {H : Type} : List (DataW H) → Nat
  | [] => 0
  | d :: r => uptoBulk d + uptoBulkAll r
def uptoBulkEntries {H : Type} : List (Lit × DataW H) → Nat
  | [] => 0
  | x :: r => uptoBulkEntry x + uptoBulkEntries r
def uptoBulkEntry {H : Type} : Lit × DataW H → Nat
  | (.string bytes, d) => bytes.length + uptoBulk d + 1
  | (_, d) => uptoBulk d + 1
 end
def uptoSmall : (H : Type) → List (DataW H) → Bool := fun _ ds => decide (uptoBulkAll ds ≤ 1048576)
def OpenSpec.upto (s : _root_.Go.ChangeSpec) : _root_.Go.OpenSpec := { _root_.Go.OpenSpec.ofChange s with cond := some uptoSmall }

/-- 'laws.FnExactAxiomThatFails', WHERE WHAT IT READS IS OF BULK AT MOST 1048576: true; the input reads as it did. -/
def fnExactAxiomThatFailsUptoRow : OpenClaim := { program := "ytmhebgcnloomaab", sum := "fca071bd7903a80accc742c0bfb705e95f056dd85009882181df11d003bc44f8", func := "loop.example/g01230/laws.FnExactAxiomThatFails", spec := "fnExactAxiomThatFails", unfollowed := true, recurses := true, apart := false, narrowed := true }
def FnExactAxiomThatFailsUptoSaid : Prop := fnExactAxiomThatFailsUptoRow.holds Try.pinned (OpenSpec.upto fnExactAxiomThatFailsSpec)

/-- 'laws.FnExactAlgebraOf', WHERE WHAT IT READS IS OF BULK AT MOST 1048576: true; the input reads as it did. -/
def fnExactAlgebraOfUptoRow : OpenClaim := { program := "ytmhebgcnloomaab", sum := "fca071bd7903a80accc742c0bfb705e95f056dd85009882181df11d003bc44f8", func := "loop.example/g01230/laws.FnExactAlgebraOf", spec := "fnExactAlgebraOf", unfollowed := true, recurses := true, apart := false, narrowed := true }
def FnExactAlgebraOfUptoSaid : Prop := fnExactAlgebraOfUptoRow.holds Try.pinned (OpenSpec.upto fnExactAlgebraOfSpec)

/-- 'laws.FnExactCoalgebraOf', WHERE WHAT IT READS IS OF BULK AT MOST 1048576: true; the input reads as it did. -/
def fnExactCoalgebraOfUptoRow : OpenClaim := { program := "ytmhebgcnloomaab", sum := "fca071bd7903a80accc742c0bfb705e95f056dd85009882181df11d003bc44f8", func := "loop.example/g01230/laws.FnExactCoalgebraOf", spec := "fnExactCoalgebraOf", unfollowed := true, recurses := true, apart := false, narrowed := true }
def FnExactCoalgebraOfUptoSaid : Prop := fnExactCoalgebraOfUptoRow.holds Try.pinned (OpenSpec.upto fnExactCoalgebraOfSpec)

/-- 'laws.FnExactCoproductOf', WHERE WHAT IT READS IS OF BULK AT MOST 1048576: true; the input reads as it did. -/
def fnExactCoproductOfUptoRow : OpenClaim := { program := "ytmhebgcnloomaab", sum := "fca071bd7903a80accc742c0bfb705e95f056dd85009882181df11d003bc44f8", func := "loop.example/g01230/laws.FnExactCoproductOf", spec := "fnExactCoproductOf", unfollowed := true, recurses := true, apart := false, narrowed := true }
def FnExactCoproductOfUptoSaid : Prop := fnExactCoproductOfUptoRow.holds Try.pinned (OpenSpec.upto fnExactCoproductOfSpec)

end Rows
end Go.Proofs.Ytmhebgcnloomaab
