/-
  No cell of these rows narrows 'for every input' (looked for: loops, veiled, ifaces, maps, wideKeys, modest, calm, conditions, laid).
  DERIVED. THE GIVEN ROWS OF THIS SEAT. 3 by the template 'for every input the law returns true; each argument reads behind the call as it read before'; 0 by the template 'total and deterministic' (their statements: YtjanlnngeklhoaaTotals.lean).
  GIVEN WITH THE SEED: the statements are not yours to turn. If you find one false, say at which input.
  Laid BY PROGRAM, IN A SANDBOX (cutbox-rows.mjs): the forced cells as the released guide's own fill.sh prints them over the translation cf6cee7602d942ba… (all of the seat's roots in one cut). By AI agents, Wed Nov 11 2026. No macro, syntax, notation, axiom, sorry.
-/
import Derived.Test.YtjanlnngeklhoaaChecked
import GoSem.Claim
import GoSem.ClaimJoined
import GoSem.ClaimMapViews
import Derived.JoinedTies
import Derived.KernelRfl
namespace Go.Proofs.Ytjanlnngeklhoaa
/- THE CELL 'sum', in the pinned program and in every row, IS THE sha256 OF THE DUMP (.gsa) THAT YtjanlnngeklhoaaProg.lean LOADS. Nothing in Lean hashes anything: it is a label: what it is worth is what the hold of that sum in a sandbox is worth. -/
noncomputable def Try.pinned : Pinned := { name := "ytjanlnngeklhoaa", sum := "cf6cee7602d942ba745ac07b3420e979ec7fc698bca3488c5342ed6b69f3dd5f", checked := Try.checked }
namespace Rows
def none {H : Type} : Left H := { results := [], args := [] }

/-- 'laws.FnExactAdjointAction': WHATEVER THE INPUT: true; the input reads as it did. -/
def fnExactAdjointActionSpec : ChangeSpec := { name := "fnExactAdjointAction", fn := fun _ => fun
  | [d1, d2, d3, d4] => { results := [.lit (.bool true)], args := [d1, d2, d3, d4] }
  | _ => none }
def fnExactAdjointActionRow : OpenClaim := { program := "ytjanlnngeklhoaa", sum := "cf6cee7602d942ba745ac07b3420e979ec7fc698bca3488c5342ed6b69f3dd5f", func := "loop.example/g01230/laws.FnExactAdjointAction", spec := "fnExactAdjointAction", unfollowed := true, recurses := true, apart := false }
def FnExactAdjointActionSaid : Prop := fnExactAdjointActionRow.holds Try.pinned (OpenSpec.ofChange fnExactAdjointActionSpec)

/-- ITS FALSE NEIGHBOUR: 'it returns false'. Refute it at one input. -/
def fnExactAdjointActionWrong : ChangeSpec := { name := "fnExactAdjointAction", fn := fun _ => fun
  | [d1, d2, d3, d4] => { results := [.lit (.bool false)], args := [d1, d2, d3, d4] }
  | _ => none }
def FnExactAdjointActionWrongFalsely : Prop := fnExactAdjointActionRow.holds Try.pinned (OpenSpec.ofChange fnExactAdjointActionWrong)

/-- 'laws.FnExactLegsOf': WHATEVER THE INPUT: true; the input reads as it did. -/
def fnExactLegsOfSpec : ChangeSpec := { name := "fnExactLegsOf", fn := fun _ => fun
  | [d1, d2] => { results := [.lit (.bool true)], args := [d1, d2] }
  | _ => none }
def fnExactLegsOfRow : OpenClaim := { program := "ytjanlnngeklhoaa", sum := "cf6cee7602d942ba745ac07b3420e979ec7fc698bca3488c5342ed6b69f3dd5f", func := "loop.example/g01230/laws.FnExactLegsOf", spec := "fnExactLegsOf", unfollowed := true, recurses := true, apart := false }
def FnExactLegsOfSaid : Prop := fnExactLegsOfRow.holds Try.pinned (OpenSpec.ofChange fnExactLegsOfSpec)

/-- ITS FALSE NEIGHBOUR: 'it returns false'. Refute it at one input. -/
def fnExactLegsOfWrong : ChangeSpec := { name := "fnExactLegsOf", fn := fun _ => fun
  | [d1, d2] => { results := [.lit (.bool false)], args := [d1, d2] }
  | _ => none }
def FnExactLegsOfWrongFalsely : Prop := fnExactLegsOfRow.holds Try.pinned (OpenSpec.ofChange fnExactLegsOfWrong)

/-- 'laws.FnExactAugmentationIdeal': WHATEVER THE INPUT: true; the input reads as it did. -/
def fnExactAugmentationIdealSpec : ChangeSpec := { name := "fnExactAugmentationIdeal", fn := fun _ => fun
  | [d] => { results := [.lit (.bool true)], args := [d] }
  | _ => none }
def fnExactAugmentationIdealRow : OpenClaim := { program := "ytjanlnngeklhoaa", sum := "cf6cee7602d942ba745ac07b3420e979ec7fc698bca3488c5342ed6b69f3dd5f", func := "loop.example/g01230/laws.FnExactAugmentationIdeal", spec := "fnExactAugmentationIdeal", unfollowed := true, recurses := true, apart := false }
def FnExactAugmentationIdealSaid : Prop := fnExactAugmentationIdealRow.holds Try.pinned (OpenSpec.ofChange fnExactAugmentationIdealSpec)

/-- ITS FALSE NEIGHBOUR: 'it returns false'. Refute it at one input. -/
def fnExactAugmentationIdealWrong : ChangeSpec := { name := "fnExactAugmentationIdeal", fn := fun _ => fun
  | [d] => { results := [.lit (.bool false)], args := [d] }
  | _ => none }
def FnExactAugmentationIdealWrongFalsely : Prop := fnExactAugmentationIdealRow.holds Try.pinned (OpenSpec.ofChange fnExactAugmentationIdealWrong)

/- THE SECOND FORM. 'bulk': how many values and letters a reading holds, each counted each time it is reached (what is shared counts as often as it is met; a slice's spare places count too). A statement '..UptoSaid' is the law's where the arguments, and the package variables that the reading takes, are together of bulk at most 1048576: NARROWER than '..Said'. Prove '..Said' where nothing that the law and all that it calls make is longer than what came in: it says more and counts as full. Else prove '..UptoSaid'. A law counts once. -/
mutual
def uptoBulk {H : Type} : DataW H → Nat
  | .lit (.string bytes) => bytes.length + 1
  | .lit _ => 1
  | .nil => 1
  | .ptr d => uptoBulk d + 1
  | .slice elems spare => uptoBulkAll elems + uptoBulkAll spare + 1
  | .agg parts => uptoBulkAll parts + 1
  | .iface _ d => uptoBulk d + 1
  | .map entries => uptoBulkEntries entries + 1
  | .held _ => 1
def uptoBulkAll {H : Type} : List (DataW H) → Nat
  | [] => 0
  | d :: r => uptoBulk d + uptoBulkAll r
def uptoBulkEntries {H : Type} : List (Lit × DataW H) → Nat
  | [] => 0
  | x :: r => uptoBulkEntry x + uptoBulkEntries r
def uptoBulkEntry {H : Type} : Lit × DataW H → Nat
  | (.string bytes, d) => bytes.length + uptoBulk d + 1
  | (_, d) => uptoBulk d + 1
 end
def uptoSmall : (H : Type) → List (DataW H) → Bool := fun _ ds => decide (uptoBulkAll ds ≤ 1048576)
def OpenSpec.upto (s : _root_.Go.ChangeSpec) : _root_.Go.OpenSpec := { _root_.Go.OpenSpec.ofChange s with cond := some uptoSmall }

/-- 'laws.FnExactAdjointAction', WHERE WHAT IT READS IS OF BULK AT MOST 1048576: true; the input reads as it did. -/
def fnExactAdjointActionUptoRow : OpenClaim := { program := "ytjanlnngeklhoaa", sum := "cf6cee7602d942ba745ac07b3420e979ec7fc698bca3488c5342ed6b69f3dd5f", func := "loop.example/g01230/laws.FnExactAdjointAction", spec := "fnExactAdjointAction", unfollowed := true, recurses := true, apart := false, narrowed := true }
def FnExactAdjointActionUptoSaid : Prop := fnExactAdjointActionUptoRow.holds Try.pinned (OpenSpec.upto fnExactAdjointActionSpec)

/-- 'laws.FnExactLegsOf', WHERE WHAT IT READS IS OF BULK AT MOST 1048576: true; the input reads as it did. -/
def fnExactLegsOfUptoRow : OpenClaim := { program := "ytjanlnngeklhoaa", sum := "cf6cee7602d942ba745ac07b3420e979ec7fc698bca3488c5342ed6b69f3dd5f", func := "loop.example/g01230/laws.FnExactLegsOf", spec := "fnExactLegsOf", unfollowed := true, recurses := true, apart := false, narrowed := true }
def FnExactLegsOfUptoSaid : Prop := fnExactLegsOfUptoRow.holds Try.pinned (OpenSpec.upto fnExactLegsOfSpec)

/-- 'laws.FnExactAugmentationIdeal', WHERE WHAT IT READS IS OF BULK AT MOST 1048576: true; the input reads as it did. -/
def fnExactAugmentationIdealUptoRow : OpenClaim := { program := "ytjanlnngeklhoaa", sum := "cf6cee7602d942ba745ac07b3420e979ec7fc698bca3488c5342ed6b69f3dd5f", func := "loop.example/g01230/laws.FnExactAugmentationIdeal", spec := "fnExactAugmentationIdeal", unfollowed := true, recurses := true, apart := false, narrowed := true }
def FnExactAugmentationIdealUptoSaid : Prop := fnExactAugmentationIdealUptoRow.holds Try.pinned (OpenSpec.upto fnExactAugmentationIdealSpec)

end Rows
end Go.Proofs.Ytjanlnngeklhoaa
