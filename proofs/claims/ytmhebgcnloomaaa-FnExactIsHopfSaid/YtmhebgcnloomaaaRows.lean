/-
  No cell of these rows narrows 'for every input' (looked for: loops, veiled, ifaces, maps, wideKeys, modest, calm, conditions, laid).
  DERIVED. THE GIVEN ROWS OF THIS SEAT. 4 by the template 'for every input the law returns true; each argument reads behind the call as it read before'; 0 by the template 'total and deterministic' (their statements: YtmhebgcnloomaaaTotals.lean).
  GIVEN WITH THE SEED: the statements are not yours to turn. If you find one false, say at which input.
  Laid BY PROGRAM, IN A SANDBOX (cutbox-rows.mjs): the forced cells as the released guide's own fill.sh prints them over the translation 32397e256229e879… (all of the seat's roots in one cut). By AI agents, Wed Nov 11 2026. No macro, syntax, notation, axiom, sorry.
-/
import Derived.Test.YtmhebgcnloomaaaChecked
import GoSem.Claim
import GoSem.ClaimJoined
import GoSem.ClaimMapViews
import Derived.JoinedTies
import Derived.KernelRfl
namespace Go.Proofs.Ytmhebgcnloomaaa
/- THE CELL 'sum', in the pinned program and in every row, IS THE sha256 OF THE DUMP (.gsa) THAT YtmhebgcnloomaaaProg.lean LOADS. Nothing in Lean hashes anything: it is a label: what it is worth is what the hold of that sum in a sandbox is worth. -/
noncomputable def Try.pinned : Pinned := { name := "ytmhebgcnloomaaa", sum := "32397e256229e8796b97067b0df8cc6f0a002c0fcb0d329cf088f5ee967c7228", checked := Try.checked }
namespace Rows
def none {H : Type} : Left H := { results := [], args := [] }

/-- 'laws.FnExactCounitIn': WHATEVER THE INPUT: true; the input reads as it did. -/
def fnExactCounitInSpec : ChangeSpec := { name := "fnExactCounitIn", fn := fun _ => fun
  | [d1, d2] => { results := [.lit (.bool true)], args := [d1, d2] }
  | _ => none }
def fnExactCounitInRow : OpenClaim := { program := "ytmhebgcnloomaaa", sum := "32397e256229e8796b97067b0df8cc6f0a002c0fcb0d329cf088f5ee967c7228", func := "loop.example/g01230/laws.FnExactCounitIn", spec := "fnExactCounitIn", apart := false }
def FnExactCounitInSaid : Prop := fnExactCounitInRow.holds Try.pinned (OpenSpec.ofChange fnExactCounitInSpec)

/-- ITS FALSE NEIGHBOUR: 'it returns false'. Refute it at one input. -/
def fnExactCounitInWrong : ChangeSpec := { name := "fnExactCounitIn", fn := fun _ => fun
  | [d1, d2] => { results := [.lit (.bool false)], args := [d1, d2] }
  | _ => none }
def FnExactCounitInWrongFalsely : Prop := fnExactCounitInRow.holds Try.pinned (OpenSpec.ofChange fnExactCounitInWrong)

/-- 'laws.FnExactIsGroupLike': WHATEVER THE INPUT: true; the input reads as it did. -/
def fnExactIsGroupLikeSpec : ChangeSpec := { name := "fnExactIsGroupLike", fn := fun _ => fun
  | [d1, d2] => { results := [.lit (.bool true)], args := [d1, d2] }
  | _ => none }
def fnExactIsGroupLikeRow : OpenClaim := { program := "ytmhebgcnloomaaa", sum := "32397e256229e8796b97067b0df8cc6f0a002c0fcb0d329cf088f5ee967c7228", func := "loop.example/g01230/laws.FnExactIsGroupLike", spec := "fnExactIsGroupLike", apart := false }
def FnExactIsGroupLikeSaid : Prop := fnExactIsGroupLikeRow.holds Try.pinned (OpenSpec.ofChange fnExactIsGroupLikeSpec)

/-- ITS FALSE NEIGHBOUR: 'it returns false'. Refute it at one input. -/
def fnExactIsGroupLikeWrong : ChangeSpec := { name := "fnExactIsGroupLike", fn := fun _ => fun
  | [d1, d2] => { results := [.lit (.bool false)], args := [d1, d2] }
  | _ => none }
def FnExactIsGroupLikeWrongFalsely : Prop := fnExactIsGroupLikeRow.holds Try.pinned (OpenSpec.ofChange fnExactIsGroupLikeWrong)

/-- 'laws.FnExactGroupLikes': WHATEVER THE INPUT: true; the input reads as it did. -/
def fnExactGroupLikesSpec : ChangeSpec := { name := "fnExactGroupLikes", fn := fun _ => fun
  | [d] => { results := [.lit (.bool true)], args := [d] }
  | _ => none }
def fnExactGroupLikesRow : OpenClaim := { program := "ytmhebgcnloomaaa", sum := "32397e256229e8796b97067b0df8cc6f0a002c0fcb0d329cf088f5ee967c7228", func := "loop.example/g01230/laws.FnExactGroupLikes", spec := "fnExactGroupLikes", apart := false }
def FnExactGroupLikesSaid : Prop := fnExactGroupLikesRow.holds Try.pinned (OpenSpec.ofChange fnExactGroupLikesSpec)

/-- ITS FALSE NEIGHBOUR: 'it returns false'. Refute it at one input. -/
def fnExactGroupLikesWrong : ChangeSpec := { name := "fnExactGroupLikes", fn := fun _ => fun
  | [d] => { results := [.lit (.bool false)], args := [d] }
  | _ => none }
def FnExactGroupLikesWrongFalsely : Prop := fnExactGroupLikesRow.holds Try.pinned (OpenSpec.ofChange fnExactGroupLikesWrong)

/-- 'laws.FnExactIsHopf': WHATEVER THE INPUT: true; the input reads as it did. -/
def fnExactIsHopfSpec : ChangeSpec := { name := "fnExactIsHopf", fn := fun _ => fun
  | [d] => { results := [.lit (.bool true)], args := [d] }
  | _ => none }
def fnExactIsHopfRow : OpenClaim := { program := "ytmhebgcnloomaaa", sum := "32397e256229e8796b97067b0df8cc6f0a002c0fcb0d329cf088f5ee967c7228", func := "loop.example/g01230/laws.FnExactIsHopf", spec := "fnExactIsHopf", unfollowed := true, recurses := true, apart := false }
def FnExactIsHopfSaid : Prop := fnExactIsHopfRow.holds Try.pinned (OpenSpec.ofChange fnExactIsHopfSpec)

/-- ITS FALSE NEIGHBOUR: 'it returns false'. Refute it at one input. -/
def fnExactIsHopfWrong : ChangeSpec := { name := "fnExactIsHopf", fn := fun _ => fun
  | [d] => { results := [.lit (.bool false)], args := [d] }
  | _ => none }
def FnExactIsHopfWrongFalsely : Prop := fnExactIsHopfRow.holds Try.pinned (OpenSpec.ofChange fnExactIsHopfWrong)

/- THE SECOND FORM. 'bulk': how many values and letters a reading holds, each counted each time it is reached (what is shared counts as often as it is met; a slice's spare places count too). A statement '..UptoSaid' is the law's where the arguments, and the package variables that the reading takes, are together of bulk at most 1048576: NARROWER than '..Said'. Prove '..Said' where nothing that the law and all that it calls make is longer than what came in: it says more and counts as full. Else prove '..UptoSaid'. A law counts once. -/
mutual
def uptoBulk {H : Type} : DataW H → Nat
  | .lit (.string bytes) => bytes.length + 1
  | .lit _ => 1
  | .nil => 1
  | .ptr d => uptoBulk d + 1
  | .slice elems spare => uptoBulkAll elems + uptoBulkAll spare + 1
  | .agg parts => uptoBulkAll parts + 1
  | .iface _ d => uptoBulk d + 1
  | .map entries => uptoBulkEntries entries + 1
  | .held _ => 1
def uptoBulkAll {H : Type} : List (DataW H) → Nat
  | [] => 0
  | d :: r => uptoBulk d + uptoBulkAll r
def uptoBulkEntries {H : Type} : List (Lit × DataW H) → Nat
  | [] => 0
  | x :: r => uptoBulkEntry x + uptoBulkEntries r
def uptoBulkEntry {H : Type} : Lit × DataW H → Nat
  | (.string bytes, d) => bytes.length + uptoBulk d + 1
  | (_, d) => uptoBulk d + 1
 end
def uptoSmall : (H : Type) → List (DataW H) → Bool := fun _ ds => decide (uptoBulkAll ds ≤ 1048576)
def OpenSpec.upto (s : _root_.Go.ChangeSpec) : _root_.Go.OpenSpec := { _root_.Go.OpenSpec.ofChange s with cond := some uptoSmall }

/-- 'laws.FnExactCounitIn', WHERE WHAT IT READS IS OF BULK AT MOST 1048576: true; the input reads as it did. -/
def fnExactCounitInUptoRow : OpenClaim := { program := "ytmhebgcnloomaaa", sum := "32397e256229e8796b97067b0df8cc6f0a002c0fcb0d329cf088f5ee967c7228", func := "loop.example/g01230/laws.FnExactCounitIn", spec := "fnExactCounitIn", apart := false, narrowed := true }
def FnExactCounitInUptoSaid : Prop := fnExactCounitInUptoRow.holds Try.pinned (OpenSpec.upto fnExactCounitInSpec)

/-- 'laws.FnExactIsGroupLike', WHERE WHAT IT READS IS OF BULK AT MOST 1048576: true; the input reads as it did. -/
def fnExactIsGroupLikeUptoRow : OpenClaim := { program := "ytmhebgcnloomaaa", sum := "32397e256229e8796b97067b0df8cc6f0a002c0fcb0d329cf088f5ee967c7228", func := "loop.example/g01230/laws.FnExactIsGroupLike", spec := "fnExactIsGroupLike", apart := false, narrowed := true }
def FnExactIsGroupLikeUptoSaid : Prop := fnExactIsGroupLikeUptoRow.holds Try.pinned (OpenSpec.upto fnExactIsGroupLikeSpec)

/-- 'laws.FnExactGroupLikes', WHERE WHAT IT READS IS OF BULK AT MOST 1048576: true; the input reads as it did. -/
def fnExactGroupLikesUptoRow : OpenClaim := { program := "ytmhebgcnloomaaa", sum := "32397e256229e8796b97067b0df8cc6f0a002c0fcb0d329cf088f5ee967c7228", func := "loop.example/g01230/laws.FnExactGroupLikes", spec := "fnExactGroupLikes", apart := false, narrowed := true }
def FnExactGroupLikesUptoSaid : Prop := fnExactGroupLikesUptoRow.holds Try.pinned (OpenSpec.upto fnExactGroupLikesSpec)

/-- 'laws.FnExactIsHopf', WHERE WHAT IT READS IS OF BULK AT MOST 1048576: true; the input reads as it did. -/
def fnExactIsHopfUptoRow : OpenClaim := { program := "ytmhebgcnloomaaa", sum := "32397e256229e8796b97067b0df8cc6f0a002c0fcb0d329cf088f5ee967c7228", func := "loop.example/g01230/laws.FnExactIsHopf", spec := "fnExactIsHopf", unfollowed := true, recurses := true, apart := false, narrowed := true }
def FnExactIsHopfUptoSaid : Prop := fnExactIsHopfUptoRow.holds Try.pinned (OpenSpec.upto fnExactIsHopfSpec)

end Rows
end Go.Proofs.Ytmhebgcnloomaaa
