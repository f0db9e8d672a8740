/- The map back of a linear map, as far as there is one. -/
import Derived.Test.YtcocapkdpbdmdaaGraph
import Derived.Test.YtcocapkdpbdmdaaAlgMath
set_option linter.unusedVariables false
set_option linter.unusedSimpArgs false
set_option maxRecDepth 100000
set_option maxHeartbeats 4000000
namespace Go.Proofs.Ytcocapkdpbdmdaa
open M

/-- what comes out: the reduced list of the rows f(e(i)), e(i) tells the map back, or that there is none -/
def InvQ (p n : Nat) (f : Nat → Int) (r : SV) : Prop :=
  ∃ (k : Nat) (a : Nat → Nat → Int) (P : Nat → Nat), k ≤ n ∧ Red p 16 (Sp p 16 n (graphRow (fun i j => f (j + i * 8)) 8)) k a P ∧
    (((∀ i, i < k → ∀ j, j < 8 → a i j = unitV i j) ∧ ∃ B, r = .tcons (.ints .u8 64 B) (.tcons (.bool true) .tnil) ∧ ∀ q, q < 64 → B q = if q / 8 < k then a (q / 8) (8 + q % 8) else 0) ∨
     ((∃ i, i < k ∧ ∃ j, j < 8 ∧ a i j ≠ unitV i j) ∧ ∃ B, r = .tcons (.ints .u8 64 B) (.tcons (.bool false) .tnil) ∧ ∀ q, q < 64 → B q = 0))

end Go.Proofs.Ytcocapkdpbdmdaa
