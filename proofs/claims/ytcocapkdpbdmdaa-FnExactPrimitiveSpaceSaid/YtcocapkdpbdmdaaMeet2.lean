/- The model's way to meet two spaces: its contract. -/
import Derived.Test.YtcocapkdpbdmdaaMeet
set_option linter.unusedVariables false
set_option linter.unusedSimpArgs false
set_option maxRecDepth 100000
set_option maxHeartbeats 4000000
namespace Go.Proofs.Ytcocapkdpbdmdaa
open M

def MeetQ (p : Nat) (S : (Nat → Int) → Prop) (b1 b2 : Option (SV × Nat)) (r : SV) (m : Mem) : Prop :=
  ∃ k c A, RedL p S k A ∧ k ≤ c ∧ r = .sl 2 0 k c ∧ m = [b1, b2, some (.ints .u8 (k * 8) A, c * 8)]
end Go.Proofs.Ytcocapkdpbdmdaa
