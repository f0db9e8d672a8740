/- The law on MultiplyVectors. -/
import Derived.Test.YtcocapkdpbdmdaaMul
set_option linter.unusedVariables false
set_option linter.unusedSimpArgs false
set_option maxRecDepth 100000
namespace Go.Proofs.Ytcocapkdpbdmdaa
open M

theorem eqSelf (n : Nat) (z g : Nat → Int) : allEq n (fun j => updR z 0 n g (j + 0)) (fun j => updR z 0 n g (j + 0)) = true := List.all_eq_true.2 fun j _ => by simp

end Go.Proofs.Ytcocapkdpbdmdaa
