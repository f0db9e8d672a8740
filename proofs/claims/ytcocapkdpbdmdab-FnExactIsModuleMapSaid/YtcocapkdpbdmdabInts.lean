/- Lists of numbers compared, marked and held. -/
import Derived.Test.YtcocapkdpbdmdabVec
set_option linter.unusedVariables false
set_option maxRecDepth 100000
namespace Go.Proofs.Ytcocapkdpbdmdab
open M

end Go.Proofs.Ytcocapkdpbdmdab
