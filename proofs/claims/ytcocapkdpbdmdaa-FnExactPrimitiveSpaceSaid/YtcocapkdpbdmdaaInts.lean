/- Lists of numbers compared, marked and held. -/
import Derived.Test.YtcocapkdpbdmdaaVec
set_option linter.unusedVariables false
set_option linter.unusedSimpArgs false
set_option maxRecDepth 100000
namespace Go.Proofs.Ytcocapkdpbdmdaa
open M

end Go.Proofs.Ytcocapkdpbdmdaa
