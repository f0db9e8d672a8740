/- Lists of numbers compared, marked and held. -/
import Derived.Test.YtmhebgcnloomaabVec
set_option linter.unusedVariables false
set_option maxRecDepth 100000
namespace Go.Proofs.Ytmhebgcnloomaab
open M

end Go.Proofs.Ytmhebgcnloomaab
