/- Lists of numbers compared, marked and held. -/
import Derived.Test.YtmhebgcnloomaacVec
set_option linter.unusedVariables false
set_option maxRecDepth 100000
namespace Go.Proofs.Ytmhebgcnloomaac
open M

end Go.Proofs.Ytmhebgcnloomaac
