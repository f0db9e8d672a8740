/- Lists of numbers compared, marked and held. -/
import Derived.Test.YtmhebgcnloomaaaVec
set_option linter.unusedVariables false
set_option maxRecDepth 100000
namespace Go.Proofs.Ytmhebgcnloomaaa
open M

end Go.Proofs.Ytmhebgcnloomaaa
