/- Lists of numbers compared, marked and held. -/
import Derived.Test.YtmnbeinomodggaaVec
set_option linter.unusedVariables false
set_option maxRecDepth 100000
namespace Go.Proofs.Ytmnbeinomodggaa
open M

end Go.Proofs.Ytmnbeinomodggaa
