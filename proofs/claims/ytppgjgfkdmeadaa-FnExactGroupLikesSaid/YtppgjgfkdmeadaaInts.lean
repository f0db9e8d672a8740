/- Lists of numbers compared, marked and held. -/
import Derived.Test.YtppgjgfkdmeadaaVec
set_option linter.unusedVariables false
set_option maxRecDepth 100000
namespace Go.Proofs.Ytppgjgfkdmeadaa
open M

end Go.Proofs.Ytppgjgfkdmeadaa
