/- Lists of numbers compared, marked and held. -/
import Derived.Test.YtnbfpmcpakpboacVec
set_option linter.unusedVariables false
set_option maxRecDepth 100000
namespace Go.Proofs.Ytnbfpmcpakpboac
open M

end Go.Proofs.Ytnbfpmcpakpboac
