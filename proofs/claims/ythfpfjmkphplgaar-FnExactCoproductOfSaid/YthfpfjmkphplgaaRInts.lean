/- Lists of numbers compared, marked and held. -/
import Derived.Test.YthfpfjmkphplgaaRVec
set_option linter.unusedVariables false
set_option maxRecDepth 100000
namespace Go.Proofs.YthfpfjmkphplgaaR
open M

end Go.Proofs.YthfpfjmkphplgaaR
