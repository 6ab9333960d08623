/- The specification's l06Write: the walk. -/
import Derived.Test.YtlfcjhiojbcijaaStWrJ
import Derived.BigQuiet
namespace Go.Proofs.Ytlfcjhiojbcijaa.G
open Go.ChangeShapes Go.WideShapes Go.ChangeAt Go.RowKit
set_option linter.unusedVariables false

end Go.Proofs.Ytlfcjhiojbcijaa.G
