/- The specification's l06Write: the walk. -/
import Derived.Test.YtoamojibapmlgaaStWrJ
import Derived.BigQuiet
namespace Go.Proofs.Ytoamojibapmlgaa.G
open Go.ChangeShapes Go.WideShapes Go.ChangeAt Go.RowKit
set_option linter.unusedVariables false

end Go.Proofs.Ytoamojibapmlgaa.G
