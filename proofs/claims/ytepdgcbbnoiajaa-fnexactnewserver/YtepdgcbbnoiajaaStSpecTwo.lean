/- The specification's StoreOK, whole. -/
import Derived.Test.YtepdgcbbnoiajaaStSpec
import Derived.WalkSmall
namespace Go.Proofs.Ytepdgcbbnoiajaa.G
open Go.ChangeShapes Go.WideShapes Go.ChangeAt Go.RowKit
set_option linter.unusedVariables false

end Go.Proofs.Ytepdgcbbnoiajaa.G
