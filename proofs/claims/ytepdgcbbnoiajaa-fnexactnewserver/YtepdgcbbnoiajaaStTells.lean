/- What a store tells of a key, and whether it changed (methods of stores). -/
import Derived.Test.YtepdgcbbnoiajaaStUp
namespace Go.Proofs.Ytepdgcbbnoiajaa.G
open Go.ChangeShapes Go.WideShapes Go.ChangeAt Go.RowKit
set_option linter.unusedVariables false

end Go.Proofs.Ytepdgcbbnoiajaa.G
