/- What the law holds against each other: stores that are alike are alike. -/
import Derived.Test.YtbpkjpoicelgcaaStRows
namespace Go.Proofs.Ytbpkjpoicelgcaa.G
open Go.ChangeShapes Go.WideShapes Go.ChangeAt Go.RowKit
set_option linter.unusedVariables false

end Go.Proofs.Ytbpkjpoicelgcaa.G
