/- What the law counts of stores. -/
import Derived.Test.YtbpkjpoicelgcaaStRows
namespace Go.Proofs.Ytbpkjpoicelgcaa.G
open Go.ChangeShapes Go.WideShapes Go.ChangeAt Go.RowKit
set_option linter.unusedVariables false

end Go.Proofs.Ytbpkjpoicelgcaa.G
