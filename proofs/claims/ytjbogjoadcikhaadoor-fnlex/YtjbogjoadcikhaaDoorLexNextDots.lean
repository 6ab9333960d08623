/- The token at a place: marks. -/
import Derived.Test.YtjbogjoadcikhaaDoorLexNextTwo
namespace Go.Proofs.YtjbogjoadcikhaaDoor.L
open Go.ChangeShapes Go.WideShapes Go.ChangeAt Go.RowKit
set_option linter.unusedVariables false

end Go.Proofs.YtjbogjoadcikhaaDoor.L
