/- Reading a text into tokens: that the specification's small texts compute what they should. -/
import Derived.Test.YtjbogjoadcikhaaDoorLexMath
import Derived.Test.YtjbogjoadcikhaaDoorDigits
import Derived.WalkSpells
namespace Go.Proofs.YtjbogjoadcikhaaDoor.L
open Go.ChangeShapes Go.WideShapes Go.ChangeAt Go.RowKit
set_option linter.unusedVariables false

end Go.Proofs.YtjbogjoadcikhaaDoor.L
