/- Reading a text into tokens: that the specification's small texts compute what they should. -/
import Derived.Test.YtoaeggfnlenjkaaGreatDoorLexMathD
import Derived.Test.YtoaeggfnlenjkaaGreatDoorDigitsD
import Derived.WalkSpells
namespace Go.Proofs.YtoaeggfnlenjkaaGreatDoor
open Go.ChangeShapes Go.WideShapes Go.ChangeAt Go.RowKit
set_option linter.unusedVariables false

end Go.Proofs.YtoaeggfnlenjkaaGreatDoor
