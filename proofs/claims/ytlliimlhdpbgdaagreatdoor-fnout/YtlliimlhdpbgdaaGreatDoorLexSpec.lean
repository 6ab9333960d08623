/- Reading a text into tokens: that the specification's small texts compute what they should. -/
import Derived.Test.YtlliimlhdpbgdaaGreatDoorOuFnMath
import Derived.Test.YtlliimlhdpbgdaaGreatDoorDigitsD
import Derived.WalkSpells
namespace Go.Proofs.YtlliimlhdpbgdaaGreatDoor
open Go.ChangeShapes Go.WideShapes Go.ChangeAt Go.RowKit
set_option linter.unusedVariables false

end Go.Proofs.YtlliimlhdpbgdaaGreatDoor
