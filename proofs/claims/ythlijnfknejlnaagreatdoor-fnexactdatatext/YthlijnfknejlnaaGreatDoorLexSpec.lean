/- Reading a text into tokens: that the specification's small texts compute what they should. -/
import Derived.Test.YthlijnfknejlnaaGreatDoorLexMathD
import Derived.Test.YthlijnfknejlnaaGreatDoorDigitsD
import Derived.WalkSpells
namespace Go.Proofs.YthlijnfknejlnaaGreatDoor
open Go.ChangeShapes Go.WideShapes Go.ChangeAt Go.RowKit
set_option linter.unusedVariables false

end Go.Proofs.YthlijnfknejlnaaGreatDoor
