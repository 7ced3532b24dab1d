/-
  The contract of layer 1's reading of one number: it answers the number whose form the bytes begin with, and how many bytes the form has; 0 and 0 where none stands.
-/
import Derived.Test.YtakmfdlcnodmmaaRows
import Derived.Test.YtakmfdlcnodmmaaBase
import Derived.WalkSpells
namespace Go.Proofs.Ytakmfdlcnodmmaa
set_option linter.unusedVariables false
open Go.RowKit

end Go.Proofs.Ytakmfdlcnodmmaa
