/-
  Apply of the document's answer.
-/
import Derived.Test.YtjbpfhnagiacmaaGreatRfR
namespace Go.Proofs.YtjbpfhnagiacmaaGreat
set_option linter.unusedVariables false
set_option linter.unusedSimpArgs false
set_option synthInstance.maxSize 20000
set_option maxHeartbeats 2000000
set_option maxRecDepth 20000
open Go.RowKit Go.Maps
end Go.Proofs.YtjbpfhnagiacmaaGreat
