/-
  A byte that came in.
-/
import Derived.Test.YtcchokedfbogfaaOpM
import Derived.OpenShut
import Derived.ProofKit
namespace Go.Proofs.Ytcchokedfbogfaa
set_option linter.unusedVariables false
set_option linter.unusedSimpArgs false
set_option synthInstance.maxSize 20000
set_option maxHeartbeats 2000000
set_option maxRecDepth 20000
open Go.RowKit Go.Maps

theorem wf_u8 {n : Int} (h : (Lit.int .u8 n).wf = true) : 0 ≤ n ∧ n < 256 := by
  simp [Lit.wf, IntKind.min, IntKind.max, IntKind.signed, IntKind.bits] at h
  omega
end Go.Proofs.Ytcchokedfbogfaa
