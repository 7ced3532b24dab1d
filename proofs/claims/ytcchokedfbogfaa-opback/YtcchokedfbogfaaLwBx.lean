/-
  The law OpBack, of what came in.
-/
import Derived.Test.YtcchokedfbogfaaLwB
import Derived.Test.YtcchokedfbogfaaArgO
namespace Go.Proofs.Ytcchokedfbogfaa
set_option linter.unusedVariables false
set_option linter.unusedSimpArgs false
set_option synthInstance.maxSize 20000
set_option maxHeartbeats 2000000
set_option maxRecDepth 20000
open Go.RowKit Go.Maps

theorem back5i (q : OpT) (vb : Value) (lb : List Int) (t : S) (c : Int) (w : World) (hq : QIn w q) (hv : Rd w vb lb) (ht : SOk t) (hc : I64 c) : Calls Try.prog 5 #[ov q, vb, sv t, .int .i64 c] w fun e w' => e = .returned (.bool true) ∧ Below w.heap.size w w' :=
  back5 q vb lb t c w ⟨⟨hq.k, hq.a, hq.n, hq.p⟩, hq.rd⟩ hv ht hc
end Go.Proofs.Ytcchokedfbogfaa
