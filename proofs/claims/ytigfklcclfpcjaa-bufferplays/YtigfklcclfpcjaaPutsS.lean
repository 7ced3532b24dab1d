/-
  A stamp's form, put by the program and by the reference.
-/
import Derived.Test.YtigfklcclfpcjaaChain
import Derived.Test.YtigfklcclfpcjaaPut
import Derived.Test.YtigfklcclfpcjaaRef
import Derived.Deep.DeepCutAuto
namespace Go.Proofs.Ytigfklcclfpcjaa
set_option linter.unusedVariables false
open Go.RowKit

theorem below_undrew {w w' : World} (h : Below w.drew.heap.size w.drew w') : Below w.heap.size w w' := ⟨h.os, h.tape, h.output, h.size, h.block⟩
/-- A stamp's form. -/
def putS (s : S) : List Int := form (zig s.1) ++ form (max s.2 0).toNat
theorem putS_len (s : S) (hs : SOk s) : (putS s).length ≤ 20 := by
  obtain ⟨⟨h1, h2⟩, h3, h4⟩ := hs
  unfold putS
  rw [List.length_append]
  have e1 := form_le10 (n := zig s.1) (zig_lt s.1 ⟨h1, h2⟩)
  have e2 := form_le10 (n := (max s.2 0).toNat) (by omega)
  omega

end Go.Proofs.Ytigfklcclfpcjaa
