/-
  A member's clock: New, Now, Tick, See, by where it is.
-/
import Derived.Test.YtiebbglknmcnpaaCmp
import Derived.Test.YtiebbglknmcnpaaReader
import Derived.Laws.ResultCell
namespace Go.Proofs.Ytiebbglknmcnpaa
set_option linter.unusedVariables false
open Go.RowKit

theorem Blk.set {w : World} {b : Nat} {e : TypeId} {vs : List Value} (h : Blk w b e vs) (i : Nat) (u : Value) : Blk (w.setCell ⟨b, i, none⟩ u) b e (vs.set i u) := by
  unfold Blk
  rw [heap_setCell_same w b i vs.toArray e u h]
  simp
theorem Blk.drew {w : World} {b : Nat} {e : TypeId} {vs : List Value} (h : Blk w b e vs) : Blk w.drew b e vs := h

theorem grown_drew {w w' : World} {r : Option Nat} (h : w.grownBy w' r) : w.grownBy w'.drew r := ⟨h.os, h.tape, h.output, h.size, h.block⟩

end Go.Proofs.Ytiebbglknmcnpaa
