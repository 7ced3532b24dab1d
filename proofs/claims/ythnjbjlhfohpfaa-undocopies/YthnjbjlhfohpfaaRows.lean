/-
  No cell of these rows narrows 'for every input' (looked for: loops, veiled, ifaces, maps, wideKeys, modest, calm, conditions, laid).
  DERIVED. THE GIVEN ROWS OF THIS SEAT. 3 by the template 'for every input the law returns true; each argument reads behind the call as it read before'; 0 by the template 'total and deterministic' (their statements: YthnjbjlhfohpfaaTotals.lean).
  GIVEN WITH THE SEED: the statements are not yours to turn. If you find one false, say at which input.
  Laid BY PROGRAM, IN A SANDBOX (cutbox-rows.mjs): the forced cells as the released guide's own fill.sh prints them over the translation 13a26402ef51cf69… (all of the seat's roots in one cut). By AI agents, Wed Nov 11 2026. No macro, syntax, notation, axiom, sorry.
-/
import Derived.Test.YthnjbjlhfohpfaaChecked
import GoSem.Claim
import GoSem.ClaimJoined
import GoSem.ClaimMapViews
import Derived.JoinedTies
import Derived.KernelRfl
namespace Go.Proofs.Ythnjbjlhfohpfaa
/- THE CELL 'sum', in the pinned program and in every row, IS THE sha256 OF THE DUMP (.gsa) THAT YthnjbjlhfohpfaaProg.lean LOADS. Nothing in Lean hashes anything: it is a label: what it is worth is what the hold of that sum in a sandbox is worth. -/
noncomputable def Try.pinned : Pinned := { name := "ythnjbjlhfohpfaa", sum := "13a26402ef51cf6980451e243b71f9b488a7e605cdaf37104254659ec3ecc607", checked := Try.checked }
namespace Rows
def none {H : Type} : Left H := { results := [], args := [] }

/-- 'cachettelaw17.UndoSame': WHATEVER THE INPUT: true; the input reads as it did. -/
def undoSameSpec : ChangeSpec := { name := "undoSame", fn := fun _ => fun
  | [d1, d2, d3] => { results := [.lit (.bool true)], args := [d1, d2, d3] }
  | _ => none }
def undoSameRow : OpenClaim := { program := "ythnjbjlhfohpfaa", sum := "13a26402ef51cf6980451e243b71f9b488a7e605cdaf37104254659ec3ecc607", func := "cachette/cachettelaw17.UndoSame", spec := "undoSame", inPlace := ["slices.overlaps[cachette/undo.step]"], unfollowed := true, recurses := true, plainKeys := false, apart := false }
def UndoSameSaid : Prop := undoSameRow.holds Try.pinned (OpenSpec.ofChange undoSameSpec)

/-- ITS FALSE NEIGHBOUR: 'it returns false'. Refute it at one input. -/
def undoSameWrong : ChangeSpec := { name := "undoSame", fn := fun _ => fun
  | [d1, d2, d3] => { results := [.lit (.bool false)], args := [d1, d2, d3] }
  | _ => none }
def UndoSameWrongFalsely : Prop := undoSameRow.holds Try.pinned (OpenSpec.ofChange undoSameWrong)

/-- 'cachettelaw17.UndoCopies': WHATEVER THE INPUT: true; the input reads as it did. -/
def undoCopiesSpec : ChangeSpec := { name := "undoCopies", fn := fun _ => fun
  | [d1, d2] => { results := [.lit (.bool true)], args := [d1, d2] }
  | _ => none }
def undoCopiesRow : OpenClaim := { program := "ythnjbjlhfohpfaa", sum := "13a26402ef51cf6980451e243b71f9b488a7e605cdaf37104254659ec3ecc607", func := "cachette/cachettelaw17.UndoCopies", spec := "undoCopies", inPlace := ["slices.overlaps[cachette/undo.step]"], unfollowed := true, recurses := true, plainKeys := false, apart := false }
def UndoCopiesSaid : Prop := undoCopiesRow.holds Try.pinned (OpenSpec.ofChange undoCopiesSpec)

/-- ITS FALSE NEIGHBOUR: 'it returns false'. Refute it at one input. -/
def undoCopiesWrong : ChangeSpec := { name := "undoCopies", fn := fun _ => fun
  | [d1, d2] => { results := [.lit (.bool false)], args := [d1, d2] }
  | _ => none }
def UndoCopiesWrongFalsely : Prop := undoCopiesRow.holds Try.pinned (OpenSpec.ofChange undoCopiesWrong)

/-- 'cachettelaw17.UndoLast': WHATEVER THE INPUT: true; the input reads as it did. -/
def undoLastSpec : ChangeSpec := { name := "undoLast", fn := fun _ => fun
  | [d1, d2] => { results := [.lit (.bool true)], args := [d1, d2] }
  | _ => none }
def undoLastRow : OpenClaim := { program := "ythnjbjlhfohpfaa", sum := "13a26402ef51cf6980451e243b71f9b488a7e605cdaf37104254659ec3ecc607", func := "cachette/cachettelaw17.UndoLast", spec := "undoLast", inPlace := ["slices.overlaps[cachette/undo.step]"], unfollowed := true, recurses := true, plainKeys := false, apart := false }
def UndoLastSaid : Prop := undoLastRow.holds Try.pinned (OpenSpec.ofChange undoLastSpec)

/-- ITS FALSE NEIGHBOUR: 'it returns false'. Refute it at one input. -/
def undoLastWrong : ChangeSpec := { name := "undoLast", fn := fun _ => fun
  | [d1, d2] => { results := [.lit (.bool false)], args := [d1, d2] }
  | _ => none }
def UndoLastWrongFalsely : Prop := undoLastRow.holds Try.pinned (OpenSpec.ofChange undoLastWrong)

/- THE SECOND FORM. 'bulk': how many values and letters a reading holds, each counted each time it is reached (what is shared counts as often as it is met; a slice's spare places count too). A statement '..UptoSaid' is the law's where the arguments, and the package variables that the reading takes, are together of bulk at most 1048576: NARROWER than '..Said'. Prove '..Said' where nothing that the law and all that it calls make is longer than what came in: it says more and counts as full. Else prove '..UptoSaid'. A law counts once. -/
mutual
def uptoBulk {H : Type} : DataW H → Nat
  | .lit (.string bytes) => bytes.length + 1
  | .lit _ => 1
  | .nil => 1
  | .ptr d => uptoBulk d + 1
  | .slice elems spare => uptoBulkAll elems + uptoBulkAll spare + 1
  | .agg parts => uptoBulkAll parts + 1
  | .iface _ d => uptoBulk d + 1
  | .map entries => uptoBulkEntries entries + 1
  | .held _ => 1
def uptoBulkAll {H : Type} : List (DataW H) → Nat
  | [] => 0
  | d :: r => uptoBulk d + uptoBulkAll r
def uptoBulkEntries {H : Type} : List (Lit × DataW H) → Nat
  | [] => 0
  | x :: r => uptoBulkEntry x + uptoBulkEntries r
def uptoBulkEntry {H : Type} : Lit × DataW H → Nat
  | (.string bytes, d) => bytes.length + uptoBulk d + 1
  | (_, d) => uptoBulk d + 1
 end
def uptoSmall : (H : Type) → List (DataW H) → Bool := fun _ ds => decide (uptoBulkAll ds ≤ 1048576)
def OpenSpec.upto (s : _root_.Go.ChangeSpec) : _root_.Go.OpenSpec := { _root_.Go.OpenSpec.ofChange s with cond := some uptoSmall }

/-- 'cachettelaw17.UndoSame', WHERE WHAT IT READS IS OF BULK AT MOST 1048576: true; the input reads as it did. -/
def undoSameUptoRow : OpenClaim := { program := "ythnjbjlhfohpfaa", sum := "13a26402ef51cf6980451e243b71f9b488a7e605cdaf37104254659ec3ecc607", func := "cachette/cachettelaw17.UndoSame", spec := "undoSame", inPlace := ["slices.overlaps[cachette/undo.step]"], unfollowed := true, recurses := true, plainKeys := false, apart := false, narrowed := true }
def UndoSameUptoSaid : Prop := undoSameUptoRow.holds Try.pinned (OpenSpec.upto undoSameSpec)

/-- 'cachettelaw17.UndoCopies', WHERE WHAT IT READS IS OF BULK AT MOST 1048576: true; the input reads as it did. -/
def undoCopiesUptoRow : OpenClaim := { program := "ythnjbjlhfohpfaa", sum := "13a26402ef51cf6980451e243b71f9b488a7e605cdaf37104254659ec3ecc607", func := "cachette/cachettelaw17.UndoCopies", spec := "undoCopies", inPlace := ["slices.overlaps[cachette/undo.step]"], unfollowed := true, recurses := true, plainKeys := false, apart := false, narrowed := true }
def UndoCopiesUptoSaid : Prop := undoCopiesUptoRow.holds Try.pinned (OpenSpec.upto undoCopiesSpec)

/-- 'cachettelaw17.UndoLast', WHERE WHAT IT READS IS OF BULK AT MOST 1048576: true; the input reads as it did. -/
def undoLastUptoRow : OpenClaim := { program := "ythnjbjlhfohpfaa", sum := "13a26402ef51cf6980451e243b71f9b488a7e605cdaf37104254659ec3ecc607", func := "cachette/cachettelaw17.UndoLast", spec := "undoLast", inPlace := ["slices.overlaps[cachette/undo.step]"], unfollowed := true, recurses := true, plainKeys := false, apart := false, narrowed := true }
def UndoLastUptoSaid : Prop := undoLastUptoRow.holds Try.pinned (OpenSpec.upto undoLastSpec)

end Rows
end Go.Proofs.Ythnjbjlhfohpfaa
