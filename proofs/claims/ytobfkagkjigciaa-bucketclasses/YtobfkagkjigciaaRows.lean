/-
  No cell of these rows narrows 'for every input' (looked for: loops, veiled, ifaces, maps, wideKeys, modest, calm, conditions, laid).
  DERIVED. THE GIVEN ROWS OF THIS SEAT. 5 by the template 'for every input the law returns true; each argument reads behind the call as it read before'; 0 by the template 'total and deterministic' (their statements: YtobfkagkjigciaaTotals.lean).
  GIVEN WITH THE SEED: the statements are not yours to turn. If you find one false, say at which input.
  Laid BY PROGRAM, IN A SANDBOX (cutbox-rows.mjs): the forced cells as the released guide's own fill.sh prints them over the translation 1ee632b5d55cf3d9… (all of the seat's roots in one cut). By AI agents, Wed Nov 11 2026. No macro, syntax, notation, axiom, sorry.
-/
import Derived.Test.YtobfkagkjigciaaChecked
import GoSem.Claim
import GoSem.ClaimJoined
import GoSem.ClaimMapViews
import Derived.JoinedTies
import Derived.KernelRfl
namespace Go.Proofs.Ytobfkagkjigciaa
/- THE CELL 'sum', in the pinned program and in every row, IS THE sha256 OF THE DUMP (.gsa) THAT YtobfkagkjigciaaProg.lean LOADS. Nothing in Lean hashes anything: it is a label: what it is worth is what the hold of that sum in a sandbox is worth. -/
noncomputable def Try.pinned : Pinned := { name := "ytobfkagkjigciaa", sum := "1ee632b5d55cf3d9bc0de49698a4ebe143015df40d38e192019bff2c55506ac9", checked := Try.checked }
namespace Rows
def none {H : Type} : Left H := { results := [], args := [] }

/-- 'cachettelaw02.BucketClasses': WHATEVER THE INPUT: true; the input reads as it did. -/
def bucketClassesSpec : ChangeSpec := { name := "bucketClasses", fn := fun _ => fun
  | [d1, d2] => { results := [.lit (.bool true)], args := [d1, d2] }
  | _ => none }
def bucketClassesRow : OpenClaim := { program := "ytobfkagkjigciaa", sum := "1ee632b5d55cf3d9bc0de49698a4ebe143015df40d38e192019bff2c55506ac9", func := "cachette/cachettelaw02.BucketClasses", spec := "bucketClasses", unfollowed := true, recurses := true, apart := false }
def BucketClassesSaid : Prop := bucketClassesRow.holds Try.pinned (OpenSpec.ofChange bucketClassesSpec)

/-- ITS FALSE NEIGHBOUR: 'it returns false'. Refute it at one input. -/
def bucketClassesWrong : ChangeSpec := { name := "bucketClasses", fn := fun _ => fun
  | [d1, d2] => { results := [.lit (.bool false)], args := [d1, d2] }
  | _ => none }
def BucketClassesWrongFalsely : Prop := bucketClassesRow.holds Try.pinned (OpenSpec.ofChange bucketClassesWrong)

/-- 'cachettelaw02.BucketPads': WHATEVER THE INPUT: true; the input reads as it did. -/
def bucketPadsSpec : ChangeSpec := { name := "bucketPads", fn := fun _ => fun
  | [d1, d2] => { results := [.lit (.bool true)], args := [d1, d2] }
  | _ => none }
def bucketPadsRow : OpenClaim := { program := "ytobfkagkjigciaa", sum := "1ee632b5d55cf3d9bc0de49698a4ebe143015df40d38e192019bff2c55506ac9", func := "cachette/cachettelaw02.BucketPads", spec := "bucketPads", unfollowed := true, recurses := true, apart := false }
def BucketPadsSaid : Prop := bucketPadsRow.holds Try.pinned (OpenSpec.ofChange bucketPadsSpec)

/-- ITS FALSE NEIGHBOUR: 'it returns false'. Refute it at one input. -/
def bucketPadsWrong : ChangeSpec := { name := "bucketPads", fn := fun _ => fun
  | [d1, d2] => { results := [.lit (.bool false)], args := [d1, d2] }
  | _ => none }
def BucketPadsWrongFalsely : Prop := bucketPadsRow.holds Try.pinned (OpenSpec.ofChange bucketPadsWrong)

/-- 'cachettelaw02.BucketBack': WHATEVER THE INPUT: true; the input reads as it did. -/
def bucketBackSpec : ChangeSpec := { name := "bucketBack", fn := fun _ => fun
  | [d1, d2] => { results := [.lit (.bool true)], args := [d1, d2] }
  | _ => none }
def bucketBackRow : OpenClaim := { program := "ytobfkagkjigciaa", sum := "1ee632b5d55cf3d9bc0de49698a4ebe143015df40d38e192019bff2c55506ac9", func := "cachette/cachettelaw02.BucketBack", spec := "bucketBack", unfollowed := true, recurses := true, apart := false }
def BucketBackSaid : Prop := bucketBackRow.holds Try.pinned (OpenSpec.ofChange bucketBackSpec)

/-- ITS FALSE NEIGHBOUR: 'it returns false'. Refute it at one input. -/
def bucketBackWrong : ChangeSpec := { name := "bucketBack", fn := fun _ => fun
  | [d1, d2] => { results := [.lit (.bool false)], args := [d1, d2] }
  | _ => none }
def BucketBackWrongFalsely : Prop := bucketBackRow.holds Try.pinned (OpenSpec.ofChange bucketBackWrong)

/-- 'cachettelaw02.BucketAlike': WHATEVER THE INPUT: true; the input reads as it did. -/
def bucketAlikeSpec : ChangeSpec := { name := "bucketAlike", fn := fun _ => fun
  | [d1, d2] => { results := [.lit (.bool true)], args := [d1, d2] }
  | _ => none }
def bucketAlikeRow : OpenClaim := { program := "ytobfkagkjigciaa", sum := "1ee632b5d55cf3d9bc0de49698a4ebe143015df40d38e192019bff2c55506ac9", func := "cachette/cachettelaw02.BucketAlike", spec := "bucketAlike", unfollowed := true, recurses := true, apart := false }
def BucketAlikeSaid : Prop := bucketAlikeRow.holds Try.pinned (OpenSpec.ofChange bucketAlikeSpec)

/-- ITS FALSE NEIGHBOUR: 'it returns false'. Refute it at one input. -/
def bucketAlikeWrong : ChangeSpec := { name := "bucketAlike", fn := fun _ => fun
  | [d1, d2] => { results := [.lit (.bool false)], args := [d1, d2] }
  | _ => none }
def BucketAlikeWrongFalsely : Prop := bucketAlikeRow.holds Try.pinned (OpenSpec.ofChange bucketAlikeWrong)

/-- 'cachettelaw02.BucketRises': WHATEVER THE INPUT: true; the input reads as it did. -/
def bucketRisesSpec : ChangeSpec := { name := "bucketRises", fn := fun _ => fun
  | [d1, d2] => { results := [.lit (.bool true)], args := [d1, d2] }
  | _ => none }
def bucketRisesRow : OpenClaim := { program := "ytobfkagkjigciaa", sum := "1ee632b5d55cf3d9bc0de49698a4ebe143015df40d38e192019bff2c55506ac9", func := "cachette/cachettelaw02.BucketRises", spec := "bucketRises", unfollowed := true, recurses := true, apart := false }
def BucketRisesSaid : Prop := bucketRisesRow.holds Try.pinned (OpenSpec.ofChange bucketRisesSpec)

/-- ITS FALSE NEIGHBOUR: 'it returns false'. Refute it at one input. -/
def bucketRisesWrong : ChangeSpec := { name := "bucketRises", fn := fun _ => fun
  | [d1, d2] => { results := [.lit (.bool false)], args := [d1, d2] }
  | _ => none }
def BucketRisesWrongFalsely : Prop := bucketRisesRow.holds Try.pinned (OpenSpec.ofChange bucketRisesWrong)

/- THE SECOND FORM. 'bulk': how many values and letters a reading holds, each counted each time it is reached (what is shared counts as often as it is met; a slice's spare places count too). A statement '..UptoSaid' is the law's where the arguments, and the package variables that the reading takes, are together of bulk at most 1048576: NARROWER than '..Said'. Prove '..Said' where nothing that the law and all that it calls make is longer than what came in: it says more and counts as full. Else prove '..UptoSaid'. A law counts once. -/
mutual
def uptoBulk {H : Type} : DataW H → Nat
  | .lit (.string bytes) => bytes.length + 1
  | .lit _ => 1
  | .nil => 1
  | .ptr d => uptoBulk d + 1
  | .slice elems spare => uptoBulkAll elems + uptoBulkAll spare + 1
  | .agg parts => uptoBulkAll parts + 1
  | .iface _ d => uptoBulk d + 1
  | .map entries => uptoBulkEntries entries + 1
  | .held _ => 1
def uptoBulkAll {H : Type} : List (DataW H) → Nat
  | [] => 0
  | d :: r => uptoBulk d + uptoBulkAll r
def uptoBulkEntries {H : Type} : List (Lit × DataW H) → Nat
  | [] => 0
  | x :: r => uptoBulkEntry x + uptoBulkEntries r
def uptoBulkEntry {H : Type} : Lit × DataW H → Nat
  | (.string bytes, d) => bytes.length + uptoBulk d + 1
  | (_, d) => uptoBulk d + 1
 end
def uptoSmall : (H : Type) → List (DataW H) → Bool := fun _ ds => decide (uptoBulkAll ds ≤ 1048576)
def OpenSpec.upto (s : _root_.Go.ChangeSpec) : _root_.Go.OpenSpec := { _root_.Go.OpenSpec.ofChange s with cond := some uptoSmall }

/-- 'cachettelaw02.BucketClasses', WHERE WHAT IT READS IS OF BULK AT MOST 1048576: true; the input reads as it did. -/
def bucketClassesUptoRow : OpenClaim := { program := "ytobfkagkjigciaa", sum := "1ee632b5d55cf3d9bc0de49698a4ebe143015df40d38e192019bff2c55506ac9", func := "cachette/cachettelaw02.BucketClasses", spec := "bucketClasses", unfollowed := true, recurses := true, apart := false, narrowed := true }
def BucketClassesUptoSaid : Prop := bucketClassesUptoRow.holds Try.pinned (OpenSpec.upto bucketClassesSpec)

/-- 'cachettelaw02.BucketPads', WHERE WHAT IT READS IS OF BULK AT MOST 1048576: true; the input reads as it did. -/
def bucketPadsUptoRow : OpenClaim := { program := "ytobfkagkjigciaa", sum := "1ee632b5d55cf3d9bc0de49698a4ebe143015df40d38e192019bff2c55506ac9", func := "cachette/cachettelaw02.BucketPads", spec := "bucketPads", unfollowed := true, recurses := true, apart := false, narrowed := true }
def BucketPadsUptoSaid : Prop := bucketPadsUptoRow.holds Try.pinned (OpenSpec.upto bucketPadsSpec)

/-- 'cachettelaw02.BucketBack', WHERE WHAT IT READS IS OF BULK AT MOST 1048576: true; the input reads as it did. -/
def bucketBackUptoRow : OpenClaim := { program := "ytobfkagkjigciaa", sum := "1ee632b5d55cf3d9bc0de49698a4ebe143015df40d38e192019bff2c55506ac9", func := "cachette/cachettelaw02.BucketBack", spec := "bucketBack", unfollowed := true, recurses := true, apart := false, narrowed := true }
def BucketBackUptoSaid : Prop := bucketBackUptoRow.holds Try.pinned (OpenSpec.upto bucketBackSpec)

/-- 'cachettelaw02.BucketAlike', WHERE WHAT IT READS IS OF BULK AT MOST 1048576: true; the input reads as it did. -/
def bucketAlikeUptoRow : OpenClaim := { program := "ytobfkagkjigciaa", sum := "1ee632b5d55cf3d9bc0de49698a4ebe143015df40d38e192019bff2c55506ac9", func := "cachette/cachettelaw02.BucketAlike", spec := "bucketAlike", unfollowed := true, recurses := true, apart := false, narrowed := true }
def BucketAlikeUptoSaid : Prop := bucketAlikeUptoRow.holds Try.pinned (OpenSpec.upto bucketAlikeSpec)

/-- 'cachettelaw02.BucketRises', WHERE WHAT IT READS IS OF BULK AT MOST 1048576: true; the input reads as it did. -/
def bucketRisesUptoRow : OpenClaim := { program := "ytobfkagkjigciaa", sum := "1ee632b5d55cf3d9bc0de49698a4ebe143015df40d38e192019bff2c55506ac9", func := "cachette/cachettelaw02.BucketRises", spec := "bucketRises", unfollowed := true, recurses := true, apart := false, narrowed := true }
def BucketRisesUptoSaid : Prop := bucketRisesUptoRow.holds Try.pinned (OpenSpec.upto bucketRisesSpec)

end Rows
end Go.Proofs.Ytobfkagkjigciaa
