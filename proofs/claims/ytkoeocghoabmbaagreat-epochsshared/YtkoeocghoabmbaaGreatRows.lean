/-
  No cell of these rows narrows 'for every input' (looked for: loops, veiled, ifaces, maps, wideKeys, modest, calm, conditions, laid).
  DERIVED. THE GIVEN ROWS OF THIS SEAT. 4 by the template 'for every input the law returns true; each argument reads behind the call as it read before'; 0 by the template 'total and deterministic' (their statements: YtkoeocghoabmbaaGreatTotals.lean).
  GIVEN WITH THE SEED: the statements are not yours to turn. If you find one false, say at which input.
  Laid BY PROGRAM, IN A SANDBOX (cutbox-rows.mjs): the forced cells as the released guide's own fill.sh prints them over the translation 1106ec25c165aa2f… (all of the seat's roots in one cut). By AI agents, Wed Nov 11 2026. No macro, syntax, notation, axiom, sorry.
-/
import Derived.Test.YtkoeocghoabmbaaGreatChecked
import GoSem.Claim
import GoSem.ClaimJoined
import GoSem.ClaimMapViews
import Derived.JoinedTies
import Derived.KernelRfl
namespace Go.Proofs.YtkoeocghoabmbaaGreat
/- THE CELL 'sum', in the pinned program and in every row, IS THE sha256 OF THE DUMP (.gsa) THAT YtkoeocghoabmbaaGreatProg.lean LOADS. Nothing in Lean hashes anything: it is a label: what it is worth is what the hold of that sum in a sandbox is worth. -/
noncomputable def Tryz.pinned : Pinned := { name := "ytkoeocghoabmbaagreat", sum := "1106ec25c165aa2ff0e2726d75b98157e128fcdb8d1a79419d5da84f4ea97879", checked := Tryz.checked }
namespace Rows
def none {H : Type} : Left H := { results := [], args := [] }

/-- 'cachettelaw13.EpochsPlays': WHATEVER THE INPUT: true; the input reads as it did. -/
def epochsPlaysSpec : ChangeSpec := { name := "epochsPlays", fn := fun _ => fun
  | [d1, d2, d3] => { results := [.lit (.bool true)], args := [d1, d2, d3] }
  | _ => none }
def epochsPlaysRow : OpenClaim := { program := "ytkoeocghoabmbaagreat", sum := "1106ec25c165aa2ff0e2726d75b98157e128fcdb8d1a79419d5da84f4ea97879", func := "cachette/cachettelaw13.EpochsPlays", spec := "epochsPlays", inPlace := ["slices.overlaps[cachette/members.Member]"], unfollowed := true, recurses := true, apart := false }
def EpochsPlaysSaid : Prop := epochsPlaysRow.holds Tryz.pinned (OpenSpec.ofChange epochsPlaysSpec)

/-- ITS FALSE NEIGHBOUR: 'it returns false'. Refute it at one input. -/
def epochsPlaysWrong : ChangeSpec := { name := "epochsPlays", fn := fun _ => fun
  | [d1, d2, d3] => { results := [.lit (.bool false)], args := [d1, d2, d3] }
  | _ => none }
def EpochsPlaysWrongFalsely : Prop := epochsPlaysRow.holds Tryz.pinned (OpenSpec.ofChange epochsPlaysWrong)

/-- 'cachettelaw13.EpochsShared': WHATEVER THE INPUT: true; the input reads as it did. -/
def epochsSharedSpec : ChangeSpec := { name := "epochsShared", fn := fun _ => fun
  | [d1, d2] => { results := [.lit (.bool true)], args := [d1, d2] }
  | _ => none }
def epochsSharedRow : OpenClaim := { program := "ytkoeocghoabmbaagreat", sum := "1106ec25c165aa2ff0e2726d75b98157e128fcdb8d1a79419d5da84f4ea97879", func := "cachette/cachettelaw13.EpochsShared", spec := "epochsShared", inPlace := ["slices.overlaps[cachette/members.Member]"], unfollowed := true, recurses := true, apart := false }
def EpochsSharedSaid : Prop := epochsSharedRow.holds Tryz.pinned (OpenSpec.ofChange epochsSharedSpec)

/-- ITS FALSE NEIGHBOUR: 'it returns false'. Refute it at one input. -/
def epochsSharedWrong : ChangeSpec := { name := "epochsShared", fn := fun _ => fun
  | [d1, d2] => { results := [.lit (.bool false)], args := [d1, d2] }
  | _ => none }
def EpochsSharedWrongFalsely : Prop := epochsSharedRow.holds Tryz.pinned (OpenSpec.ofChange epochsSharedWrong)

/-- 'cachettelaw13.EpochsGone': WHATEVER THE INPUT: true; the input reads as it did. -/
def epochsGoneSpec : ChangeSpec := { name := "epochsGone", fn := fun _ => fun
  | [d1, d2, d3] => { results := [.lit (.bool true)], args := [d1, d2, d3] }
  | _ => none }
def epochsGoneRow : OpenClaim := { program := "ytkoeocghoabmbaagreat", sum := "1106ec25c165aa2ff0e2726d75b98157e128fcdb8d1a79419d5da84f4ea97879", func := "cachette/cachettelaw13.EpochsGone", spec := "epochsGone", inPlace := ["slices.overlaps[cachette/members.Member]"], unfollowed := true, recurses := true, apart := false }
def EpochsGoneSaid : Prop := epochsGoneRow.holds Tryz.pinned (OpenSpec.ofChange epochsGoneSpec)

/-- ITS FALSE NEIGHBOUR: 'it returns false'. Refute it at one input. -/
def epochsGoneWrong : ChangeSpec := { name := "epochsGone", fn := fun _ => fun
  | [d1, d2, d3] => { results := [.lit (.bool false)], args := [d1, d2, d3] }
  | _ => none }
def EpochsGoneWrongFalsely : Prop := epochsGoneRow.holds Tryz.pinned (OpenSpec.ofChange epochsGoneWrong)

/-- 'cachettelaw13.EpochsCopies': WHATEVER THE INPUT: true; the input reads as it did. -/
def epochsCopiesSpec : ChangeSpec := { name := "epochsCopies", fn := fun _ => fun
  | [d1, d2, d3] => { results := [.lit (.bool true)], args := [d1, d2, d3] }
  | _ => none }
def epochsCopiesRow : OpenClaim := { program := "ytkoeocghoabmbaagreat", sum := "1106ec25c165aa2ff0e2726d75b98157e128fcdb8d1a79419d5da84f4ea97879", func := "cachette/cachettelaw13.EpochsCopies", spec := "epochsCopies", inPlace := ["slices.overlaps[cachette/members.Member]"], unfollowed := true, recurses := true, apart := false }
def EpochsCopiesSaid : Prop := epochsCopiesRow.holds Tryz.pinned (OpenSpec.ofChange epochsCopiesSpec)

/-- ITS FALSE NEIGHBOUR: 'it returns false'. Refute it at one input. -/
def epochsCopiesWrong : ChangeSpec := { name := "epochsCopies", fn := fun _ => fun
  | [d1, d2, d3] => { results := [.lit (.bool false)], args := [d1, d2, d3] }
  | _ => none }
def EpochsCopiesWrongFalsely : Prop := epochsCopiesRow.holds Tryz.pinned (OpenSpec.ofChange epochsCopiesWrong)

/- THE SECOND FORM. 'bulk': how many values and letters a reading holds, each counted each time it is reached (what is shared counts as often as it is met; a slice's spare places count too). A statement '..UptoSaid' is the law's where the arguments, and the package variables that the reading takes, are together of bulk at most 1048576: NARROWER than '..Said'. Prove '..Said' where nothing that the law and all that it calls make is longer than what came in: it says more and counts as full. Else prove '..UptoSaid'. A law counts once. -/
mutual
def uptoBulk {H : Type} : DataW H → Nat
  | .lit (.string bytes) => bytes.length + 1
  | .lit _ => 1
  | .nil => 1
  | .ptr d => uptoBulk d + 1
  | .slice elems spare => uptoBulkAll elems + uptoBulkAll spare + 1
  | .agg parts => uptoBulkAll parts + 1
  | .iface _ d => uptoBulk d + 1
  | .map entries => uptoBulkEntries entries + 1
  | .held _ => 1
def uptoBulkAll {H : Type} : List (DataW H) → Nat
  | [] => 0
  | d :: r => uptoBulk d + uptoBulkAll r
def uptoBulkEntries {H : Type} : List (Lit × DataW H) → Nat
  | [] => 0
  | x :: r => uptoBulkEntry x + uptoBulkEntries r
def uptoBulkEntry {H : Type} : Lit × DataW H → Nat
  | (.string bytes, d) => bytes.length + uptoBulk d + 1
  | (_, d) => uptoBulk d + 1
 end
def uptoSmall : (H : Type) → List (DataW H) → Bool := fun _ ds => decide (uptoBulkAll ds ≤ 1048576)
def OpenSpec.upto (s : _root_.Go.ChangeSpec) : _root_.Go.OpenSpec := { _root_.Go.OpenSpec.ofChange s with cond := some uptoSmall }

/-- 'cachettelaw13.EpochsPlays', WHERE WHAT IT READS IS OF BULK AT MOST 1048576: true; the input reads as it did. -/
def epochsPlaysUptoRow : OpenClaim := { program := "ytkoeocghoabmbaagreat", sum := "1106ec25c165aa2ff0e2726d75b98157e128fcdb8d1a79419d5da84f4ea97879", func := "cachette/cachettelaw13.EpochsPlays", spec := "epochsPlays", inPlace := ["slices.overlaps[cachette/members.Member]"], unfollowed := true, recurses := true, apart := false, narrowed := true }
def EpochsPlaysUptoSaid : Prop := epochsPlaysUptoRow.holds Tryz.pinned (OpenSpec.upto epochsPlaysSpec)

/-- 'cachettelaw13.EpochsShared', WHERE WHAT IT READS IS OF BULK AT MOST 1048576: true; the input reads as it did. -/
def epochsSharedUptoRow : OpenClaim := { program := "ytkoeocghoabmbaagreat", sum := "1106ec25c165aa2ff0e2726d75b98157e128fcdb8d1a79419d5da84f4ea97879", func := "cachette/cachettelaw13.EpochsShared", spec := "epochsShared", inPlace := ["slices.overlaps[cachette/members.Member]"], unfollowed := true, recurses := true, apart := false, narrowed := true }
def EpochsSharedUptoSaid : Prop := epochsSharedUptoRow.holds Tryz.pinned (OpenSpec.upto epochsSharedSpec)

/-- 'cachettelaw13.EpochsGone', WHERE WHAT IT READS IS OF BULK AT MOST 1048576: true; the input reads as it did. -/
def epochsGoneUptoRow : OpenClaim := { program := "ytkoeocghoabmbaagreat", sum := "1106ec25c165aa2ff0e2726d75b98157e128fcdb8d1a79419d5da84f4ea97879", func := "cachette/cachettelaw13.EpochsGone", spec := "epochsGone", inPlace := ["slices.overlaps[cachette/members.Member]"], unfollowed := true, recurses := true, apart := false, narrowed := true }
def EpochsGoneUptoSaid : Prop := epochsGoneUptoRow.holds Tryz.pinned (OpenSpec.upto epochsGoneSpec)

/-- 'cachettelaw13.EpochsCopies', WHERE WHAT IT READS IS OF BULK AT MOST 1048576: true; the input reads as it did. -/
def epochsCopiesUptoRow : OpenClaim := { program := "ytkoeocghoabmbaagreat", sum := "1106ec25c165aa2ff0e2726d75b98157e128fcdb8d1a79419d5da84f4ea97879", func := "cachette/cachettelaw13.EpochsCopies", spec := "epochsCopies", inPlace := ["slices.overlaps[cachette/members.Member]"], unfollowed := true, recurses := true, apart := false, narrowed := true }
def EpochsCopiesUptoSaid : Prop := epochsCopiesUptoRow.holds Tryz.pinned (OpenSpec.upto epochsCopiesSpec)

end Rows
end Go.Proofs.YtkoeocghoabmbaaGreat
