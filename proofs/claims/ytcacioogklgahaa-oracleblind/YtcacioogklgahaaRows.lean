/-
  No cell of these rows narrows 'for every input' (looked for: loops, veiled, ifaces, maps, wideKeys, modest, calm, conditions, laid).
  DERIVED. THE GIVEN ROWS OF THIS SEAT. 6 by the template 'for every input the law returns true; each argument reads behind the call as it read before'; 0 by the template 'total and deterministic' (their statements: YtcacioogklgahaaTotals.lean).
  GIVEN WITH THE SEED: the statements are not yours to turn. If you find one false, say at which input.
  Laid BY PROGRAM, IN A SANDBOX (cutbox-rows.mjs): the forced cells as the released guide's own fill.sh prints them over the translation 645721d267f1ab3e… (all of the seat's roots in one cut). By AI agents, Wed Nov 11 2026. No macro, syntax, notation, axiom, sorry.
-/
import Derived.Test.YtcacioogklgahaaChecked
import GoSem.Claim
import GoSem.ClaimJoined
import GoSem.ClaimMapViews
import Derived.JoinedTies
import Derived.KernelRfl
namespace Go.Proofs.Ytcacioogklgahaa
/- THE CELL 'sum', in the pinned program and in every row, IS THE sha256 OF THE DUMP (.gsa) THAT YtcacioogklgahaaProg.lean LOADS. Nothing in Lean hashes anything: it is a label: what it is worth is what the hold of that sum in a sandbox is worth. -/
noncomputable def Try.pinned : Pinned := { name := "ytcacioogklgahaa", sum := "645721d267f1ab3e1b90cb223c1bbbab4cdd4c36999c34b9953ad396b5950709", checked := Try.checked }
namespace Rows
def none {H : Type} : Left H := { results := [], args := [] }

/-- 'cachettelaw03.OraclePlays': WHATEVER THE INPUT: true; the input reads as it did. -/
def oraclePlaysSpec : ChangeSpec := { name := "oraclePlays", fn := fun _ => fun
  | [d1, d2] => { results := [.lit (.bool true)], args := [d1, d2] }
  | _ => none }
def oraclePlaysRow : OpenClaim := { program := "ytcacioogklgahaa", sum := "645721d267f1ab3e1b90cb223c1bbbab4cdd4c36999c34b9953ad396b5950709", func := "cachette/cachettelaw03.OraclePlays", spec := "oraclePlays", unfollowed := true, recurses := true, apart := false }
def OraclePlaysSaid : Prop := oraclePlaysRow.holds Try.pinned (OpenSpec.ofChange oraclePlaysSpec)

/-- ITS FALSE NEIGHBOUR: 'it returns false'. Refute it at one input. -/
def oraclePlaysWrong : ChangeSpec := { name := "oraclePlays", fn := fun _ => fun
  | [d1, d2] => { results := [.lit (.bool false)], args := [d1, d2] }
  | _ => none }
def OraclePlaysWrongFalsely : Prop := oraclePlaysRow.holds Try.pinned (OpenSpec.ofChange oraclePlaysWrong)

/-- 'cachettelaw03.OracleHashes': WHATEVER THE INPUT: true; the input reads as it did. -/
def oracleHashesSpec : ChangeSpec := { name := "oracleHashes", fn := fun _ => fun
  | [d1, d2, d3] => { results := [.lit (.bool true)], args := [d1, d2, d3] }
  | _ => none }
def oracleHashesRow : OpenClaim := { program := "ytcacioogklgahaa", sum := "645721d267f1ab3e1b90cb223c1bbbab4cdd4c36999c34b9953ad396b5950709", func := "cachette/cachettelaw03.OracleHashes", spec := "oracleHashes", unfollowed := true, recurses := true, apart := false }
def OracleHashesSaid : Prop := oracleHashesRow.holds Try.pinned (OpenSpec.ofChange oracleHashesSpec)

/-- ITS FALSE NEIGHBOUR: 'it returns false'. Refute it at one input. -/
def oracleHashesWrong : ChangeSpec := { name := "oracleHashes", fn := fun _ => fun
  | [d1, d2, d3] => { results := [.lit (.bool false)], args := [d1, d2, d3] }
  | _ => none }
def OracleHashesWrongFalsely : Prop := oracleHashesRow.holds Try.pinned (OpenSpec.ofChange oracleHashesWrong)

/-- 'cachettelaw03.OracleSeals': WHATEVER THE INPUT: true; the input reads as it did. -/
def oracleSealsSpec : ChangeSpec := { name := "oracleSeals", fn := fun _ => fun
  | [d1, d2, d3, d4, d5, d6] => { results := [.lit (.bool true)], args := [d1, d2, d3, d4, d5, d6] }
  | _ => none }
def oracleSealsRow : OpenClaim := { program := "ytcacioogklgahaa", sum := "645721d267f1ab3e1b90cb223c1bbbab4cdd4c36999c34b9953ad396b5950709", func := "cachette/cachettelaw03.OracleSeals", spec := "oracleSeals", unfollowed := true, recurses := true, apart := false }
def OracleSealsSaid : Prop := oracleSealsRow.holds Try.pinned (OpenSpec.ofChange oracleSealsSpec)

/-- ITS FALSE NEIGHBOUR: 'it returns false'. Refute it at one input. -/
def oracleSealsWrong : ChangeSpec := { name := "oracleSeals", fn := fun _ => fun
  | [d1, d2, d3, d4, d5, d6] => { results := [.lit (.bool false)], args := [d1, d2, d3, d4, d5, d6] }
  | _ => none }
def OracleSealsWrongFalsely : Prop := oracleSealsRow.holds Try.pinned (OpenSpec.ofChange oracleSealsWrong)

/-- 'cachettelaw03.OracleBlind': WHATEVER THE INPUT: true; the input reads as it did. -/
def oracleBlindSpec : ChangeSpec := { name := "oracleBlind", fn := fun _ => fun
  | [d1, d2, d3] => { results := [.lit (.bool true)], args := [d1, d2, d3] }
  | _ => none }
def oracleBlindRow : OpenClaim := { program := "ytcacioogklgahaa", sum := "645721d267f1ab3e1b90cb223c1bbbab4cdd4c36999c34b9953ad396b5950709", func := "cachette/cachettelaw03.OracleBlind", spec := "oracleBlind", unfollowed := true, recurses := true, apart := false }
def OracleBlindSaid : Prop := oracleBlindRow.holds Try.pinned (OpenSpec.ofChange oracleBlindSpec)

/-- ITS FALSE NEIGHBOUR: 'it returns false'. Refute it at one input. -/
def oracleBlindWrong : ChangeSpec := { name := "oracleBlind", fn := fun _ => fun
  | [d1, d2, d3] => { results := [.lit (.bool false)], args := [d1, d2, d3] }
  | _ => none }
def OracleBlindWrongFalsely : Prop := oracleBlindRow.holds Try.pinned (OpenSpec.ofChange oracleBlindWrong)

/-- 'cachettelaw03.OracleSigns': WHATEVER THE INPUT: true; the input reads as it did. -/
def oracleSignsSpec : ChangeSpec := { name := "oracleSigns", fn := fun _ => fun
  | [d1, d2, d3, d4] => { results := [.lit (.bool true)], args := [d1, d2, d3, d4] }
  | _ => none }
def oracleSignsRow : OpenClaim := { program := "ytcacioogklgahaa", sum := "645721d267f1ab3e1b90cb223c1bbbab4cdd4c36999c34b9953ad396b5950709", func := "cachette/cachettelaw03.OracleSigns", spec := "oracleSigns", unfollowed := true, recurses := true, apart := false }
def OracleSignsSaid : Prop := oracleSignsRow.holds Try.pinned (OpenSpec.ofChange oracleSignsSpec)

/-- ITS FALSE NEIGHBOUR: 'it returns false'. Refute it at one input. -/
def oracleSignsWrong : ChangeSpec := { name := "oracleSigns", fn := fun _ => fun
  | [d1, d2, d3, d4] => { results := [.lit (.bool false)], args := [d1, d2, d3, d4] }
  | _ => none }
def OracleSignsWrongFalsely : Prop := oracleSignsRow.holds Try.pinned (OpenSpec.ofChange oracleSignsWrong)

/-- 'cachettelaw03.OracleWraps': WHATEVER THE INPUT: true; the input reads as it did. -/
def oracleWrapsSpec : ChangeSpec := { name := "oracleWraps", fn := fun _ => fun
  | [d1, d2] => { results := [.lit (.bool true)], args := [d1, d2] }
  | _ => none }
def oracleWrapsRow : OpenClaim := { program := "ytcacioogklgahaa", sum := "645721d267f1ab3e1b90cb223c1bbbab4cdd4c36999c34b9953ad396b5950709", func := "cachette/cachettelaw03.OracleWraps", spec := "oracleWraps", unfollowed := true, recurses := true, apart := false }
def OracleWrapsSaid : Prop := oracleWrapsRow.holds Try.pinned (OpenSpec.ofChange oracleWrapsSpec)

/-- ITS FALSE NEIGHBOUR: 'it returns false'. Refute it at one input. -/
def oracleWrapsWrong : ChangeSpec := { name := "oracleWraps", fn := fun _ => fun
  | [d1, d2] => { results := [.lit (.bool false)], args := [d1, d2] }
  | _ => none }
def OracleWrapsWrongFalsely : Prop := oracleWrapsRow.holds Try.pinned (OpenSpec.ofChange oracleWrapsWrong)

/- THE SECOND FORM. 'bulk': how many values and letters a reading holds, each counted each time it is reached (what is shared counts as often as it is met; a slice's spare places count too). A statement '..UptoSaid' is the law's where the arguments, and the package variables that the reading takes, are together of bulk at most 1048576: NARROWER than '..Said'. Prove '..Said' where nothing that the law and all that it calls make is longer than what came in: it says more and counts as full. Else prove '..UptoSaid'. A law counts once. -/
mutual
def uptoBulk {H : Type} : DataW H → Nat
  | .lit (.string bytes) => bytes.length + 1
  | .lit _ => 1
  | .nil => 1
  | .ptr d => uptoBulk d + 1
  | .slice elems spare => uptoBulkAll elems + uptoBulkAll spare + 1
  | .agg parts => uptoBulkAll parts + 1
  | .iface _ d => uptoBulk d + 1
  | .map entries => uptoBulkEntries entries + 1
  | .held _ => 1
def uptoBulkAll {H : Type} : List (DataW H) → Nat
  | [] => 0
  | d :: r => uptoBulk d + uptoBulkAll r
def uptoBulkEntries {H : Type} : List (Lit × DataW H) → Nat
  | [] => 0
  | x :: r => uptoBulkEntry x + uptoBulkEntries r
def uptoBulkEntry {H : Type} : Lit × DataW H → Nat
  | (.string bytes, d) => bytes.length + uptoBulk d + 1
  | (_, d) => uptoBulk d + 1
 end
def uptoSmall : (H : Type) → List (DataW H) → Bool := fun _ ds => decide (uptoBulkAll ds ≤ 1048576)
def OpenSpec.upto (s : _root_.Go.ChangeSpec) : _root_.Go.OpenSpec := { _root_.Go.OpenSpec.ofChange s with cond := some uptoSmall }

/-- 'cachettelaw03.OraclePlays', WHERE WHAT IT READS IS OF BULK AT MOST 1048576: true; the input reads as it did. -/
def oraclePlaysUptoRow : OpenClaim := { program := "ytcacioogklgahaa", sum := "645721d267f1ab3e1b90cb223c1bbbab4cdd4c36999c34b9953ad396b5950709", func := "cachette/cachettelaw03.OraclePlays", spec := "oraclePlays", unfollowed := true, recurses := true, apart := false, narrowed := true }
def OraclePlaysUptoSaid : Prop := oraclePlaysUptoRow.holds Try.pinned (OpenSpec.upto oraclePlaysSpec)

/-- 'cachettelaw03.OracleHashes', WHERE WHAT IT READS IS OF BULK AT MOST 1048576: true; the input reads as it did. -/
def oracleHashesUptoRow : OpenClaim := { program := "ytcacioogklgahaa", sum := "645721d267f1ab3e1b90cb223c1bbbab4cdd4c36999c34b9953ad396b5950709", func := "cachette/cachettelaw03.OracleHashes", spec := "oracleHashes", unfollowed := true, recurses := true, apart := false, narrowed := true }
def OracleHashesUptoSaid : Prop := oracleHashesUptoRow.holds Try.pinned (OpenSpec.upto oracleHashesSpec)

/-- 'cachettelaw03.OracleSeals', WHERE WHAT IT READS IS OF BULK AT MOST 1048576: true; the input reads as it did. -/
def oracleSealsUptoRow : OpenClaim := { program := "ytcacioogklgahaa", sum := "645721d267f1ab3e1b90cb223c1bbbab4cdd4c36999c34b9953ad396b5950709", func := "cachette/cachettelaw03.OracleSeals", spec := "oracleSeals", unfollowed := true, recurses := true, apart := false, narrowed := true }
def OracleSealsUptoSaid : Prop := oracleSealsUptoRow.holds Try.pinned (OpenSpec.upto oracleSealsSpec)

/-- 'cachettelaw03.OracleBlind', WHERE WHAT IT READS IS OF BULK AT MOST 1048576: true; the input reads as it did. -/
def oracleBlindUptoRow : OpenClaim := { program := "ytcacioogklgahaa", sum := "645721d267f1ab3e1b90cb223c1bbbab4cdd4c36999c34b9953ad396b5950709", func := "cachette/cachettelaw03.OracleBlind", spec := "oracleBlind", unfollowed := true, recurses := true, apart := false, narrowed := true }
def OracleBlindUptoSaid : Prop := oracleBlindUptoRow.holds Try.pinned (OpenSpec.upto oracleBlindSpec)

/-- 'cachettelaw03.OracleSigns', WHERE WHAT IT READS IS OF BULK AT MOST 1048576: true; the input reads as it did. -/
def oracleSignsUptoRow : OpenClaim := { program := "ytcacioogklgahaa", sum := "645721d267f1ab3e1b90cb223c1bbbab4cdd4c36999c34b9953ad396b5950709", func := "cachette/cachettelaw03.OracleSigns", spec := "oracleSigns", unfollowed := true, recurses := true, apart := false, narrowed := true }
def OracleSignsUptoSaid : Prop := oracleSignsUptoRow.holds Try.pinned (OpenSpec.upto oracleSignsSpec)

/-- 'cachettelaw03.OracleWraps', WHERE WHAT IT READS IS OF BULK AT MOST 1048576: true; the input reads as it did. -/
def oracleWrapsUptoRow : OpenClaim := { program := "ytcacioogklgahaa", sum := "645721d267f1ab3e1b90cb223c1bbbab4cdd4c36999c34b9953ad396b5950709", func := "cachette/cachettelaw03.OracleWraps", spec := "oracleWraps", unfollowed := true, recurses := true, apart := false, narrowed := true }
def OracleWrapsUptoSaid : Prop := oracleWrapsUptoRow.holds Try.pinned (OpenSpec.upto oracleWrapsSpec)

end Rows
end Go.Proofs.Ytcacioogklgahaa
