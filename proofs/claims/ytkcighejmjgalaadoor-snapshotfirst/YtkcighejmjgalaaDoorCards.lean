/-
  DERIVED. GIVEN WITH THE SEED: THE CARDS: each row of YtkcighejmjgalaaDoorRows.lean that lists a variable, with what it lists TIED to the program's text (the seventh form; the later family's looks); each row that meets fmt, with fmt's text TOLD by the authors' own Lean function (tested against real Go, not proved from fmt's source: count such statements apart). THE CARD IS WHAT COUNTS. Prove the row's statement (the work); the ties are given (YtkcighejmjgalaaDoorTie.lean); close each card by the builder's one call (the guide's Derived/Test/ToyasCard.lean, 'card_holds'). Laid BY PROGRAM, IN A SANDBOX (cutbox-door.mjs). By AI agents, Wed Nov 11 2026. No macro, syntax, notation, axiom, sorry.
-/
import Derived.Test.YtkcighejmjgalaaDoorRows
import GoSem.ClaimSeven
namespace Go.Proofs.YtkcighejmjgalaaDoor
namespace Rows

/-- THE TIED CARD OF 'cachettelaw11.SnapshotPlays'. -/
def snapshotPlaysCard : Claim7 := { stood := { row := snapshotPlaysRow, standIns := [], harness := (true, "65fc87bc5e9318da3877956127e680f4f646102b8e634040a59aaedf41155e26"), looks := false }, kinds := [], alts := [], laidByText := true, laidKinds := [.data], laidTests := true, laidLooks := .later }
def SnapshotPlaysCardSaid : Prop := Claim7.holds Tryd.pinned (.plain (OpenSpec.ofChange snapshotPlaysSpec)) snapshotPlaysCard

/-- THE TIED CARD OF 'cachettelaw11.SnapshotFirst'. -/
def snapshotFirstCard : Claim7 := { stood := { row := snapshotFirstRow, standIns := [], harness := (true, "65fc87bc5e9318da3877956127e680f4f646102b8e634040a59aaedf41155e26"), looks := false }, kinds := [], alts := [], laidByText := true, laidKinds := [.data], laidTests := true, laidLooks := .later }
def SnapshotFirstCardSaid : Prop := Claim7.holds Tryd.pinned (.plain (OpenSpec.ofChange snapshotFirstSpec)) snapshotFirstCard

/-- THE SECOND FORM's CARD OF 'cachettelaw11.SnapshotPlays'. -/
def snapshotPlaysUptoCard : Claim7 := { stood := { row := snapshotPlaysUptoRow, standIns := [], harness := (true, "65fc87bc5e9318da3877956127e680f4f646102b8e634040a59aaedf41155e26"), looks := false }, kinds := [], alts := [], laidByText := true, laidKinds := [.data], laidTests := true, laidLooks := .later }
def SnapshotPlaysUptoCardSaid : Prop := Claim7.holds Tryd.pinned (.plain (OpenSpec.upto snapshotPlaysSpec)) snapshotPlaysUptoCard

/-- THE SECOND FORM's CARD OF 'cachettelaw11.SnapshotFirst'. -/
def snapshotFirstUptoCard : Claim7 := { stood := { row := snapshotFirstUptoRow, standIns := [], harness := (true, "65fc87bc5e9318da3877956127e680f4f646102b8e634040a59aaedf41155e26"), looks := false }, kinds := [], alts := [], laidByText := true, laidKinds := [.data], laidTests := true, laidLooks := .later }
def SnapshotFirstUptoCardSaid : Prop := Claim7.holds Tryd.pinned (.plain (OpenSpec.upto snapshotFirstSpec)) snapshotFirstUptoCard
end Rows
end Go.Proofs.YtkcighejmjgalaaDoor
