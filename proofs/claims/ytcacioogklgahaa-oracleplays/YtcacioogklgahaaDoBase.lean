/-
  What a step of a script leaves.
-/
import Derived.Test.YtcacioogklgahaaPlay2
import Derived.Test.YtcacioogklgahaaHeads
import Derived.Deep.DeepCutAuto
namespace Go.Proofs.Ytcacioogklgahaa
set_option linter.unusedVariables false
open Go.RowKit Go.Maps

/-- Sealed texts are short. -/
def Short (S : St) : Prop := ∀ g k b p, (g, What.seal k b p) ∈ S.rows → p.length ≤ 1000000
theorem Short.put {S : St} (h : Short S) {x : What} (hx : ∀ k b p, x = .seal k b p → p.length ≤ 1000000) : Short (S.put x) := by
  intro g k b p hm
  rw [put_rows] at hm
  rcases List.mem_append.1 hm with e | e
  · exact h g k b p e
  · simp at e
    exact hx k b p e.2.symm
theorem Short.get {S : St} (h : Short S) {x : What} (hx : ∀ k b p, x ≠ .seal k b p) : Short (S.get x).2 := by
  cases e : S.of x with
  | some g => rw [get_some e]; exact h
  | none => rw [get_none e]; exact h.put (fun k b p e => absurd e (hx k b p))
theorem Short.find {S : St} (h : Short S) (l : List Int) : ∀ k b p, S.find l = some (.seal k b p) → p.length ≤ 1000000 := by
  intro k b p e
  unfold St.find at e
  split at e
  · exact h _ k b p (at_some e)
  · cases e

/-- What a step leaves. -/
def Step (W w' : World) (pb b r : Nat) (S : St) (hs : List Int) (ts : List (Value × List Int)) : Prop :=
  ∃ S' hs' ts', Game W w' pb b r S' S' hs' ts' [] [] ∧ Fine S' ∧ Short S' ∧ S'.rows.length ≤ S.rows.length + 2 ∧ hs'.length ≤ hs.length + 2 ∧ ts'.length ≤ ts.length + 1

end Go.Proofs.Ytcacioogklgahaa
