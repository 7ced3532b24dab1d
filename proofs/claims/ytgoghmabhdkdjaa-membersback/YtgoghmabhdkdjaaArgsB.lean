/-
  What comes in, opened: a change.
-/
import Derived.Test.YtgoghmabhdkdjaaArgsM
namespace Go.Proofs.Ytgoghmabhdkdjaa
set_option linter.unusedVariables false
set_option linter.unusedSimpArgs false
set_option synthInstance.maxSize 20000
set_option maxHeartbeats 2000000
set_option maxRecDepth 20000
open Go.RowKit Go.Maps

open Go.ChangeShapes Go.WideShapes Go.ChangeAt
theorem array6 {α : Type} {xs : Array α} (h : xs.size = 6) : ∃ c0 c1 c2 c3 c4 c5, xs = #[c0, c1, c2, c3, c4, c5] := by
  obtain ⟨l⟩ := xs
  obtain ⟨c0, c1, c2, c3, c4, c5, rfl⟩ := list6 (show l.length = 6 from h)
  exact ⟨c0, c1, c2, c3, c4, c5, rfl⟩
set_option maxRecDepth 100000 in
theorem change_of {H : Type} {enc : TypeId × Value → H} {w : World} {r : Reach} {b0 base : Nat} {held : Bool} {v : Value} {d : DataW H} {p : List MemPlace}
    (hv : Value.okWide Try.prog w r b0 42 v) (h : DataW.Trod enc Try.prog w base (fun _ => true) held 42 v d p) : ∃ c x y qs, CgAt w c x y qs ∧ v = cv c x y := by
  obtain ⟨cs, rfl, hsz⟩ := okWide_struct Try.underlying42 hv
  obtain ⟨c0, c1, c2, c3, c4, c5, rfl⟩ := array6 (hsz.trans (by kernel_rfl))
  obtain ⟨fuel, hf⟩ := h
  have hf' : DataW.trod enc Try.prog w base (fun _ => true) held fuel 42 [c0, c1, c2, c3, c4, c5] = some (d, p) := hf
  obtain ⟨⟨c, x, y⟩, hq, qs, hcg⟩ := change_trod rfl hf'
  simp [cqf, cc] at hq
  obtain ⟨rfl, rfl, rfl, rfl, rfl, rfl⟩ := hq
  exact ⟨c, _, _, qs, hcg, rfl⟩
end Go.Proofs.Ytgoghmabhdkdjaa
