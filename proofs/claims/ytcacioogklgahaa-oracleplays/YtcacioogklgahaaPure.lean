/-
  The oracle by lists: what holds behind its calls.
-/
import Derived.Test.YtcacioogklgahaaRep
namespace Go.Proofs.Ytcacioogklgahaa
set_option linter.unusedVariables false
set_option synthInstance.maxSize 20000
open Classical

theorem get_some {S : St} {x : What} {g : Int} (h : S.of x = some g) : S.get x = (g, S) := by unfold St.get; rw [h]
theorem get_none {S : St} {x : What} (h : S.of x = none) : S.get x = (S.fresh, S.put x) := by unfold St.get; rw [h]
theorem put_len (S : St) (x : What) : (S.put x).rows.length = S.rows.length + 1 := by simp [St.put]
theorem get_len (S : St) (x : What) : (S.get x).2.rows.length ≤ S.rows.length + 1 := by
  cases h : S.of x with
  | none => rw [get_none h]; simp [put_len]
  | some g => rw [get_some h]; simp
theorem get_good {S : St} (hg : Good S) (hN : S.rows.length < 1000000000) {x : What} (hx : WhatOk x) : Good (S.get x).2 := by
  cases h : S.of x with
  | none => rw [get_none h]; exact put_good hg hN hx
  | some g => rw [get_some h]; exact hg
theorem get_of (S : St) (x : What) : (S.get x).2.of x = some (S.get x).1 := by
  cases h : S.of x with
  | none => rw [get_none h, put_of, h]; simp
  | some g => rw [get_some h]; exact h
theorem put_keeps {S : St} {x z : What} {g : Int} (h : S.of z = some g) : (S.put x).of z = some g := by rw [put_of, h]; rfl
theorem get_keeps {S : St} {x z : What} {g : Int} (h : S.of z = some g) : (S.get x).2.of z = some g := by
  cases h2 : S.of x with
  | none => rw [get_none h2]; exact put_keeps h
  | some k => rw [get_some h2]; exact h
theorem of_inj {S : St} (hg : Good S) {x y : What} {g : Int} (h1 : S.of x = some g) (h2 : S.of y = some g) : x = y := by
  have a := at_of_mem hg (of_some h1)
  have b := at_of_mem hg (of_some h2)
  exact Option.some.inj (a.symm.trans b)
theorem at_put_new {S : St} (hg : Good S) (hN : S.rows.length < 1000000000) (x : What) : (S.put x).at S.fresh = some x := by rw [put_at hg hN, if_pos rfl]
theorem at_put_old {S : St} (hg : Good S) (hN : S.rows.length < 1000000000) {x y : What} {g : Int} (h : S.at g = some y) : (S.put x).at g = some y := by
  rw [put_at hg hN, if_neg, h]
  intro e
  have hm : g ∈ S.us := List.mem_map.2 ⟨_, at_some h, rfl⟩
  exact (fresh_ok hg hN).2.1 (e ▸ hm)
theorem at_get_old {S : St} (hg : Good S) (hN : S.rows.length < 1000000000) {x y : What} {g : Int} (h : S.at g = some y) : (S.get x).2.at g = some y := by
  cases h2 : S.of x with
  | none => rw [get_none h2]; exact at_put_old hg hN h
  | some k => rw [get_some h2]; exact h
theorem at_of {S : St} (hg : Good S) {x : What} {g : Int} (h : S.of x = some g) : S.at g = some x := at_of_mem hg (of_some h)
theorem good0 {ds : List Int} (h : ∀ d ∈ ds, U64 d) : Good ⟨ds, []⟩ := ⟨h, by simp, by simp [St.us]⟩
theorem get_ne {S : St} (hg : Good S) (hN : S.rows.length < 1000000000) {x : What} (hx : WhatOk x) : (S.get x).1 ≠ 0 ∧ U64 (S.get x).1 := by
  have := of_ok (get_good hg hN hx) (get_of S x)
  exact ⟨this.2.1, this.1⟩
end Go.Proofs.Ytcacioogklgahaa
