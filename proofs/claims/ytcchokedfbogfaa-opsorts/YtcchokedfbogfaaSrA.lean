/-
  A row's one cell; few operations, and none.
-/
import Derived.Test.YtcchokedfbogfaaCmW
import Derived.Test.YtcchokedfbogfaaStb
namespace Go.Proofs.Ytcchokedfbogfaa
set_option linter.unusedVariables false
set_option linter.unusedSimpArgs false
set_option synthInstance.maxSize 20000
set_option maxHeartbeats 2000000
set_option maxRecDepth 20000
open Go.RowKit Go.Maps

theorem oc_set9 (x : OpT) (a : Option Addr) (n c : Nat) (b : List Int) : (oc x).set 9 (.slice a n c) = oc ⟨x.k, x.a, x.n, x.p, x.d, x.s, a, n, c, b⟩ := rfl
theorem flat_set9 (p s : List OpT) (x y : OpT) (v : Value) (h : (oc x).set 9 v = oc y) : (flat oc (p ++ x :: s)).set (p.length * 10 + 9) v = flat oc (p ++ y :: s) := by
  have h1 : (flat oc p).length = p.length * 10 := flat_length oc_len _
  have e : ∀ z, flat oc (p ++ z :: s) = flat oc p ++ (oc z ++ flat oc s) := fun z => by rw [flat_append]; rfl
  rw [e, e, List.set_append_right _ _ (by omega), h1, Nat.add_sub_cancel_left, List.set_append_left _ _ (by rw [oc_len]; omega), h]
/-- The content of one operation of a row is stored. -/
theorem Row.put9 {w : World} {g N cap : Nat} {p s : List OpT} {x y : OpT} {v : Value} (h : Row w g N cap (p ++ x :: s)) (hv : (oc x).set 9 v = oc y) : Row (w.setCell ⟨g, p.length * 10 + 9, none⟩ v) g N cap (p ++ y :: s) := by
  obtain ⟨hl, hx, hh⟩ := h
  rcases hh with ⟨e, _⟩ | ⟨g', cap', cur, e, h3, h4, h5, h6, h7, h8⟩
  · cases e
  · cases e
    have hb : Blk w g 26 cur.toList := by unfold Blk; simpa using h4
    have q1 := hb.set (p.length * 10 + 9) v
    have hlp : p.length + 1 + s.length = N := by simp at hl; omega
    refine ⟨by simpa using hl, ?_, .inr ⟨g, cap, _, rfl, Nat.zero_le _, q1, h5, h6, by simpa using h7, ?_⟩⟩
    · rw [flat_length oc_len]; simp at hl ⊢; omega
    · rw [List.toList_toArray, List.take_set, h8, flat_set9 p s x y v hv]
theorem compact51_few {w : World} {g N cap : Nat} (hN : N < 2) : Calls Try.prog 51 #[.slice (some ⟨g, 0, none⟩) N cap, .func (.func 52) #[] #[]] w fun e w' => e = .returned (.slice (some ⟨g, 0, none⟩) N cap) ∧ w' = w := by
  have hNI : (N : Int) < 2 := by omega
  go_enter Try.func51, Try.ntmps51
  go_wp2
  go_ret
  exact ⟨rfl, rfl⟩
theorem compact51_nil (w : World) : Calls Try.prog 51 #[.slice none 0 0, .func (.func 52) #[] #[]] w fun e w' => e = .returned (.slice none 0 0) ∧ w' = w := by
  go_enter Try.func51, Try.ntmps51
  go_wp2
  go_ret
  exact ⟨rfl, rfl⟩
theorem firstsO_few {l : List OpT} (h : l.length < 2) : firstsO l = l := by
  match l, h with
  | [], _ => rfl
  | [x], _ => rfl
  | x :: y :: r, h => simp at h; omega
theorem compact51_any {w : World} {g N cap : Nat} {l : List OpT} (hr : Row w g N cap l) (hN2 : N ≤ 1000000) :
    Calls Try.prog 51 #[.slice (some ⟨g, 0, none⟩) N cap, .func (.func 52) #[] #[]] w fun e w' => ∃ n, e = .returned (.slice (some ⟨g, 0, none⟩) n cap) ∧ n = (firstsO l).length ∧ Row w' g n cap (firstsO l) ∧ w.grownBy w' (some g) := by
  by_cases h : 2 ≤ N
  · exact compact51 hr hN2 h
  · refine (compact51_few (by omega)).mono ?_
    rintro e w' ⟨rfl, rfl⟩
    have hl := hr.1
    rw [firstsO_few (by omega)]
    exact ⟨N, rfl, hl.symm, hr, grown_refl _ _⟩
end Go.Proofs.Ytcchokedfbogfaa
