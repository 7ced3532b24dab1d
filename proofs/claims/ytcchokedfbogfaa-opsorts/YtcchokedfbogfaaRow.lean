/-
  A row of operations that is put in order where it lies.
-/
import Derived.Test.YtcchokedfbogfaaSrtM
namespace Go.Proofs.Ytcchokedfbogfaa
set_option linter.unusedVariables false
set_option linter.unusedSimpArgs false
set_option synthInstance.maxSize 20000
set_option maxHeartbeats 2000000
set_option maxRecDepth 20000
open Go.RowKit Go.Maps

/-- A slice of N operations from the beginning of block g on. -/
def Row (w : World) (g N cap : Nat) (l : List OpT) : Prop := l.length = N ∧ w.ownsRow 0 26 10 (.slice (some ⟨g, 0, none⟩) N cap) N (flat oc l)
section
variable {w w' : World} {g N cap i : Nat} {l : List OpT} {x : OpT}
theorem Row.load (h : Row w g N cap l) (hi : l[i]? = some x) : w.rangeAt g (i * 10) (oc x) := row_range oc_len h.2 hi
theorem Row.there (h : Row w g N cap l) (hi : i < N) : w.there g (i * 10) 10 := row_there oc_len h.2 (by rw [h.1]; exact hi)
theorem Row.put (h : Row w g N cap l) (hi : i < N) (x : OpT) : Row (w.setCells g (i * 10) (oc x)) g N cap (l.set i x) := ⟨by rw [List.length_set]; exact h.1, row_put oc_len h.2 (by rw [h.1]; exact hi) h.1.symm x⟩
theorem Row.lt (h : Row w g N cap l) : g < w.heap.size := (h.2.lt g rfl).2
theorem Row.below (h : Row w g N cap l) (hb : Below w.heap.size w w') : Row w' g N cap l := ⟨h.1, ownsRow_block h.2 fun k hk => by cases hk; exact hb.block _ h.lt⟩
theorem Row.drew (h : Row w g N cap l) : Row w.drew g N cap l := h
theorem Row.caps (h : Row w g N cap l) : N ≤ cap ∧ cap ≤ 9223372036854775807 := by
  obtain ⟨a, c, e, h1, h2⟩ := slice_of_own h.2
  injection e with _ _ e3
  subst e3
  exact ⟨h1, h2⟩
end
theorem grown_undrew {w w' : World} {r : Option Nat} (h : w.drew.grownBy w' r) : w.grownBy w' r := ⟨h.os, h.tape, h.output, h.size, h.block⟩
/-- Of two runs of n, what stands behind i exchanges. -/
structure Half (p U q V s : List OpT) (n i : Nat) (l' : List OpT) : Prop where
  parts : ∃ U1 U2 V1 V2, U = U1 ++ U2 ∧ V = V1 ++ V2 ∧ U1.length = i ∧ V1.length = i ∧ U.length = n ∧ V.length = n ∧ l' = p ++ (V1 ++ (U2 ++ (q ++ (U1 ++ (V2 ++ s)))))
theorem Half.start {p U q V s : List OpT} {n : Nat} (hU : U.length = n) (hV : V.length = n) : Half p U q V s n 0 (p ++ (U ++ (q ++ (V ++ s)))) :=
  ⟨[], U, [], V, rfl, rfl, rfl, rfl, hU, hV, rfl⟩
theorem Half.done {p U q V s l' : List OpT} {n : Nat} (h : Half p U q V s n n l') : l' = p ++ (V ++ (q ++ (U ++ s))) := by
  obtain ⟨U1, U2, V1, V2, rfl, rfl, h1, h2, h3, h4, rfl⟩ := h.parts
  have e1 : U2 = [] := List.eq_nil_of_length_eq_zero (by simp at h3; omega)
  have e2 : V2 = [] := List.eq_nil_of_length_eq_zero (by simp at h4; omega)
  subst e1 e2
  simp
theorem Half.more {p U q V s l' : List OpT} {n i : Nat} (h : Half p U q V s n i l') (hi : i < n) :
    ∃ u v, l'[p.length + i]? = some u ∧ l'[p.length + n + q.length + i]? = some v ∧ Half p U q V s n (i + 1) ((l'.set (p.length + i) v).set (p.length + n + q.length + i) u) := by
  obtain ⟨U1, U2, V1, V2, rfl, rfl, h1, h2, h3, h4, rfl⟩ := h.parts
  cases U2 with
  | nil => simp at h3; omega
  | cons u U2 =>
    cases V2 with
    | nil => simp at h4; omega
    | cons v V2 =>
      have key := swap_far (p ++ V1) (U2 ++ (q ++ U1)) (V2 ++ s) u v
      simp only [List.length_append, List.length_cons] at h3 h4
      have e1 : p.length + i = (p ++ V1).length := by simp; omega
      have e2 : p.length + n + q.length + i = (p ++ V1).length + 1 + (U2 ++ (q ++ U1)).length := by simp; omega
      have e3 : p ++ (V1 ++ (u :: U2 ++ (q ++ (U1 ++ (v :: V2 ++ s))))) = (p ++ V1) ++ u :: ((U2 ++ (q ++ U1)) ++ v :: (V2 ++ s)) := by simp
      rw [e1, e2, e3]
      refine ⟨u, v, get_mid _ _ _, ?_, ?_⟩
      · have := get_mid ((p ++ V1) ++ u :: (U2 ++ (q ++ U1))) (V2 ++ s) v
        rw [show ((p ++ V1) ++ u :: (U2 ++ (q ++ U1))).length = (p ++ V1).length + 1 + (U2 ++ (q ++ U1)).length by simp; omega] at this
        rw [← this]
        simp
      · rw [key]
        exact ⟨U1 ++ [u], U2, V1 ++ [v], V2, by simp, by simp, by simp; omega, by simp; omega, by simp; omega, by simp; omega, by simp⟩
/-- Two operations of a row are exchanged: two stores. -/
theorem Row.xchg {w0 wd : World} {g N cap i j : Nat} {l : List OpT} (h : Row wd g N cap l) (hg : w0.grownBy wd (some g)) (hi : i < N) (hj : j < N) (x y : OpT) :
    ∃ w1 w2, w1 = wd.setCells g (i * 10) (oc y) ∧ w2 = w1.setCells g (j * 10) (oc x) ∧ Row w2 g N cap ((l.set i y).set j x) ∧ w0.grownBy w2 (some g) ∧ wd.there g (i * 10) 10 ∧ w1.there g (j * 10) 10 := by
  have R1 := h.put hi y
  exact ⟨_, _, rfl, rfl, R1.put hj x, grown_trans (grown_trans hg (grown_setCells g _ _ _) (fun k hk => .inl hk)) (grown_setCells g _ _ _) (fun k hk => .inl hk), h.there hi, R1.there hj⟩
theorem below_drewn (w : World) (n : Nat) : Below w.heap.size w (w.drewN n) := ⟨rfl, rfl, rfl, Nat.le_refl _, fun _ _ => rfl⟩
theorem grown_drewn {w w' : World} {r : Option Nat} (h : w.grownBy w' r) (n : Nat) : w.grownBy (w'.drewN n) r := ⟨h.os, h.tape, h.output, h.size, h.block⟩
end Go.Proofs.Ytcchokedfbogfaa
