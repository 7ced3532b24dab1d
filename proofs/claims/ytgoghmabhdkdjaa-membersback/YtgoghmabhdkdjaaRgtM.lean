/-
  Which changes are right, by lists.
-/
import Derived.Test.YtgoghmabhdkdjaaMb
namespace Go.Proofs.Ytgoghmabhdkdjaa
set_option linter.unusedVariables false
set_option linter.unusedSimpArgs false
set_option synthInstance.maxSize 20000
set_option maxHeartbeats 2000000
set_option maxRecDepth 20000
open Go.RowKit Go.Maps

def whoB (n : Int) : Bool := decide (0 ≤ n ∧ n ≤ 7)
/-- May x stand behind p? -/
def behB : Option Int → Int → Bool
  | none, _ => true
  | some y, x => decide (y < x)
def stepB (p : Option Int) (x : Wp) : Bool := whoB x.w && decide (x.b.length = 16) && behB p x.w
def wsF : Option Int → List Wp → Bool
  | _, [] => true
  | p, x :: r => stepB p x && wsF (some x.w) r
def wsB (l : List Wp) : Bool := wsF none l && decide (0 < l.length)
def oldB (o : List Int) : Bool := decide (o.length = 0 ∨ o.length = 24)
def keyB (c : Cg) : Bool := decide (c.ws.length = 0 ∧ c.o.length = 0)
def rightB (c : Cg) : Bool :=
  if c.k = 1 then whoB c.w && decide (c.p ≠ 0) && decide (c.l = 0) && keyB c
  else if c.k = 2 then whoB c.w && decide (c.w ≠ 0) && decide (c.p = 0) && decide (0 ≤ c.l ∧ c.l ≤ 200) && keyB c
  else if c.k = 3 then decide (c.w = 0) && decide (c.p = 0) && decide (c.l = 0) && wsB c.ws && oldB c.o
  else false
def lastW (p : Option Int) (l : List Wp) : Option Int := match l.getLast? with
  | none => p
  | some x => some x.w
theorem lastW_cons (p : Option Int) (x : Wp) (l : List Wp) : lastW p (x :: l) = lastW (some x.w) l := by
  cases l with
  | nil => rfl
  | cons y r =>
    have e : (y :: r).getLast? = some ((y :: r).getLast (by simp)) := List.getLast?_eq_some_getLast (by simp)
    unfold lastW
    rw [List.getLast?_cons_cons, e]
theorem wsF_append (a b : List Wp) : ∀ p, wsF p (a ++ b) = (wsF p a && wsF (lastW p a) b) := by
  induction a with
  | nil => intro p; simp [wsF, lastW]
  | cons x a ih =>
    intro p
    rw [List.cons_append, wsF, wsF, ih, lastW_cons, Bool.and_assoc]
/-- Who stands ahead of place k. -/
def prevW (l : List Wp) (k : Nat) : Option Int := if k = 0 then none else (l[k - 1]?).map (·.w)
theorem lastW_take (l : List Wp) (k : Nat) (hk : k ≤ l.length) : lastW none (l.take k) = prevW l k := by
  unfold lastW prevW
  cases k with
  | zero => simp
  | succ k =>
    rw [List.take_succ_eq_append_getElem (by omega), List.getLast?_append]
    simp [show k < l.length by omega]
theorem wsF_snoc {l : List Wp} {k : Nat} {x : Wp} (h : l[k]? = some x) : wsF none (l.take (k + 1)) = (wsF none (l.take k) && stepB (prevW l k) x) := by
  have hk := List.getElem?_eq_some_iff.1 h
  rw [List.take_succ_eq_append_getElem hk.1, hk.2, wsF_append, lastW_take l k (Nat.le_of_lt hk.1)]
  simp [wsF]
theorem wsF_stop {l : List Wp} {k : Nat} {x : Wp} (h : l[k]? = some x) (hs : stepB (prevW l k) x = false) : wsF none l = false := by
  have e : l = l.take (k + 1) ++ l.drop (k + 1) := (List.take_append_drop _ _).symm
  rw [e, wsF_append, wsF_snoc h, hs]
  simp
theorem prevW_zero (l : List Wp) : prevW l 0 = none := rfl
theorem prevW_succ {l : List Wp} {k : Nat} {y : Wp} (h : l[k]? = some y) : prevW l (k + 1) = some y.w := by unfold prevW; rw [if_neg (by omega)]; simp [h]
end Go.Proofs.Ytgoghmabhdkdjaa
