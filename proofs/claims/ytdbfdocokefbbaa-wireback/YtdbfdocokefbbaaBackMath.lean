/-
  What was put is taken as it was, and cut off anywhere it is not whole: on lists of bytes alone.
-/
import Derived.Test.YtdbfdocokefbbaaReader3
namespace Go.Proofs.Ytdbfdocokefbbaa
set_option linter.unusedVariables false
open Go.RowKit

theorem rNum_form (n : Nat) (R : List Int) (k : Int) (hn : n < 18446744073709551616) : rNum (form n ++ R) k = (n, R, k) := by
  unfold rNum
  rw [parse_form n 0 R (by omega) (by simpa using hn) (.inl rfl)]

theorem rNum_oct (l : List Int) (k : Int) (ho : Oct l) : Oct (rNum l k).2.1 := by
  unfold rNum
  cases hp : parse 0 l with
  | none => exact Oct.nil
  | some q =>
    have e := (numAt_some ho hp).2.1
    rw [e] at ho
    exact ho.of_append.2

theorem parse_short (n c : Nat) (hn : n < 18446744073709551616) (hc : c < (form n).length) : parse 0 ((form n).take c) = none := by
  cases hp : parse 0 ((form n).take c) with
  | none => rfl
  | some q =>
    exfalso
    obtain ⟨m, r⟩ := q
    obtain ⟨e, hb, _⟩ := parse_some _ 0 m r ((form_oct n).take c) hp
    have h1 := parse_form n 0 [] (by omega) (by simpa using hn) (.inl rfl)
    have h2 := parse_form m 0 (r ++ (form n).drop c) (by omega) hb (.inl rfl)
    rw [← List.append_assoc, ← e, List.take_append_drop] at h2
    rw [List.append_nil, h2] at h1
    have h3 : r ++ (form n).drop c = [] := by simpa using (congrArg (fun o => (o.getD (0, [])).2) h1)
    have h4 := congrArg List.length h3
    simp only [List.length_append, List.length_drop, List.length_nil] at h4
    omega

theorem rNum_short (n c : Nat) (hn : n < 18446744073709551616) (hc : c < (form n).length) : rNum ((form n).take c) 0 = (0, [], 4) := by
  unfold rNum
  rw [parse_short n c hn hc]
  rfl

theorem rNum_bad : rNum [] 4 = (0, [], 4) := rfl

theorem rBytes_form (x R : List Int) (hx : x.length ≤ 1000) : rBytes (form x.length ++ (x ++ R)) 0 x.length = (x, R, 0) := by
  unfold rBytes
  rw [rNum_form _ _ _ (by omega)]
  simp

theorem rBytes_bad (m : Int) (hm : 0 ≤ m) : rBytes [] 4 m = ([], [], 4) := by
  unfold rBytes
  rw [rNum_bad]
  simp [show ¬ m < 0 by omega]

theorem take_split (A B : List Int) (c : Nat) : (A ++ B).take c = if c < A.length then A.take c else A ++ B.take (c - A.length) := by
  rw [List.take_append]
  split
  · rw [show c - A.length = 0 by omega]; simp
  · rw [List.take_of_length_le (by omega)]

theorem rBytes_short (x : List Int) (c : Nat) (hx : x.length ≤ 1000) (hc : c < (form x.length ++ x).length) : rBytes ((form x.length ++ x).take c) 0 x.length = ([], [], 4) := by
  rw [take_split]
  split
  · rename_i h
    unfold rBytes
    rw [rNum_short _ _ (by omega) h]
    simp
  · rename_i h
    unfold rBytes
    rw [rNum_form _ _ _ (by omega)]
    simp only [List.length_append] at hc
    rw [if_pos (by rw [List.length_take]; omega)]
    rfl

theorem rBool_form (is : Bool) : rBool [if is then 1 else 0] 0 = (is, [], 0) := by cases is <;> rfl
theorem rBool_none : rBool [] 0 = (false, [], 4) := rfl
theorem rBool_bad : rBool [] 4 = (false, [], 4) := rfl

/-- The bytes that are put. -/
def put4 (n : Nat) (m : Int) (x : List Int) (is : Bool) : List Int := form n ++ (form (zig m) ++ (form x.length ++ (x ++ [if is then 1 else 0])))

/-- The reader behind four calls. -/
def st1 (l : List Int) : List Int × Int := (rNum l 0).2
def st2 (l : List Int) : List Int × Int := (rNum (st1 l).1 (st1 l).2).2
def st3 (l : List Int) (q : Int) : List Int × Int := (rBytes (st2 l).1 (st2 l).2 q).2
def st4 (l : List Int) (q : Int) : List Int × Int := (rBool (st3 l q).1 (st3 l q).2).2

theorem cut_end (n : Nat) (m : Int) (x : List Int) (is : Bool) (c : Nat) (hn : n < 18446744073709551616) (hm : -9223372036854775808 ≤ m ∧ m ≤ 9223372036854775807) (hx : x.length ≤ 1000)
    (hc : c < (put4 n m x is).length) : st4 ((put4 n m x is).take c) x.length = ([], 4) := by
  have hz := zig_lt m hm
  have bad3 : ∀ l, st2 l = ([], 4) → st4 l x.length = ([], 4) := by
    intro l h
    unfold st4 st3
    rw [h]
    show (rBool (rBytes [] 4 x.length).2.1 (rBytes [] 4 x.length).2.2).2 = _
    rw [rBytes_bad _ (by omega)]
    rfl
  have bad2 : ∀ l, st1 l = ([], 4) → st4 l x.length = ([], 4) := by
    intro l h
    refine bad3 l ?_
    unfold st2
    rw [h]
    rfl
  unfold put4 at hc ⊢
  rw [take_split]
  split
  · rename_i h1
    refine bad2 _ ?_
    unfold st1
    rw [rNum_short n c hn h1]
  · rename_i h1
    have e1 : ∀ R, st1 (form n ++ R) = (R, 0) := fun R => by unfold st1; rw [rNum_form n R 0 hn]
    rw [take_split]
    split
    · rename_i h2
      refine bad3 _ ?_
      unfold st2
      rw [e1]
      show (rNum ((form (zig m)).take _) 0).2 = _
      rw [rNum_short _ _ hz h2]
    · rename_i h2
      have e2 : ∀ R, st2 (form n ++ (form (zig m) ++ R)) = (R, 0) := fun R => by
        unfold st2; rw [e1]; show (rNum (form (zig m) ++ R) 0).2 = _; rw [rNum_form _ R 0 hz]
      rw [← List.append_assoc (form x.length), take_split]
      split
      · rename_i h3
        unfold st4 st3
        rw [e2]
        show (rBool (rBytes _ 0 x.length).2.1 (rBytes _ 0 x.length).2.2).2 = _
        rw [rBytes_short x _ hx h3]
        rfl
      · rename_i h3
        have e4 : ([if is then (1 : Int) else 0]).take (c - (form n).length - (form (zig m)).length - (form x.length ++ x).length) = [] := by
          simp only [List.length_append, List.length_cons, List.length_nil] at hc ⊢
          rw [show c - (form n).length - (form (zig m)).length - ((form x.length).length + x.length) = 0 by omega]
          rfl
        rw [e4]
        unfold st4 st3
        rw [e2]
        show (rBool (rBytes (form x.length ++ x ++ []) 0 x.length).2.1 (rBytes (form x.length ++ x ++ []) 0 x.length).2.2).2 = _
        rw [List.append_assoc, rBytes_form x [] hx]
        rfl

theorem put4_length (n : Nat) (m : Int) (x : List Int) (is : Bool) (hn : n < 18446744073709551616) (hm : -9223372036854775808 ≤ m ∧ m ≤ 9223372036854775807) (hx : x.length ≤ 1000) : (put4 n m x is).length ≤ 1031 := by
  have h1 := form_le10 hn
  have h2 := form_le10 (zig_lt m hm)
  have h3 := form_le10 (n := x.length) (by omega)
  unfold put4
  simp only [List.length_append, List.length_cons, List.length_nil]
  omega

end Go.Proofs.Ytdbfdocokefbbaa
