/-
  A vector with a head put in place of its writer's: lists and numbers alone.
-/
import Derived.Test.YtdjfedlkfekeoaaVecLaws
namespace Go.Proofs.Ytdjfedlkfekeoaa
set_option linter.unusedVariables false
set_option linter.unusedSimpArgs false

def putF (l : List H) (h : H) (k : Nat) : H := if (k : Int) = h.1 then h else getV l k
def putTo (l : List H) (h : H) (k : Nat) : List H := canon (putF l h) (List.range k)
theorem putTo_succ (l : List H) (h : H) (k : Nat) : putTo l h (k + 1) = putTo l h k ++ oneH (putF l h k) := by unfold putTo; rw [List.range_succ, canon_snoc]
theorem putTo_len (l : List H) (h : H) (k : Nat) : (putTo l h k).length ≤ k := by have := canon_len (putF l h) (List.range k); simpa [putTo] using this
def putV (l : List H) (h : H) : List H × Int := if rightB l && decide (rightH h) then (putTo l h 8, 0) else ([], 1)
theorem putV_right {l : List H} {h : H} (rl : RightV l) (rh : rightH h) : putV l h = (putTo l h 8, 0) := by
  unfold putV; rw [rightB_true rl, decide_eq_true rh]; rfl
theorem putV_not {l : List H} {h : H} (hn : ¬ (RightV l ∧ rightH h)) : putV l h = ([], 1) := by
  unfold putV
  cases e : (rightB l && decide (rightH h)) with
  | false => rfl
  | true => rw [Bool.and_eq_true] at e; exact absurd ⟨rightB_iff.1 e.1, of_decide_eq_true e.2⟩ hn
theorem put_heads {l : List H} {h : H} (rl : RightV l) (rh : rightH h) : Heads8 (putF l h) := fun k hk => by
  unfold putF
  split
  · rename_i e
    exact ⟨e.symm, .inl rh⟩
  · exact heads_get rl k hk
theorem put_right {l : List H} {h : H} (rl : RightV l) (rh : rightH h) : RightV (putTo l h 8) := canon_right (put_heads rl rh)
theorem put_get {l : List H} {h : H} (rl : RightV l) (rh : rightH h) {k : Nat} (hk : k ∈ eight) : getV (putTo l h 8) (k : Nat) = putF l h k := canon_get (put_heads rl rh) k hk

theorem drop_cons {l : List H} {i : Nat} (hi : i < l.length) : l.drop i = l.getD i hz :: l.drop (i + 1) := by rw [List.drop_eq_getElem_cons hi, getD_of hi]
theorem set_split {l : List H} {i : Nat} {h : H} (hi : i < l.length) : l.set i h = l.take i ++ h :: l.drop (i + 1) := by rw [List.set_eq_take_append_cons_drop, if_pos hi]
theorem pair_mid {A B : List H} {x : H} (hA : A.Pairwise (fun x y => x.1 < y.1)) (hB : B.Pairwise (fun x y => x.1 < y.1)) (h1 : ∀ y ∈ A, y.1 < x.1) (h2 : ∀ y ∈ B, x.1 < y.1) : (A ++ x :: B).Pairwise (fun x y => x.1 < y.1) := by
  refine List.pairwise_append.2 ⟨hA, List.pairwise_cons.2 ⟨h2, hB⟩, fun a ha b hb => ?_⟩
  have := h1 a ha
  rcases List.mem_cons.1 hb with r | r
  · rw [r]; exact this
  · have := h2 b r; omega
theorem mid_right {l : List H} {h : H} {i j : Nat} (rl : RightV l) (rh : rightH h) (h1 : ∀ y ∈ l.take i, y.1 < h.1) (h2 : ∀ y ∈ l.drop j, h.1 < y.1) : RightV (l.take i ++ h :: l.drop j) := by
  refine ⟨fun x hx => ?_, pair_mid (rl.2.sublist (List.take_sublist _ _)) (rl.2.sublist (List.drop_sublist _ _)) h1 h2⟩
  rcases List.mem_append.1 hx with r | r
  · exact rl.1 x (List.mem_of_mem_take r)
  · rcases List.mem_cons.1 r with r | r
    · rw [r]; exact rh
    · exact rl.1 x (List.mem_of_mem_drop r)
theorem getV_mid {A B : List H} {x : H} (h1 : ∀ y ∈ A, y.1 < x.1) (k : Int) : getV (A ++ x :: B) k = if k = x.1 then x else getV (A ++ B) k := by
  by_cases e : k = x.1
  · rw [if_pos e, getV_append (fun y hy => by have := h1 y hy; omega), getV_cons, if_pos e.symm]
  · rw [if_neg e]
    clear h1
    induction A with
    | nil => rw [List.nil_append, List.nil_append, getV_cons, if_neg (fun h => e h.symm)]
    | cons a A ih => rw [List.cons_append, List.cons_append, getV_cons, getV_cons, ih]

/-- Where the writer is named .. -/
theorem put_named {l : List H} {h : H} {i : Nat} (rl : RightV l) (rh : rightH h) (hp : Placed l h.1 i) (hi : i < l.length) (hf : (l.getD i hz).1 = h.1) : l.set i h = putTo l h 8 := by
  have ed := drop_cons hi
  have h2 : ∀ y ∈ l.drop (i + 1), h.1 < y.1 := fun y hy => by
    obtain ⟨t, ht, rfl⟩ := List.getElem_of_mem hy
    simp only [List.length_drop] at ht
    have := rl.mono (show i < i + 1 + t by omega) (by omega)
    rw [getD_of (show i + 1 + t < l.length by omega)] at this
    rw [hf] at this
    simpa using this
  rw [set_split hi]
  refine right_ext (mid_right rl rh hp.low' h2) (put_right rl rh) fun k hk => ?_
  rw [put_get rl rh hk, getV_mid hp.low']
  unfold putF
  by_cases e : (k : Int) = h.1
  · rw [if_pos e, if_pos e]
  · rw [if_neg e, if_neg e]
    have el : l = l.take i ++ l.getD i hz :: l.drop (i + 1) := by rw [← ed, List.take_append_drop]
    conv => rhs; rw [el]
    rw [getV_mid (x := l.getD i hz) (fun y hy => by have := hp.low' y hy; omega), if_neg (by omega)]
/-- .. and where it is not. -/
theorem put_new {l : List H} {h : H} {i : Nat} (rl : RightV l) (rh : rightH h) (hp : Placed l h.1 i) (hf : ¬ (i < l.length ∧ (l.getD i hz).1 = h.1)) : l.take i ++ h :: l.drop i = putTo l h 8 := by
  have hno := (hp.lost rl hf).2
  have h2 : ∀ y ∈ l.drop i, h.1 < y.1 := fun y hy => by
    have := hp.up' y hy
    have := hno y (List.mem_of_mem_drop hy)
    omega
  refine right_ext (mid_right rl rh hp.low' h2) (put_right rl rh) fun k hk => ?_
  rw [put_get rl rh hk, getV_mid hp.low', List.take_append_drop]
  rfl
end Go.Proofs.Ytdjfedlkfekeoaa
