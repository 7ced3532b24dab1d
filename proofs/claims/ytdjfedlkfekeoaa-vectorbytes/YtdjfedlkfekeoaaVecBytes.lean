/-
  A vector's bytes, and the vector of bytes: lists and numbers alone.
-/
import Derived.Test.YtdjfedlkfekeoaaVecLaws
import Derived.Test.YtdjfedlkfekeoaaRefReader2
namespace Go.Proofs.Ytdjfedlkfekeoaa
set_option linter.unusedVariables false
set_option linter.unusedSimpArgs false

def bytesH (h : H) : List Int := form h.1.toNat ++ form h.2.1.toNat ++ form h.2.2.toNat
def bytesTo (l : List H) (j : Nat) : List Int := form l.length ++ (l.take j).flatMap bytesH
theorem bytesTo_succ {l : List H} {j : Nat} (hj : j < l.length) : bytesTo l (j + 1) = bytesTo l j ++ bytesH (l.getD j hz) := by
  unfold bytesTo
  rw [List.take_succ_eq_append_getElem hj, List.flatMap_append, getD_of hj]
  simp
def bytesV (l : List H) : List Int × Int := if rightB l then (bytesTo l l.length, 0) else ([], 1)
theorem bytesV_right {l : List H} (h : RightV l) : bytesV l = (bytesTo l l.length, 0) := by unfold bytesV; rw [rightB_true h]; rfl
theorem bytesV_not {l : List H} (h : ¬ RightV l) : bytesV l = ([], 1) := by unfold bytesV; rw [rightB_false h]; rfl
theorem fit_of {x : Int} (h : U64 x ∨ I64 x) : x.toNat < 18446744073709551616 := by
  rcases h with h | h
  · have := h.1; have := h.2; omega
  · have := h.1; have := h.2; omega
theorem bytesH_len {h : H} (hh : HOk h) : (bytesH h).length ≤ 30 := by
  unfold bytesH
  rw [List.length_append, List.length_append]
  have e1 := form_le10 (n := h.1.toNat) (fit_of (.inr hh.1))
  have e2 := form_le10 (n := h.2.1.toNat) (fit_of (.inr hh.2.1))
  have e3 := form_le10 (n := h.2.2.toNat) (fit_of (.inl hh.2.2))
  omega
theorem flat_len : ∀ (l : List H), (∀ s ∈ l, HOk s) → (l.flatMap bytesH).length ≤ 30 * l.length
  | [], _ => by simp
  | h :: l, ho => by
    rw [List.flatMap_cons, List.length_append, List.length_cons]
    have := bytesH_len (ho h (List.mem_cons_self))
    have := flat_len l fun s hs => ho s (List.mem_cons_of_mem _ hs)
    omega
theorem bytesTo_len {l : List H} (ho : ∀ s ∈ l, HOk s) (hl : l.length ≤ 100) (j : Nat) : (bytesTo l j).length ≤ 10 + 30 * l.length := by
  unfold bytesTo
  rw [List.length_append]
  have e1 := form_le10 (n := l.length) (by omega)
  have e2 := flat_len (l.take j) fun s hs => ho s (List.mem_of_mem_take hs)
  have e3 : (l.take j).length ≤ l.length := by rw [List.length_take]; omega
  omega

/-- What taking a head makes of a reader. -/
def takeH (l : List Int) (k : Int) : H × List Int × Int :=
  (((rCount l k 7).1, (rCount (rCount l k 7).2.1 (rCount l k 7).2.2 200).1, ((rNum (rCount (rCount l k 7).2.1 (rCount l k 7).2.2 200).2.1 (rCount (rCount l k 7).2.1 (rCount l k 7).2.2 200).2.2).1 : Int)),
    (rNum (rCount (rCount l k 7).2.1 (rCount l k 7).2.2 200).2.1 (rCount (rCount l k 7).2.1 (rCount l k 7).2.2 200).2.2).2.1, (rNum (rCount (rCount l k 7).2.1 (rCount l k 7).2.2 200).2.1 (rCount (rCount l k 7).2.1 (rCount l k 7).2.2 200).2.2).2.2)
/-- .. and taking heads, one behind the other. -/
def takesTo (l : List Int) (k : Int) : Nat → List H × List Int × Int
  | 0 => ([], l, k)
  | j + 1 => ((takesTo l k j).1 ++ [(takeH (takesTo l k j).2.1 (takesTo l k j).2.2).1], (takeH (takesTo l k j).2.1 (takesTo l k j).2.2).2)
theorem takesTo_len (l : List Int) (k : Int) : ∀ j, (takesTo l k j).1.length = j
  | 0 => rfl
  | j + 1 => by
    show ((takesTo l k j).1 ++ [_]).length = _
    rw [List.length_append, takesTo_len l k j]
    rfl
/-- What Read tells of heads that were taken, and of what is left. -/
def endV (s : List H × List Int × Int) : List H × Int := if doneK s.2.1 s.2.2 = 0 then (if rightB s.1 then (s.1, 0) else ([], 4)) else ([], doneK s.2.1 s.2.2)
def readV (b : List Int) : List H × Int := endV (takesTo (rCount b 0 8).2.1 (rCount b 0 8).2.2 (rCount b 0 8).1.toNat)

/-- A reader that is wrong stays as it is. -/
theorem rNum_stuck {k : Int} (h : k ≠ 0) : rNum [] k = (0, [], k) := by
  show (match parse 0 [] with
    | some (n, r) => (n, r, k)
    | none => (0, [], if k = 0 then 4 else k)) = _
  rw [show parse 0 [] = none from rfl]
  simp [h]
theorem rCount_stuck {k most : Int} (h : k ≠ 0) (hm : 0 ≤ most) : rCount [] k most = (0, [], k) := by
  unfold rCount
  rw [rNum_stuck h, if_neg (by simpa using hm)]
  rfl
theorem takeH_stuck {k : Int} (h : k ≠ 0) : (takeH [] k).2 = ([], k) := by
  unfold takeH
  rw [rCount_stuck h (by omega)]
  dsimp only
  rw [rCount_stuck h (by omega)]
  dsimp only
  rw [rNum_stuck h]
theorem takesTo_stuck {l : List Int} {k q : Int} {j : Nat} (hq : q ≠ 0) (h : (takesTo l k j).2 = ([], q)) : ∀ d, (takesTo l k (j + d)).2 = ([], q)
  | 0 => h
  | d + 1 => by
    show (takeH (takesTo l k (j + d)).2.1 (takesTo l k (j + d)).2.2).2 = _
    rw [takesTo_stuck hq h d]
    exact takeH_stuck hq
theorem endV_stuck {s : List H × List Int × Int} {q : Int} (hq : q ≠ 0) (h : s.2 = ([], q)) : endV s = ([], q) := by
  unfold endV doneK
  rw [h]
  simp [hq]

theorem rCount_range (l : List Int) (k most : Int) (hm : 0 ≤ most) : 0 ≤ (rCount l k most).1 ∧ (rCount l k most).1 ≤ most := by
  unfold rCount
  split
  · exact ⟨by show (0 : Int) ≤ 0; omega, hm⟩
  · exact ⟨by show (0 : Int) ≤ ((rNum l k).1 : Int); omega, by show ((rNum l k).1 : Int) ≤ most; omega⟩
theorem takeH_ok {l : List Int} {k : Int} (hs : (rNum (rCount (rCount l k 7).2.1 (rCount l k 7).2.2 200).2.1 (rCount (rCount l k 7).2.1 (rCount l k 7).2.2 200).2.2).1 < 18446744073709551616) : HOk (takeH l k).1 := by
  have h1 := rCount_range l k 7 (by omega)
  have h2 := rCount_range (rCount l k 7).2.1 (rCount l k 7).2.2 200 (by omega)
  refine ⟨⟨?_, ?_⟩, ⟨?_, ?_⟩, ⟨?_, ?_⟩⟩
  · show _ ≤ (rCount l k 7).1; omega
  · show (rCount l k 7).1 ≤ _; omega
  · show _ ≤ (rCount (rCount l k 7).2.1 (rCount l k 7).2.2 200).1; omega
  · show (rCount (rCount l k 7).2.1 (rCount l k 7).2.2 200).1 ≤ _; omega
  · show (0 : Int) ≤ ((rNum _ _).1 : Int); omega
  · show ((rNum _ _).1 : Int) < _; omega
theorem refCount_eq (l : List Int) (k most : Int) (hk : k ≠ 0 → l = []) (hm : 0 ≤ most) : ((refCount l k most).1 : Int) = (rCount l k most).1 ∧ (refCount l k most).2.1 = (rCount l k most).2.1 ∧ (refCount l k most).2.2 = (rCount l k most).2.2 := by
  have hz := rNum_zero l k hk
  unfold refCount rCount
  by_cases h0 : (rNum l k).2.2 = 0
  · by_cases h1 : most < ((rNum l k).1 : Int)
    · rw [if_pos ⟨h0, h1⟩, if_pos h1, if_pos h0]
      exact ⟨rfl, rfl, rfl⟩
    · rw [if_neg (fun h => h1 h.2), if_neg h1]
      exact ⟨rfl, rfl, rfl⟩
  · obtain ⟨e1, e2⟩ := hz h0
    rw [if_neg (fun h => h0 h.1), if_neg (by rw [e1]; simpa using hm)]
    exact ⟨rfl, rfl, rfl⟩
end Go.Proofs.Ytdjfedlkfekeoaa
