/-
  How two vectors stand, turned round; both together are the least that is below neither: lists and numbers alone.
-/
import Derived.Test.YtdjfedlkfekeoaaVec
namespace Go.Proofs.Ytdjfedlkfekeoaa
set_option linter.unusedVariables false
set_option linter.unusedSimpArgs false

theorem cmpV_right {a b : List H} (ra : RightV a) (rb : RightV b) : cmpV a b = standV (moreTo a b 8) (moreTo b a 8) := by
  unfold cmpV; rw [rightB_true ra, rightB_true rb]; rfl
theorem cmpV_not {a b : List H} (h : ¬ (RightV a ∧ RightV b)) : cmpV a b = 3 := by
  unfold cmpV
  cases e : (rightB a && rightB b) with
  | false => rfl
  | true => rw [Bool.and_eq_true] at e; exact absurd ⟨rightB_iff.1 e.1, rightB_iff.1 e.2⟩ h
theorem missV_right {a b : List H} (ra : RightV a) (rb : RightV b) : missV a b = missTo a b 8 := by
  unfold missV; rw [rightB_true ra, rightB_true rb]; rfl
theorem mergeV_right {a b : List H} (ra : RightV a) (rb : RightV b) : mergeV a b = if (confTo a b 8).isSome then ([], 9) else (mergeTo a b 8, 0) := by
  unfold mergeV confV; rw [rightB_true ra, rightB_true rb]; rfl
theorem mergeV_not {a b : List H} (h : ¬ (RightV a ∧ RightV b)) : mergeV a b = ([], 1) := by
  unfold mergeV
  cases e : (rightB a && rightB b) with
  | false => rfl
  | true => rw [Bool.and_eq_true] at e; exact absurd ⟨rightB_iff.1 e.1, rightB_iff.1 e.2⟩ h

/-- Nothing is missing just if none of b's Lens is above. -/
theorem missTo_nil {a b : List H} (ra : RightV a) : ∀ k, (missTo a b k).length = 0 ↔ moreTo b a k = false
  | 0 => by simp [missTo, moreTo, canon]
  | k + 1 => by
    have ih := missTo_nil (b := b) ra k
    have h0 := (getV_len ra (k : Nat)).1
    rw [missTo_succ, moreTo_succ, List.length_append]
    have e : oneH (missF a b k) = if lenV a k < lenV b k then [getV b k] else [] := by
      unfold missF
      by_cases h : lenV a k < lenV b k
      · rw [if_pos h, if_pos h, oneH_pos]
        unfold lenV at h
        omega
      · rw [if_neg h, if_neg h, oneH_zero]
    rw [e, Bool.or_eq_false_iff, ← ih]
    by_cases h : lenV a k < lenV b k
    · simp [h]
    · simp [h]
theorem moreTo_false {a b : List H} {k : Nat} : moreTo a b k = false ↔ ∀ j, j < k → lenV a j ≤ lenV b j := by
  rw [← Bool.not_eq_true, moreTo_iff]
  constructor
  · intro h j hj
    exact Int.not_lt.1 fun h2 => h ⟨j, hj, h2⟩
  · rintro h ⟨j, hj, h2⟩
    have := h j hj
    omega

/-- The law of turning round. -/
theorem turns (a b : List H) : (cmpV a b = 3 ∧ cmpV b a = 3 ∧ ¬ (RightV a ∧ RightV b)) ∨
    (RightV a ∧ RightV b ∧ ((cmpV a b = 2 ∧ cmpV b a = 2 ∧ 0 < (missV a b).length ∧ 0 < (missV b a).length) ∨
      (cmpV a b = 1 ∧ cmpV b a = -1 ∧ (missV a b).length = 0) ∨ (cmpV a b = -1 ∧ cmpV b a = 1 ∧ 0 < (missV a b).length) ∨ (cmpV a b = 0 ∧ cmpV b a = 0 ∧ (missV a b).length = 0))) := by
  by_cases hr : RightV a ∧ RightV b
  · obtain ⟨ra, rb⟩ := hr
    right
    refine ⟨ra, rb, ?_⟩
    rw [cmpV_right ra rb, cmpV_right rb ra, missV_right ra rb, missV_right rb ra]
    have h1 := missTo_nil (b := b) ra 8
    have h2 := missTo_nil (b := a) rb 8
    cases e1 : moreTo a b 8 <;> cases e2 : moreTo b a 8
    · exact .inr (.inr (.inr ⟨rfl, rfl, h1.2 e2⟩))
    · exact .inr (.inr (.inl ⟨rfl, rfl, Nat.pos_of_ne_zero fun h => by rw [h1.1 h] at e2; cases e2⟩))
    · exact .inr (.inl ⟨rfl, rfl, h1.2 e2⟩)
    · exact .inl ⟨rfl, rfl, Nat.pos_of_ne_zero fun h => (by rw [h1.1 h] at e2; cases e2), Nat.pos_of_ne_zero fun h => (by rw [h2.1 h] at e1; cases e1)⟩
  · exact .inl ⟨cmpV_not hr, cmpV_not (fun h => hr ⟨h.2, h.1⟩), hr⟩

/-! ### Both together. -/
theorem oddB_turn (a b : List H) (j : Nat) : oddB a b j = oddB b a j := by
  unfold oddB
  rw [decide_eq_decide]
  constructor
  · rintro ⟨h1, h2, h3⟩; exact ⟨h1.symm, by omega, fun e => h3 e.symm⟩
  · rintro ⟨h1, h2, h3⟩; exact ⟨h1.symm, by omega, fun e => h3 e.symm⟩
theorem confTo_turn (a b : List H) (k : Nat) : confTo a b k = confTo b a k := by
  unfold confTo
  have : oddB a b = oddB b a := funext fun j => oddB_turn a b j
  rw [this]
theorem confTo_none {a b : List H} {k : Nat} (h : (confTo a b k).isSome = false) : ∀ j, j < k → oddB a b j = false := fun j hj => by
  have e : confTo a b k = none := by cases e : confTo a b k with
    | none => rfl
    | some x => rw [e] at h; cases h
  have := List.find?_eq_none.1 e j (List.mem_range.2 hj)
  simpa using this
theorem merge_heads {a b : List H} (ra : RightV a) (rb : RightV b) : Heads8 (mergeF a b) := fun k hk => by
  unfold mergeF
  split
  · exact heads_get rb k hk
  · exact heads_get ra k hk
theorem mergeTo8 (a b : List H) : mergeTo a b 8 = canon (mergeF a b) eight := rfl
theorem merge_right {a b : List H} (ra : RightV a) (rb : RightV b) : RightV (mergeTo a b 8) := canon_right (merge_heads ra rb)
theorem eight_mem {k : Nat} (h : k < 8) : k ∈ eight := by
  have : k ∈ List.range 8 := List.mem_range.2 h
  exact this
theorem merge_get {a b : List H} (ra : RightV a) (rb : RightV b) {k : Nat} (hk : k < 8) : getV (mergeTo a b 8) (k : Nat) = mergeF a b k := canon_get (merge_heads ra rb) k (eight_mem hk)
theorem merge_len {a b : List H} (ra : RightV a) (rb : RightV b) {k : Nat} (hk : k < 8) : lenV (mergeTo a b 8) k = max (lenV a k) (lenV b k) := by
  unfold lenV
  rw [merge_get ra rb hk]
  unfold mergeF lenV
  split <;> omega
theorem merge_turn {a b : List H} (ra : RightV a) (rb : RightV b) (hc : (confTo a b 8).isSome = false) : mergeTo a b 8 = mergeTo b a 8 := by
  refine canon_congr (f := mergeF a b) (g := mergeF b a) fun k hk => ?_
  have hk8 : k < 8 := List.mem_range.1 hk
  have ho := confTo_none hc k hk8
  unfold mergeF
  by_cases h1 : lenV a k < lenV b k
  · rw [if_pos h1, if_neg (by omega)]
  · by_cases h2 : lenV b k < lenV a k
    · rw [if_neg h1, if_pos h2]
    · rw [if_neg h1, if_neg h2]
      have e : lenV a k = lenV b k := by omega
      by_cases hp : 0 < lenV a k
      · have hs : (getV a (k : Nat)).2.2 = (getV b (k : Nat)).2.2 := by
          refine Decidable.byContradiction fun hne => ?_
          rw [show oddB a b k = true from decide_eq_true ⟨e, hp, hne⟩] at ho
          cases ho
        refine Prod.ext ?_ (Prod.ext e hs)
        rw [getV_writer, getV_writer]
      · rw [getV_zero ra _ hp, getV_zero rb _ (by unfold lenV at e hp; omega)]

/-- What the law of the least asks, of vectors that are not at odds. -/
structure Least (a b c m : List H) : Prop where
  right : RightV m
  left0 : (missV m a).length = 0
  right0 : (missV m b).length = 0
  above : cmpV m a = 0 ∨ cmpV m a = 1
  least : (cmpV c a = 0 ∨ cmpV c a = 1) → (cmpV c b = 0 ∨ cmpV c b = 1) → (cmpV c m = 0 ∨ cmpV c m = 1)
theorem not_below {a b : List H} (ra : RightV a) (rb : RightV b) (h : ∀ k, k < 8 → lenV b k ≤ lenV a k) : cmpV a b = 0 ∨ cmpV a b = 1 := by
  rw [cmpV_right ra rb, moreTo_false.2 h]
  cases moreTo a b 8
  · exact .inl rfl
  · exact .inr rfl
theorem below_not {a b : List H} (h : cmpV a b = 0 ∨ cmpV a b = 1) : RightV a ∧ RightV b ∧ ∀ k, k < 8 → lenV b k ≤ lenV a k := by
  by_cases hr : RightV a ∧ RightV b
  · refine ⟨hr.1, hr.2, ?_⟩
    rw [cmpV_right hr.1 hr.2] at h
    refine moreTo_false.1 ?_
    cases e1 : moreTo a b 8 <;> cases e2 : moreTo b a 8 <;> rw [e1, e2] at h
    all_goals exact absurd h (by decide)
  · rw [cmpV_not hr] at h
    exact absurd h (by decide)
theorem least_of {a b : List H} (c : List H) (ra : RightV a) (rb : RightV b) : Least a b c (mergeTo a b 8) := by
  have rm := merge_right ra rb
  refine ⟨rm, ?_, ?_, ?_, fun h1 h2 => ?_⟩
  · rw [missV_right rm ra, missTo_nil rm, moreTo_false]
    intro j hj; rw [merge_len ra rb hj]; omega
  · rw [missV_right rm rb, missTo_nil rm, moreTo_false]
    intro j hj; rw [merge_len ra rb hj]; omega
  · exact not_below rm ra fun k hk => by rw [merge_len ra rb hk]; omega
  · obtain ⟨rc, _, g1⟩ := below_not h1
    obtain ⟨_, _, g2⟩ := below_not h2
    exact not_below rc rm fun k hk => by rw [merge_len ra rb hk]; have := g1 k hk; have := g2 k hk; omega
end Go.Proofs.Ytdjfedlkfekeoaa
