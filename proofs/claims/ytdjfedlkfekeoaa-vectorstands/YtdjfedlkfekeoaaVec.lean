/-
  Heads as triples of numbers, vectors as lists of them: which are right, the head of a writer, how two vectors stand, both together; lists and numbers alone.
-/
import Derived.WalkKit
namespace Go.Proofs.Ytdjfedlkfekeoaa
set_option linter.unusedVariables false
set_option linter.unusedSimpArgs false

/-- A head: Writer, Len, Sum. -/
abbrev H := Int × Int × Int
def I64 (x : Int) : Prop := -9223372036854775808 ≤ x ∧ x ≤ 9223372036854775807
def U64 (x : Int) : Prop := 0 ≤ x ∧ x < 18446744073709551616
def HOk (h : H) : Prop := I64 h.1 ∧ I64 h.2.1 ∧ U64 h.2.2
abbrev hz : H := (0, 0, 0)

abbrev rightH (h : H) : Prop := 0 ≤ h.1 ∧ h.1 ≤ 7 ∧ 1 ≤ h.2.1 ∧ h.2.1 ≤ 200 ∧ h.2.2 ≠ 0
def RightV (l : List H) : Prop := (∀ h ∈ l, rightH h) ∧ l.Pairwise (fun x y => x.1 < y.1)

/-- The first n heads are right, and rise. -/
def RightTo (l : List H) (n : Nat) : Prop := ∀ i, i < n → rightH (l.getD i hz) ∧ (0 < i → (l.getD (i - 1) hz).1 < (l.getD i hz).1)

theorem rise_of_to {l : List H} {n : Nat} (h : RightTo l n) : ∀ d i, i + d + 1 < n → (l.getD i hz).1 < (l.getD (i + d + 1) hz).1
  | 0, i, hi => by have := (h (i + 1) (by omega)).2 (by omega); simpa using this
  | d + 1, i, hi => by
    have h1 := rise_of_to h d i (by omega)
    have h2 := (h (i + d + 1 + 1) (by omega)).2 (by omega)
    simp only [Nat.add_sub_cancel] at h2
    rw [show i + (d + 1) + 1 = i + d + 1 + 1 by omega]
    omega
theorem getD_of {l : List H} {i : Nat} (hi : i < l.length) : l.getD i hz = l[i] := by rw [List.getD_eq_getElem?_getD, List.getElem?_eq_getElem hi]; rfl
theorem right_of_to {l : List H} (h : RightTo l l.length) : RightV l := by
  refine ⟨fun x hx => ?_, ?_⟩
  · obtain ⟨i, hi, rfl⟩ := List.getElem_of_mem hx
    have := (h i hi).1
    rwa [getD_of hi] at this
  · rw [List.pairwise_iff_getElem]
    intro i j hi hj hij
    have := rise_of_to h (j - i - 1) i (by omega)
    rw [show i + (j - i - 1) + 1 = j by omega] at this
    rwa [getD_of hi, getD_of hj] at this
theorem to_of_right {l : List H} (h : RightV l) : RightTo l l.length := by
  intro i hi
  rw [getD_of hi]
  refine ⟨h.1 _ (List.getElem_mem hi), fun hp => ?_⟩
  rw [getD_of (show i - 1 < l.length by omega)]
  exact List.pairwise_iff_getElem.1 h.2 (i - 1) i (by omega) hi (by omega)
theorem not_right_at {l : List H} {i : Nat} (hi : i < l.length) (h : ¬ (rightH (l.getD i hz) ∧ (0 < i → (l.getD (i - 1) hz).1 < (l.getD i hz).1))) : ¬ RightV l := fun hr => h (to_of_right hr i hi)
theorem RightTo.next {l : List H} {n : Nat} (h : RightTo l n) (hn : rightH (l.getD n hz) ∧ (0 < n → (l.getD (n - 1) hz).1 < (l.getD n hz).1)) : RightTo l (n + 1) := fun i hi => by
  by_cases e : i = n
  · subst e; exact hn
  · exact h i (by omega)
theorem RightV.mono {l : List H} (h : RightV l) {i j : Nat} (hij : i < j) (hj : j < l.length) : (l.getD i hz).1 < (l.getD j hz).1 := by
  rw [getD_of hj, getD_of (show i < l.length by omega)]
  exact List.pairwise_iff_getElem.1 h.2 i j (by omega) hj hij
theorem RightV.nil : RightV [] := ⟨(fun _ h => by cases h), List.Pairwise.nil⟩

/-- The head of a writer. -/
def getV (l : List H) (w : Int) : H := (l.find? (fun h => h.1 == w)).getD (w, 0, 0)
theorem getV_nil (w : Int) : getV [] w = (w, 0, 0) := rfl
theorem getV_cons (h : H) (l : List H) (w : Int) : getV (h :: l) w = if h.1 = w then h else getV l w := by
  unfold getV
  by_cases e : h.1 = w
  · simp [e]
  · simp [e]
theorem getV_writer (l : List H) (w : Int) : (getV l w).1 = w := by
  induction l with
  | nil => rfl
  | cons h l ih => rw [getV_cons]; split <;> assumption
theorem getV_none {l : List H} {w : Int} (h : ∀ x ∈ l, x.1 ≠ w) : getV l w = (w, 0, 0) := by
  induction l with
  | nil => rfl
  | cons x l ih => rw [getV_cons, if_neg (h x (List.mem_cons_self)), ih fun y hy => h y (List.mem_cons_of_mem _ hy)]
theorem getV_append {a b : List H} {w : Int} (h : ∀ x ∈ a, x.1 ≠ w) : getV (a ++ b) w = getV b w := by
  induction a with
  | nil => rfl
  | cons x l ih => rw [List.cons_append, getV_cons, if_neg (h x (List.mem_cons_self)), ih fun y hy => h y (List.mem_cons_of_mem _ hy)]
theorem getV_mem {l : List H} {w : Int} (h : 0 < (getV l w).2.1) : getV l w ∈ l := by
  induction l with
  | nil => simp [getV] at h
  | cons x l ih =>
    rw [getV_cons] at h ⊢
    split
    · exact List.mem_cons_self
    · rename_i e
      rw [if_neg e] at h
      exact List.mem_cons_of_mem _ (ih h)
theorem getV_len {l : List H} (h : RightV l) (w : Int) : 0 ≤ (getV l w).2.1 ∧ (getV l w).2.1 ≤ 200 := by
  by_cases hp : 0 < (getV l w).2.1
  · have := h.1 _ (getV_mem hp); omega
  · have : getV l w = (w, 0, 0) ∨ 0 < (getV l w).2.1 := by
      clear hp
      induction l with
      | nil => exact .inl rfl
      | cons x l ih =>
        rw [getV_cons]
        split
        · exact .inr (by have := h.1 x (List.mem_cons_self); omega)
        · exact ih ⟨fun y hy => h.1 y (List.mem_cons_of_mem _ hy), (List.pairwise_cons.1 h.2).2⟩
    rcases this with e | e
    · rw [e]; simp
    · exact absurd e hp
theorem getV_zero {l : List H} (h : RightV l) (w : Int) (hn : ¬ 0 < (getV l w).2.1) : getV l w = (w, 0, 0) := by
  refine getV_none fun x hx e => hn ?_
  have hr := h.1 x hx
  have : 0 < (getV l w).2.1 := by
    clear hn hr
    induction l with
    | nil => cases hx
    | cons y l ih =>
      rw [getV_cons]
      split
      · have := h.1 y (List.mem_cons_self); omega
      · rename_i ne
        rcases List.mem_cons.1 hx with r | r
        · exact absurd (r ▸ e) ne
        · exact ih ⟨fun y hy => h.1 y (List.mem_cons_of_mem _ hy), (List.pairwise_cons.1 h.2).2⟩ r
  exact this
theorem getV_ok {l : List H} (h : ∀ x ∈ l, HOk x) {w : Int} (hw : I64 w) : HOk (getV l w) := by
  induction l with
  | nil => exact ⟨hw, ⟨by show (-9223372036854775808 : Int) ≤ 0; omega, by show (0 : Int) ≤ 9223372036854775807; omega⟩, ⟨by show (0 : Int) ≤ 0; omega, by show (0 : Int) < 18446744073709551616; omega⟩⟩
  | cons x l ih =>
    rw [getV_cons]
    split
    · exact h x (List.mem_cons_self)
    · exact ih fun y hy => h y (List.mem_cons_of_mem _ hy)

/-- What a search by halves has found. -/
structure Placed (l : List H) (w : Int) (i : Nat) : Prop where
  le : i ≤ l.length
  low : ∀ t, t < i → (l.getD t hz).1 < w
  up : ∀ t, i ≤ t → t < l.length → w ≤ (l.getD t hz).1
theorem Placed.low' {l : List H} {w : Int} {i : Nat} (h : Placed l w i) : ∀ x ∈ l.take i, x.1 < w := fun x hx => by
  obtain ⟨t, ht, rfl⟩ := List.getElem_of_mem hx
  simp only [List.length_take] at ht
  have := h.low t (by omega)
  rw [getD_of (show t < l.length by omega)] at this
  simpa using this
theorem Placed.up' {l : List H} {w : Int} {i : Nat} (h : Placed l w i) : ∀ x ∈ l.drop i, w ≤ x.1 := fun x hx => by
  obtain ⟨t, ht, rfl⟩ := List.getElem_of_mem hx
  simp only [List.length_drop] at ht
  have := h.up (i + t) (by omega) (by omega)
  rw [getD_of (show i + t < l.length by omega)] at this
  simpa using this
theorem Placed.found {l : List H} {w : Int} {i : Nat} (h : Placed l w i) (hi : i < l.length) (hf : (l.getD i hz).1 = w) : getV l w = l.getD i hz := by
  have e : l = l.take i ++ l.drop i := (List.take_append_drop i l).symm
  have e2 : l.drop i = l.getD i hz :: l.drop (i + 1) := by rw [List.drop_eq_getElem_cons hi, getD_of hi]
  rw [e, getV_append (fun x hx => by have := h.low' x hx; omega), ← e, e2, getV_cons, if_pos hf]
theorem Placed.lost {l : List H} {w : Int} {i : Nat} (h : Placed l w i) (hr : RightV l) (hf : ¬ (i < l.length ∧ (l.getD i hz).1 = w)) : getV l w = (w, 0, 0) ∧ ∀ x ∈ l, x.1 ≠ w := by
  have key : ∀ x ∈ l, x.1 ≠ w := fun x hx e => by
    obtain ⟨t, ht, rfl⟩ := List.getElem_of_mem hx
    rw [← getD_of ht] at e
    rcases Nat.lt_trichotomy t i with h1 | h1 | h1
    · have := h.low t h1; omega
    · subst h1; exact hf ⟨ht, e⟩
    · have h2 := h.up i (Nat.le_refl _) (by omega)
      have h3 := hr.mono h1 ht
      omega
  exact ⟨getV_none key, key⟩

theorem fm_congr {f g : Nat → List H} : ∀ {ks : List Nat}, (∀ k ∈ ks, f k = g k) → ks.flatMap f = ks.flatMap g
  | [], _ => rfl
  | k :: ks, h => by rw [List.flatMap_cons, List.flatMap_cons, h k (List.mem_cons_self), fm_congr fun j hj => h j (List.mem_cons_of_mem _ hj)]
/-- The list of what a function tells of eight writers. -/
def oneH (h : H) : List H := if 0 < h.2.1 then [h] else []
theorem oneH_pos {h : H} (hp : 0 < h.2.1) : oneH h = [h] := if_pos hp
theorem oneH_neg {h : H} (hp : ¬ 0 < h.2.1) : oneH h = [] := if_neg hp
theorem oneH_zero (w : Int) : oneH (w, 0, 0) = [] := rfl
def canon (f : Nat → H) (ks : List Nat) : List H := ks.flatMap fun k => oneH (f k)
theorem canon_cons (f : Nat → H) (k : Nat) (ks : List Nat) : canon f (k :: ks) = oneH (f k) ++ canon f ks := rfl
theorem canon_congr {f g : Nat → H} {ks : List Nat} (h : ∀ k ∈ ks, f k = g k) : canon f ks = canon g ks := fm_congr fun k hk => by rw [h k hk]
theorem canon_snoc (f : Nat → H) (ks : List Nat) (k : Nat) : canon f (ks ++ [k]) = canon f ks ++ oneH (f k) := by simp [canon]
theorem canon_from : ∀ (n lo : Nat) (l : List H), (∀ h ∈ l, (lo : Int) ≤ h.1 ∧ h.1 < (lo + n : Nat) ∧ 0 < h.2.1) → l.Pairwise (fun x y => x.1 < y.1) → canon (fun k => getV l k) (List.range' lo n) = l
  | 0, lo, l, h1, h2 => by
    cases l with
    | nil => rfl
    | cons x l => have := h1 x (List.mem_cons_self); omega
  | n + 1, lo, [], h1, h2 => by
    have : ∀ ks, canon (fun k => getV [] k) ks = [] := fun ks => by
      induction ks with
      | nil => rfl
      | cons k ks ih => rw [canon_cons, ih]; rfl
    exact this _
  | n + 1, lo, x :: l, h1, h2 => by
    have hx := h1 x (List.mem_cons_self)
    have hp := List.pairwise_cons.1 h2
    rw [List.range'_succ, canon_cons]
    by_cases e : x.1 = (lo : Int)
    · have ih := canon_from n (lo + 1) l (fun y hy => by have a := h1 y (List.mem_cons_of_mem _ hy); have b := hp.1 y hy; omega) hp.2
      rw [getV_cons, if_pos e, oneH_pos hx.2.2, List.singleton_append]
      congr 1
      refine Eq.trans (canon_congr fun k hk => ?_) ih
      have : lo + 1 ≤ k := (List.mem_range'_1.1 hk).1
      rw [getV_cons, if_neg (by omega)]
    · have ih := canon_from n (lo + 1) (x :: l) (fun y hy => by
        have a := h1 y hy
        rcases List.mem_cons.1 hy with r | r
        · subst r; omega
        · have b := hp.1 y r; omega) h2
      rw [getV_none (w := (lo : Int)) (fun y hy => by
        rcases List.mem_cons.1 hy with r | r
        · subst r; exact e
        · have b := hp.1 y r; omega)]
      exact ih
abbrev eight : List Nat := [0, 1, 2, 3, 4, 5, 6, 7]
theorem eight_eq : eight = List.range' 0 8 := rfl
theorem canon_eq {l : List H} (h : RightV l) : canon (fun k => getV l k) eight = l :=
  canon_from 8 0 l (fun x hx => by have := h.1 x hx; omega) h.2
theorem right_ext {a b : List H} (ha : RightV a) (hb : RightV b) (h : ∀ k ∈ eight, getV a (k : Nat) = getV b (k : Nat)) : a = b := by
  rw [← canon_eq ha, ← canon_eq hb]
  exact canon_congr h

theorem oneH_len (h : H) : (oneH h).length ≤ 1 := by unfold oneH; split <;> simp
theorem canon_len (f : Nat → H) : ∀ ks : List Nat, (canon f ks).length ≤ ks.length
  | [] => Nat.le_refl _
  | k :: ks => by rw [canon_cons, List.length_append, List.length_cons]; have := canon_len f ks; have := oneH_len (f k); omega
theorem RightV.len8 {l : List H} (h : RightV l) : l.length ≤ 8 := by
  have := canon_len (fun k => getV l k) eight
  rw [canon_eq h] at this
  simpa using this

/-- A function that tells heads: of each writer its own, right, or none. -/
def Heads8 (f : Nat → H) : Prop := ∀ k ∈ eight, (f k).1 = (k : Int) ∧ (rightH (f k) ∨ f k = ((k : Int), 0, 0))
theorem canon_mem {f : Nat → H} {ks : List Nat} {x : H} (h : x ∈ canon f ks) : ∃ k ∈ ks, x = f k ∧ 0 < (f k).2.1 := by
  obtain ⟨k, hk, hx⟩ := List.mem_flatMap.1 h
  unfold oneH at hx
  split at hx
  · exact ⟨k, hk, by simpa using hx, ‹_›⟩
  · cases hx
theorem canon_pair {f : Nat → H} : ∀ (ks : List Nat), ks.Pairwise (· < ·) → (∀ k ∈ ks, (f k).1 = (k : Int)) → (canon f ks).Pairwise (fun x y => x.1 < y.1)
  | [], _, _ => List.Pairwise.nil
  | k :: ks, hp, hf => by
    obtain ⟨h1, h2⟩ := List.pairwise_cons.1 hp
    have ih := canon_pair ks h2 fun j hj => hf j (List.mem_cons_of_mem _ hj)
    rw [canon_cons]
    unfold oneH
    split
    · refine List.pairwise_cons.2 ⟨fun y hy => ?_, ih⟩
      obtain ⟨j, hj, rfl, _⟩ := canon_mem hy
      have a := hf k (List.mem_cons_self)
      have b := hf j (List.mem_cons_of_mem _ hj)
      have := h1 j hj
      omega
    · exact ih
theorem canon_right {f : Nat → H} (h : Heads8 f) : RightV (canon f eight) := by
  refine ⟨fun x hx => ?_, canon_pair eight (by decide) fun k hk => (h k hk).1⟩
  obtain ⟨k, hk, rfl, hp⟩ := canon_mem hx
  rcases (h k hk).2 with r | r
  · exact r
  · rw [r] at hp; simp at hp
theorem canon_get_aux {f : Nat → H} : ∀ (ks : List Nat), ks.Nodup → (∀ k ∈ ks, (f k).1 = (k : Int) ∧ (rightH (f k) ∨ f k = ((k : Int), 0, 0))) → ∀ k ∈ ks, getV (canon f ks) (k : Nat) = f k
  | [], _, _, k, hk => by cases hk
  | j :: ks, hn, hf, k, hk => by
    obtain ⟨h1, h2⟩ := List.nodup_cons.1 hn
    rw [canon_cons]
    unfold oneH
    by_cases hjk : k = j
    · subst hjk
      obtain ⟨w, r⟩ := hf k (List.mem_cons_self)
      split
      · show getV (f k :: _) _ = _
        rw [getV_cons, if_pos w]
      · rename_i hp
        rcases r with r | r
        · exact absurd (by omega) hp
        · rw [r]
          refine getV_none fun x hx ex => ?_
          obtain ⟨i, hi, rfl, _⟩ := canon_mem (List.nil_append _ ▸ hx)
          have := (hf i (List.mem_cons_of_mem _ hi)).1
          have : i = k := by omega
          exact h1 (this ▸ hi)
    · have hk' : k ∈ ks := by
        rcases List.mem_cons.1 hk with r | r
        · exact absurd r hjk
        · exact r
      have ih := canon_get_aux ks h2 (fun i hi => hf i (List.mem_cons_of_mem _ hi)) k hk'
      rw [getV_append, ih]
      intro x hx ex
      split at hx
      · have hx' : x = f j := by simpa using hx
        have := (hf j (List.mem_cons_self)).1
        rw [hx'] at ex
        omega
      · cases hx
theorem canon_get {f : Nat → H} (h : Heads8 f) : ∀ k ∈ eight, getV (canon f eight) (k : Nat) = f k := canon_get_aux eight (by decide) h
theorem getV_out {l : List H} (h : RightV l) {k : Int} (hk : ¬ (0 ≤ k ∧ k ≤ 7)) : getV l k = (k, 0, 0) := getV_none fun x hx e => by have := h.1 x hx; omega
theorem heads_get {l : List H} (h : RightV l) : Heads8 (fun k => getV l k) := fun k hk => ⟨getV_writer _ _, by
  by_cases hp : 0 < (getV l k).2.1
  · exact .inl (h.1 _ (getV_mem hp))
  · exact .inr (getV_zero h _ hp)⟩

/-- Which are right, as a Bool. -/
def rightB (l : List H) : Bool := decide ((∀ h ∈ l, rightH h) ∧ l.Pairwise (fun x y => x.1 < y.1))
theorem rightB_iff {l : List H} : rightB l = true ↔ RightV l := by unfold rightB RightV; exact decide_eq_true_iff
theorem rightB_true {l : List H} (h : RightV l) : rightB l = true := rightB_iff.2 h
theorem rightB_false {l : List H} (h : ¬ RightV l) : rightB l = false := by
  cases e : rightB l with
  | false => rfl
  | true => exact absurd (rightB_iff.1 e) h

/-- Lens. -/
def lenV (l : List H) (k : Nat) : Int := (getV l k).2.1
/-- Is one of a's Lens above b's, of the first k writers? -/
def moreTo (a b : List H) (k : Nat) : Bool := (List.range k).any fun j => decide (lenV b j < lenV a j)
theorem moreTo_succ (a b : List H) (k : Nat) : moreTo a b (k + 1) = (moreTo a b k || decide (lenV b k < lenV a k)) := by simp [moreTo, List.range_succ]
theorem moreTo_iff {a b : List H} {k : Nat} : moreTo a b k = true ↔ ∃ j, j < k ∧ lenV b j < lenV a j := by simp [moreTo]
def standV (more less : Bool) : Int := if more && less then 2 else if more then 1 else if less then -1 else 0
def cmpV (a b : List H) : Int := if rightB a && rightB b then standV (moreTo a b 8) (moreTo b a 8) else 3

/-- The heads of b that go further than a's. -/
def missF (a b : List H) (j : Nat) : H := if lenV a j < lenV b j then getV b j else ((j : Int), 0, 0)
def missTo (a b : List H) (k : Nat) : List H := canon (missF a b) (List.range k)
theorem missTo_succ (a b : List H) (k : Nat) : missTo a b (k + 1) = missTo a b k ++ oneH (missF a b k) := by unfold missTo; rw [List.range_succ, canon_snoc]
def missV (a b : List H) : List H := if rightB a && rightB b then missTo a b 8 else []

/-- Where two vectors are at odds. -/
def oddB (a b : List H) (j : Nat) : Bool := decide (lenV a j = lenV b j ∧ 0 < lenV a j ∧ (getV a j).2.2 ≠ (getV b j).2.2)
def confTo (a b : List H) (k : Nat) : Option Nat := (List.range k).find? (oddB a b)
theorem confTo_succ (a b : List H) (k : Nat) : confTo a b (k + 1) = (confTo a b k).or (if oddB a b k = true then some k else none) := by
  unfold confTo
  rw [List.range_succ, List.find?_append]
  cases h : oddB a b k <;> simp [h]
def confW (o : Option Nat) : Int := match o with
  | some k => (k : Int)
  | none => 0
def confV (a b : List H) : Int × Bool := if rightB a && rightB b then (confW (confTo a b 8), (confTo a b 8).isSome) else (0, false)

/-- Both together. -/
def mergeF (a b : List H) (j : Nat) : H := if lenV a j < lenV b j then getV b j else getV a j
def mergeTo (a b : List H) (k : Nat) : List H := canon (mergeF a b) (List.range k)
theorem mergeTo_succ (a b : List H) (k : Nat) : mergeTo a b (k + 1) = mergeTo a b k ++ oneH (mergeF a b k) := by unfold mergeTo; rw [List.range_succ, canon_snoc]
def mergeV (a b : List H) : List H × Int := if rightB a && rightB b then (if (confV a b).2 then ([], 9) else (mergeTo a b 8, 0)) else ([], 1)
end Go.Proofs.Ytdjfedlkfekeoaa
