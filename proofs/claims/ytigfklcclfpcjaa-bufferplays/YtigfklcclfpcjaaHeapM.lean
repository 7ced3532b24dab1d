/-
  Heaps by plain functions: which edges hold while one goes up or down; the first is the least. Nothing of any program is in it.
-/
namespace Go.Proofs.Ytigfklcclfpcjaa
set_option linter.unusedVariables false

/-- A strict order: what stands ahead of what. -/
structure Ahead {α : Type} (lt : α → α → Bool) : Prop where
  irr : ∀ a, lt a a = false
  asy : ∀ a b, lt a b = true → lt b a = false
  neg : ∀ a b c, lt a b = false → lt b c = false → lt a c = false

/-- The parent's place. -/
def par (k : Nat) : Nat := (k - 1) / 2
theorem par_lt {k : Nat} (h : 0 < k) : par k < k := by unfold par; omega
theorem par_kids {k i : Nat} (h : 0 < k) (e : par k = i) : k = 2 * i + 1 ∨ k = 2 * i + 2 := by unfold par at e; omega
theorem par_left (i : Nat) : par (2 * i + 1) = i := by unfold par; omega
theorem par_right (i : Nat) : par (2 * i + 2) = i := by unfold par; omega

/-- Two change places. -/
def sw {α : Type} (f : Nat → α) (i j : Nat) : Nat → α := fun k => if k = i then f j else if k = j then f i else f k
theorem sw_fst {α : Type} (f : Nat → α) (i j : Nat) : sw f i j i = f j := by unfold sw; rw [if_pos rfl]
theorem sw_snd {α : Type} (f : Nat → α) (i j : Nat) : sw f i j j = f i := by
  unfold sw
  by_cases h : j = i
  · rw [if_pos h, h]
  · rw [if_neg h, if_pos rfl]
theorem sw_other {α : Type} (f : Nat → α) {i j k : Nat} (h1 : k ≠ i) (h2 : k ≠ j) : sw f i j k = f k := by unfold sw; rw [if_neg h1, if_neg h2]

section
variable {α : Type} {lt : α → α → Bool} {f : Nat → α} {n : Nat}

/-- k does not stand ahead of its parent. -/
def Edge (lt : α → α → Bool) (f : Nat → α) (k : Nat) : Prop := lt (f k) (f (par k)) = false
def HeapF (lt : α → α → Bool) (f : Nat → α) (n : Nat) : Prop := ∀ k, 0 < k → k < n → Edge lt f k
/-- All is well but between j and its parent. -/
def UpF (lt : α → α → Bool) (f : Nat → α) (n j : Nat) : Prop := (∀ k, 0 < k → k < n → k ≠ j → Edge lt f k) ∧ (0 < j → ∀ k, 0 < k → k < n → par k = j → lt (f k) (f (par j)) = false)
/-- All is well from the parent b on, but where i is. -/
def HoleF (lt : α → α → Bool) (f : Nat → α) (n b i : Nat) : Prop := (∀ k, 0 < k → k < n → b ≤ par k → k ≠ i → par k ≠ i → Edge lt f k) ∧ (0 < i → b ≤ par i → ∀ k, 0 < k → k < n → par k = i → lt (f k) (f (par i)) = false)
/-- All is well from the parent b on. -/
def LowF (lt : α → α → Bool) (f : Nat → α) (n b : Nat) : Prop := ∀ k, 0 < k → k < n → b ≤ par k → Edge lt f k
theorem LowF.heap (h : LowF lt f n 0) : HeapF lt f n := fun k k0 kn => h k k0 kn (Nat.zero_le _)
theorem low_none {b : Nat} (h : n ≤ 2 * b + 1) : LowF lt f n b := fun k k0 kn hb => by unfold par at hb; omega
theorem LowF.hole {b : Nat} (h : LowF lt f n (b + 1)) : HoleF lt f n b b := by
  refine ⟨fun k k0 kn hb kb pb => h k k0 kn (by omega), fun b0 hb => ?_⟩
  have := par_lt b0
  omega

theorem up_stop {j : Nat} (h : UpF lt f n j) (hj : j = 0 ∨ lt (f j) (f (par j)) = false) : HeapF lt f n := fun k h0 hk => by
  by_cases e : k = j
  · subst e
    rcases hj with r | r
    · omega
    · exact r
  · exact h.1 k h0 hk e

theorem up_step (A : Ahead lt) {j : Nat} (h : UpF lt f n j) (h0 : 0 < j) (hj : j < n) (hl : lt (f j) (f (par j)) = true) : UpF lt (sw f (par j) j) n (par j) := by
  have hp := par_lt h0
  have hne : j ≠ par j := by omega
  refine ⟨fun k k0 kn ki => ?_, fun i0 k k0 kn e => ?_⟩
  · unfold Edge
    by_cases kj : k = j
    · subst kj
      rw [sw_snd, sw_fst]
      exact A.asy _ _ hl
    · rw [sw_other f ki kj]
      by_cases p1 : par k = par j
      · rw [p1, sw_fst]
        have := h.1 k k0 kn kj
        unfold Edge at this
        rw [p1] at this
        exact A.neg _ _ _ this (A.asy _ _ hl)
      · by_cases p2 : par k = j
        · rw [p2, sw_snd]
          exact h.2 h0 k k0 kn p2
        · rw [sw_other f p1 p2]
          exact h.1 k k0 kn kj
  · have hpp := par_lt i0
    rw [sw_other f (i := par j) (j := j) (k := par (par j)) (by omega) (by omega)]
    have hpe := h.1 (par j) i0 (by omega) (by omega)
    unfold Edge at hpe
    by_cases kj : k = j
    · subst kj
      rw [sw_snd]
      exact hpe
    · have ki : k ≠ par j := by have := par_lt k0; omega
      rw [sw_other f ki kj]
      have := h.1 k k0 kn kj
      unfold Edge at this
      rw [e] at this
      exact A.neg _ _ _ this hpe

/-- Where nothing below i stands ahead of it. -/
theorem down_stop {i : Nat} (h : HoleF lt f n 0 i) (hc : ∀ k, 0 < k → k < n → par k = i → lt (f k) (f i) = false) : UpF lt f n i := by
  refine ⟨fun k k0 kn ki => ?_, fun i0 => h.2 i0 (Nat.zero_le _)⟩
  by_cases e : par k = i
  · unfold Edge
    rw [e]
    exact hc k k0 kn e
  · exact h.1 k k0 kn (Nat.zero_le _) ki e
theorem down_low {b i : Nat} (h : HoleF lt f n b i) (hc : ∀ k, 0 < k → k < n → par k = i → lt (f k) (f i) = false) (he : 0 < i → b ≤ par i → Edge lt f i) : LowF lt f n b := fun k k0 kn hb => by
  by_cases ki : k = i
  · subst ki; exact he k0 hb
  · by_cases e : par k = i
    · unfold Edge
      rw [e]
      exact hc k k0 kn e
    · exact h.1 k k0 kn hb ki e

/-- One step down: j is the child that stands first, and ahead of i. -/
theorem down_step (A : Ahead lt) {b i j : Nat} (h : HoleF lt f n b i) (hb : b ≤ i) (h0 : 0 < j) (hj : j < n) (hp : par j = i) (hc : ∀ k, 0 < k → k < n → par k = i → lt (f k) (f j) = false) (hl : lt (f j) (f i) = true) : HoleF lt (sw f i j) n b j ∧ Edge lt (sw f i j) j := by
  have hij := par_lt h0
  rw [hp] at hij
  refine ⟨⟨fun k k0 kn kb kj pj => ?_, fun _ _ k k0 kn e => ?_⟩, ?_⟩
  · unfold Edge
    by_cases ki : k = i
    · subst ki
      have := par_lt k0
      rw [sw_fst, sw_other f (by omega) pj]
      exact h.2 k0 kb j h0 hj hp
    · rw [sw_other f ki kj]
      by_cases pi : par k = i
      · rw [pi, sw_fst]
        exact hc k k0 kn pi
      · rw [sw_other f pi pj]
        exact h.1 k k0 kn kb ki pi
  · have kp := par_lt k0
    rw [hp, sw_fst, sw_other f (by omega) (by omega)]
    have := h.1 k k0 kn (by omega) (by omega) (by omega)
    unfold Edge at this
    rw [e] at this
    exact this
  · unfold Edge
    rw [sw_snd, hp, sw_fst]
    exact A.asy _ _ hl

/-- The first one is the least. -/
theorem heap_least (A : Ahead lt) (h : HeapF lt f n) : ∀ (m k : Nat), k ≤ m → k < n → lt (f k) (f 0) = false
  | 0, k, hm, hk => by
    have : k = 0 := by omega
    subst this
    exact A.irr _
  | m + 1, k, hm, hk => by
    by_cases k0 : k = 0
    · subst k0; exact A.irr _
    · have hp := par_lt (k := k) (by omega)
      exact A.neg _ _ _ (h k (by omega) hk) (heap_least A h m (par k) (by omega) (by omega))
theorem HeapF.least (A : Ahead lt) (h : HeapF lt f n) {k : Nat} (hk : k < n) : lt (f k) (f 0) = false := heap_least A h k k (Nat.le_refl _) hk
theorem HeapF.shorter {m : Nat} (h : HeapF lt f n) (hm : m ≤ n) : HeapF lt f m := fun k k0 km => h k k0 (by omega)
/-- One more at the end. -/
theorem HeapF.more (h : HeapF lt f n) : UpF lt f (n + 1) n := by
  refine ⟨fun k k0 kn ki => h k k0 (by omega), fun n0 k k0 kn e => ?_⟩
  have := par_lt k0
  omega
theorem HeapF.same {g : Nat → α} (h : HeapF lt f n) (hg : ∀ k, k < n → g k = f k) : HeapF lt g n := fun k k0 kn => by
  have := par_lt k0
  unfold Edge
  rw [hg k kn, hg (par k) (by omega)]
  exact h k k0 kn
/-- The last one comes to the place i: of the first n all is well but there. -/
theorem HeapF.hole (A : Ahead lt) {i : Nat} (h : HeapF lt f (n + 1)) (hi : i < n) : HoleF lt (sw f i n) n 0 i := by
  refine ⟨fun k k0 kn _ ki pi => ?_, fun i0 _ k k0 kn e => ?_⟩
  · have := par_lt k0
    unfold Edge
    rw [sw_other f ki (by omega), sw_other f pi (by omega)]
    exact h k k0 (by omega)
  · have h1 := par_lt k0
    have h2 := par_lt i0
    rw [sw_other f (by omega) (by omega), sw_other f (by omega) (by omega)]
    have e1 := h k k0 (by omega)
    have e2 := h i i0 (by omega)
    unfold Edge at e1 e2
    rw [e] at e1
    exact A.neg _ _ _ e1 e2

/-- The child that stands first. -/
theorem kid_one (A : Ahead lt) {i : Nat} (hn : n ≤ 2 * i + 2) : ∀ k, 0 < k → k < n → par k = i → lt (f k) (f (2 * i + 1)) = false := fun k k0 kn e => by
  rcases par_kids k0 e with r | r
  · subst r; exact A.irr _
  · omega
theorem kid_left (A : Ahead lt) {i : Nat} (h : lt (f (2 * i + 2)) (f (2 * i + 1)) = false) : ∀ k, 0 < k → k < n → par k = i → lt (f k) (f (2 * i + 1)) = false := fun k k0 kn e => by
  rcases par_kids k0 e with r | r
  · subst r; exact A.irr _
  · subst r; exact h
theorem kid_right (A : Ahead lt) {i : Nat} (h : lt (f (2 * i + 2)) (f (2 * i + 1)) = true) : ∀ k, 0 < k → k < n → par k = i → lt (f k) (f (2 * i + 2)) = false := fun k k0 kn e => by
  rcases par_kids k0 e with r | r
  · subst r; exact A.asy _ _ h
  · subst r; exact A.irr _
/-- Nothing below the first of them stands ahead of i, if that one does not. -/
theorem kids_below (A : Ahead lt) {i j : Nat} (hc : ∀ k, 0 < k → k < n → par k = i → lt (f k) (f j) = false) (hl : lt (f j) (f i) = false) : ∀ k, 0 < k → k < n → par k = i → lt (f k) (f i) = false := fun k k0 kn e => A.neg _ _ _ (hc k k0 kn e) hl
theorem kids_none {i : Nat} (hn : n ≤ 2 * i + 1) : ∀ k, 0 < k → k < n → par k = i → lt (f k) (f i) = false := fun k k0 kn e => by
  rcases par_kids k0 e with r | r <;> omega
end

section
variable {α : Type}
/-- A list as a function. -/
def fn (d : α) (l : List α) : Nat → α := fun k => l.getD k d
/-- Two of a list change places. -/
def swapL (d : α) (l : List α) (i j : Nat) : List α := (l.set i (l.getD j d)).set j (l.getD i d)
theorem swapL_length (d : α) (l : List α) (i j : Nat) : (swapL d l i j).length = l.length := by unfold swapL; simp
theorem fn_swapL (d : α) {l : List α} {i j : Nat} (hi : i < l.length) (hj : j < l.length) : fn d (swapL d l i j) = sw (fn d l) i j := by
  funext k
  unfold fn swapL sw
  rw [List.getD_eq_getElem?_getD, List.getElem?_set, List.getElem?_set]
  by_cases h1 : k = i
  · rw [if_pos h1]
    by_cases h2 : j = k
    · rw [if_pos h2]
      have e : j = i := by omega
      subst e
      simp [hj]
    · rw [if_neg h2, if_pos h1.symm]
      simp [hi]
  · rw [if_neg h1]
    by_cases h2 : k = j
    · rw [if_pos h2, if_pos h2.symm]
      simp [hj]
    · rw [if_neg h2, if_neg (fun e => h2 e.symm), if_neg (fun e => h1 e.symm)]
      rw [← List.getD_eq_getElem?_getD]
theorem swapL_perm (d : α) {l : List α} {i j : Nat} (hi : i < l.length) (hj : j < l.length) : (swapL d l i j).Perm l := by
  unfold swapL
  rw [List.getD_eq_getElem?_getD, List.getD_eq_getElem?_getD, List.getElem?_eq_getElem hi, List.getElem?_eq_getElem hj]
  exact List.set_set_perm hi hj
theorem fn_at (d : α) {l : List α} {k : Nat} {a : α} (h : l[k]? = some a) : fn d l k = a := by
  unfold fn
  rw [List.getD_eq_getElem?_getD, h]
  rfl
theorem at_fn (d : α) {l : List α} {k : Nat} (h : k < l.length) : l[k]? = some (fn d l k) := by
  unfold fn
  rw [List.getD_eq_getElem?_getD, List.getElem?_eq_getElem h]
  rfl
end
end Go.Proofs.Ytigfklcclfpcjaa
