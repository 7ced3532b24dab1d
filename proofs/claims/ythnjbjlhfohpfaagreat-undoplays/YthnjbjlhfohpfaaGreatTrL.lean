/-
  Items of a tree by lists: found, put; trees that hang; within and hangs as the program asks; what an operation does.
-/
import Derived.Test.YthnjbjlhfohpfaaGreatRow
import Derived.Test.YthnjbjlhfohpfaaGreatRgt
namespace Go.Proofs.YthnjbjlhfohpfaaGreat
set_option linter.unusedVariables false
set_option linter.unusedSimpArgs false
set_option synthInstance.maxSize 20000
set_option maxHeartbeats 2000000
set_option maxRecDepth 20000
open Go.RowKit Go.Maps

section
variable {L : List IM} {x y : IM} {n m p : S}
theorem findM_mem (h : findM L n = some x) : x ∈ L ∧ x.n = n := by
  unfold findM at h
  exact ⟨List.mem_of_find?_eq_some h, of_decide_eq_true (show atN n x = true from List.find?_some h)⟩
theorem srtI_uniq : ∀ {L : List IM}, SrtI L → ∀ {x y : IM}, x ∈ L → y ∈ L → x.n = y.n → x = y
  | [], _, x, y, hx, _, _ => by cases hx
  | z :: L, h, x, y, hx, hy, e => by
    obtain ⟨h1, h2⟩ := List.pairwise_cons.1 h
    rcases List.mem_cons.1 hx with a1 | a1
    · rcases List.mem_cons.1 hy with b1 | b1
      · rw [a1, b1]
      · have h3 : ltP z.n y.n := h1 y b1
        rw [← e, a1] at h3
        exact absurd h3 (ltP_irrefl _)
    · rcases List.mem_cons.1 hy with b1 | b1
      · have h3 : ltP z.n x.n := h1 x a1
        rw [e, b1] at h3
        exact absurd h3 (ltP_irrefl _)
      · exact srtI_uniq h2 a1 b1 e
theorem findM_of (h : SrtI L) (hx : x ∈ L) : findM L x.n = some x := by
  cases hf : findM L x.n with
  | none =>
    unfold findM at hf
    have := List.find?_eq_none.1 hf x hx
    simp [atN] at this
  | some y =>
    obtain ⟨h1, h2⟩ := findM_mem hf
    rw [srtI_uniq h h1 hx h2]
theorem findM_no (h : findM L n = none) (hx : x ∈ L) : x.n ≠ n := fun e => by
  unfold findM at h
  have := List.find?_eq_none.1 h x hx
  simp [atN, e] at this
def hasM (L : List IM) (n : S) : Bool := (findM L n).isSome
theorem hasM_iff : hasM L n = true ↔ ∃ x ∈ L, x.n = n := by
  unfold hasM
  cases hf : findM L n with
  | none => exact ⟨fun h => (by cases h), fun ⟨x, hx, e⟩ => absurd e (findM_no hf hx)⟩
  | some y => exact ⟨fun _ => ⟨y, findM_mem hf⟩, fun _ => rfl⟩

theorem putM_mem (hs : SrtI L) : x ∈ putM L y ↔ x = y ∨ (x ∈ L ∧ x.n ≠ y.n) := by
  unfold putM
  rw [List.mem_append, List.mem_cons, List.mem_filter, List.mem_filter]
  unfold ahead behind
  constructor
  · rintro (⟨h1, h2⟩ | rfl | ⟨h1, h2⟩)
    · exact .inr ⟨h1, fun e => ltP_irrefl _ (e ▸ of_decide_eq_true h2)⟩
    · exact .inl rfl
    · exact .inr ⟨h1, fun e => ltP_irrefl _ (e ▸ of_decide_eq_true h2)⟩
  · rintro (rfl | ⟨h1, h2⟩)
    · exact .inr (.inl rfl)
    · by_cases h3 : ltP x.n y.n
      · exact .inl ⟨h1, decide_eq_true h3⟩
      · by_cases h4 : ltP y.n x.n
        · exact .inr (.inr ⟨h1, decide_eq_true h4⟩)
        · exact absurd (ltP_total h3 h4) h2
theorem findM_put (hs : SrtI L) (y : IM) (n : S) : findM (putM L y) n = if n = y.n then some y else findM L n := by
  have hp := putM_srt hs y
  split
  · rename_i e
    rw [e]
    exact findM_of hp ((putM_mem hs).2 (.inl rfl))
  · rename_i e
    cases hf : findM L n with
    | none =>
      cases hg : findM (putM L y) n with
      | none => rfl
      | some z =>
        obtain ⟨h1, h2⟩ := findM_mem hg
        rcases (putM_mem hs).1 h1 with rfl | ⟨h3, _⟩
        · exact absurd h2.symm e
        · exact absurd h2 (findM_no hf h3)
    | some z =>
      obtain ⟨h1, h2⟩ := findM_mem hf
      have := findM_of hp ((putM_mem (y := y) hs).2 (.inr ⟨h1, by rw [h2]; exact e⟩))
      rwa [h2] at this
theorem putM_len (L : List IM) (y : IM) : (putM L y).length ≤ L.length + 1 := by
  unfold putM
  rw [List.length_append, List.length_cons]
  have : (L.filter (ahead y.n)).length + (L.filter (behind y.n)).length ≤ L.length := by
    induction L with
    | nil => simp
    | cons z L ih =>
      rw [List.filter_cons, List.filter_cons]
      have : ¬ (ahead y.n z = true ∧ behind y.n z = true) := fun ⟨h1, h2⟩ => by
        have := of_decide_eq_true h1
        have h4 := of_decide_eq_true h2
        exact ltP_irrefl _ (ltP_trans this h4)
      split <;> split <;> simp <;> first | omega | (rename_i a b; exact absurd ⟨a, b⟩ this)
  omega
theorem putM_find (hs : SrtI L) (h : findM L x.n = some x) : putM L x = L := by
  have e : ∀ {L : List IM}, SrtI L → x ∈ L → putM L x = L := by
    intro L
    induction L with
    | nil => intro _ h; cases h
    | cons z L ih =>
      intro hs hx
      obtain ⟨h1, h2⟩ := List.pairwise_cons.1 hs
      unfold putM
      rcases List.mem_cons.1 hx with rfl | hx
      · have a1 : ahead x.n x = false := decide_eq_false (ltP_irrefl _)
        have a2 : behind x.n x = false := decide_eq_false (ltP_irrefl _)
        rw [List.filter_cons_of_neg (by rw [a1]; simp), List.filter_cons_of_neg (by rw [a2]; simp)]
        have b1 : L.filter (ahead x.n) = [] := by
          rw [List.filter_eq_nil_iff]
          intro y hy h
          exact ltP_irrefl _ (ltP_trans (h1 y hy) (of_decide_eq_true h))
        have b2 : L.filter (behind x.n) = L := by
          rw [List.filter_eq_self]
          intro y hy
          exact decide_eq_true (h1 y hy)
        rw [b1, b2]; rfl
      · have hz : ltP z.n x.n := h1 x hx
        have a1 : ahead x.n z = true := decide_eq_true hz
        have a2 : behind x.n z = false := decide_eq_false fun h => ltP_irrefl _ (ltP_trans hz h)
        rw [List.filter_cons_of_pos a1, List.filter_cons_of_neg (by rw [a2]; simp), List.cons_append]
        have := ih h2 hx
        unfold putM at this
        rw [this]
  exact e hs (findM_mem h).1
/-- What is taken away again, or put back. -/
theorem delM_put (hs : SrtI L) (hn : findM L y.n = none) : delM (putM L y) y.n = L := by
  unfold delM putM
  rw [List.filter_append, List.filter_cons_of_neg (by simp [other]), List.filter_filter, List.filter_filter]
  have e : ∀ {L : List IM}, SrtI L → (∀ x ∈ L, x.n ≠ y.n) → L.filter (fun a => other y.n a && ahead y.n a) ++ L.filter (fun a => other y.n a && behind y.n a) = L := by
    intro L
    induction L with
    | nil => intros; rfl
    | cons z L ih =>
      intro hs hne
      obtain ⟨h1, h2⟩ := List.pairwise_cons.1 hs
      have hz := hne z (by simp)
      have ho : other y.n z = true := by unfold other; rw [decide_eq_false hz]; rfl
      have ih' := ih h2 (fun x hx => hne x (by simp [hx]))
      by_cases hlt : ltP z.n y.n
      · have a1 : ahead y.n z = true := decide_eq_true hlt
        have a2 : behind y.n z = false := decide_eq_false fun h => ltP_irrefl _ (ltP_trans hlt h)
        rw [List.filter_cons_of_pos (by rw [ho, a1]; rfl), List.filter_cons_of_neg (by rw [ho, a2]; simp), List.cons_append, ih']
      · have hgt : ltP y.n z.n := by
          by_cases h : ltP y.n z.n
          · exact h
          · exact absurd (ltP_total hlt h) hz
        have a1 : ahead y.n z = false := decide_eq_false hlt
        have a2 : behind y.n z = true := decide_eq_true hgt
        have b1 : L.filter (fun a => other y.n a && ahead y.n a) = [] := by
          rw [List.filter_eq_nil_iff]
          intro x hx h
          simp only [Bool.and_eq_true] at h
          exact ltP_irrefl _ (ltP_trans hgt (ltP_trans (h1 x hx) (of_decide_eq_true h.2)))
        rw [List.filter_cons_of_neg (by rw [ho, a1]; simp), List.filter_cons_of_pos (by rw [ho, a2]; rfl), b1, List.nil_append]
        rw [b1, List.nil_append] at ih'
        rw [ih']
  exact e hs fun x hx => findM_no hn hx
theorem delM_no (hn : findM L n = none) : delM L n = L := by
  unfold delM
  rw [List.filter_eq_self]
  intro x hx
  unfold other
  rw [decide_eq_false (findM_no hn hx)]; rfl
theorem putM_put (hs : SrtI L) (h : findM L x.n = some x) (e : y.n = x.n) : putM (putM L y) x = L := by
  have hp := putM_srt hs y
  refine Eq.trans ?_ (putM_find hs h)
  unfold putM
  rw [e, List.filter_append, List.filter_append, List.filter_cons, List.filter_cons]
  have a1 : ahead x.n y = false := decide_eq_false (by rw [e]; exact ltP_irrefl _)
  have a2 : behind x.n y = false := decide_eq_false (by rw [e]; exact ltP_irrefl _)
  rw [a1, a2]
  simp only [Bool.false_eq_true, if_false, List.filter_filter]
  have b1 : L.filter (fun a => ahead x.n a && behind x.n a) = [] := by
    rw [List.filter_eq_nil_iff]
    intro z _ h
    simp only [Bool.and_eq_true] at h
    exact ltP_irrefl _ (ltP_trans (of_decide_eq_true h.1) (of_decide_eq_true h.2))
  have b2 : L.filter (fun a => behind x.n a && ahead x.n a) = [] := by
    rw [← b1]; congr 1; funext a; exact Bool.and_comm _ _
  rw [b1, b2]
  simp

/-! ### Trees that hang -/
structure Gd (L : List IM) : Prop where
  srt : SrtI L
  nz : ∀ x ∈ L, x.n ≠ (0, 0)
  up : ∃ h : S → Nat, ∀ x ∈ L, h x.p < h x.n
  par : ∀ x ∈ L, dirM L x.p = true
theorem gd_nil : Gd [] := ⟨List.Pairwise.nil, fun x h => (by cases h), ⟨fun _ => 0, fun x h => (by cases h)⟩, fun x h => (by cases h)⟩
theorem findM_zero (h : Gd L) : findM L (0, 0) = none := by
  cases hf : findM L (0, 0) with
  | none => rfl
  | some x => exact absurd (findM_mem hf).2 (h.nz x (findM_mem hf).1)
theorem dirM_iff : dirM L n = true ↔ n = (0, 0) ∨ ∃ x, findM L n = some x ∧ x.d = true := by
  unfold dirM
  rw [Bool.or_eq_true, decide_eq_true_eq]
  cases findM L n <;> simp
theorem dirM_put (hs : SrtI L) (hd : ∀ x, findM L y.n = some x → x.d = true → y.d = true) (h : dirM L n = true) : dirM (putM L y) n = true := by
  rw [dirM_iff] at h ⊢
  rcases h with h | ⟨x, h1, h2⟩
  · exact .inl h
  · refine .inr ?_
    rw [findM_put hs]
    by_cases e : n = y.n
    · rw [if_pos e]
      exact ⟨y, rfl, hd x (e ▸ h1) h2⟩
    · rw [if_neg e]
      exact ⟨x, h1, h2⟩
/-- What stays where it is. -/
theorem Gd.change (h : Gd L) (hx : findM L y.n = some x) (hp : y.p = x.p) (hd : y.d = x.d) : Gd (putM L y) := by
  obtain ⟨hx1, hx2⟩ := findM_mem hx
  obtain ⟨r, hr⟩ := h.up
  refine ⟨putM_srt h.srt y, fun z hz => ?_, ⟨r, fun z hz => ?_⟩, fun z hz => ?_⟩
  · rcases (putM_mem h.srt).1 hz with rfl | ⟨h1, _⟩
    · rw [← hx2]; exact h.nz x hx1
    · exact h.nz z h1
  · rcases (putM_mem h.srt).1 hz with rfl | ⟨h1, _⟩
    · rw [hp, ← hx2]; exact hr x hx1
    · exact hr z h1
  · refine dirM_put h.srt (fun u hu hud => by rw [hx] at hu; cases hu; rw [hd]; exact hud) ?_
    rcases (putM_mem h.srt).1 hz with rfl | ⟨h1, _⟩
    · rw [hp]; exact h.par x hx1
    · exact h.par z h1
theorem Gd.create (h : Gd L) (hn : findM L y.n = none) (hz : y.n ≠ (0, 0)) (hp : dirM L y.p = true) : Gd (putM L y) := by
  obtain ⟨r, hr⟩ := h.up
  have hpn : ∀ q, dirM L q = true → q ≠ y.n := fun q hq e => by
    rcases dirM_iff.1 hq with h0 | ⟨u, hu, _⟩
    · exact hz (by rw [← e, h0])
    · rw [e, hn] at hu; cases hu
  refine ⟨putM_srt h.srt y, fun z hz' => ?_, ⟨fun q => if q = y.n then r y.p + 1 else r q, fun z hz' => ?_⟩, fun z hz' => ?_⟩
  · rcases (putM_mem h.srt).1 hz' with rfl | ⟨h1, _⟩
    · exact hz
    · exact h.nz z h1
  · rcases (putM_mem h.srt).1 hz' with rfl | ⟨h1, h2⟩
    · dsimp only
      rw [if_neg (hpn _ hp), if_pos rfl]; omega
    · dsimp only
      rw [if_neg (hpn _ (h.par z h1)), if_neg h2]; exact hr z h1
  · refine dirM_put h.srt (fun u hu => by rw [hn] at hu; cases hu) ?_
    rcases (putM_mem h.srt).1 hz' with rfl | ⟨h1, _⟩
    · exact hp
    · exact h.par z h1
end

/-! ### Chains -/
section
variable {L : List IM} {x y : IM} {n m p : S}
theorem withinM_mono : ∀ {k j : Nat} {n m : S}, withinM L k n m = true → k ≤ j → withinM L j n m = true
  | 0, _, _, _, h, _ => by cases h
  | k + 1, 0, _, _, _, hj => by omega
  | k + 1, j + 1, n, m, h, hj => by
    unfold withinM at h ⊢
    split at h
    · rename_i e; rw [if_pos e]
    · rename_i e
      rw [if_neg e]
      cases hf : findM L m with
      | none => rw [hf] at h; cases h
      | some x => rw [hf] at h; exact withinM_mono h (by omega)
theorem hangsM_mono : ∀ {k j : Nat} {n : S}, hangsM L k n = true → k ≤ j → hangsM L j n = true
  | 0, _, _, h, _ => by cases h
  | k + 1, 0, _, _, hj => by omega
  | k + 1, j + 1, n, h, hj => by
    unfold hangsM at h ⊢
    split at h
    · rename_i e; rw [if_pos e]
    · rename_i e
      rw [if_neg e]
      cases hf : findM L n with
      | none => rw [hf] at h; cases h
      | some x =>
        rw [hf] at h
        dsimp only at h ⊢
        split at h
        · cases h
        · rename_i e2
          rw [if_neg e2]
          exact hangsM_mono h (by omega)
def cntR (r : S → Nat) (L : List IM) (k : Nat) : Nat := (L.filter fun y => decide (r y.n ≤ k)).length
theorem cntR_lt {r : S → Nat} (hr : ∀ x ∈ L, r x.p < r x.n) (hx : x ∈ L) : cntR r L (r x.p) + 1 ≤ cntR r L (r x.n) :=
  filter_lt (fun y : IM => decide (r y.n ≤ r x.n)) (fun y => decide (r y.n ≤ r x.p)) (fun y hy => by
    have := of_decide_eq_true hy
    have h2 := hr x hx
    exact decide_eq_true (by omega)) x (decide_eq_true (Nat.le_refl _)) (decide_eq_false (by have := hr x hx; omega)) L hx
theorem cntR_le (r : S → Nat) (L : List IM) (k : Nat) : cntR r L k ≤ L.length := List.length_filter_le _ _
theorem within_cnt {r : S → Nat} (hr : ∀ x ∈ L, r x.p < r x.n) : ∀ {k : Nat} {n m : S}, withinM L k n m = true → withinM L (cntR r L (r m) + 1) n m = true
  | 0, _, _, h => by cases h
  | k + 1, n, m, h => by
    unfold withinM at h ⊢
    split at h
    · rename_i e; rw [if_pos e]
    · rename_i e
      rw [if_neg e]
      cases hf : findM L m with
      | none => rw [hf] at h; cases h
      | some x =>
        rw [hf] at h
        obtain ⟨h1, h2⟩ := findM_mem hf
        have := cntR_lt hr h1
        rw [h2] at this
        exact withinM_mono (within_cnt hr h) this
theorem hangs_cnt {r : S → Nat} (hr : ∀ x ∈ L, r x.p < r x.n) : ∀ {k : Nat} {n : S}, hangsM L k n = true → hangsM L (cntR r L (r n) + 1) n = true
  | 0, _, h => by cases h
  | k + 1, n, h => by
    unfold hangsM at h ⊢
    split at h
    · rename_i e; rw [if_pos e]
    · rename_i e
      rw [if_neg e]
      cases hf : findM L n with
      | none => rw [hf] at h; cases h
      | some x =>
        rw [hf] at h
        dsimp only at h ⊢
        split at h
        · cases h
        · rename_i e2
          rw [if_neg e2]
          obtain ⟨h1, h2⟩ := findM_mem hf
          have := cntR_lt hr h1
          rw [h2] at this
          exact hangsM_mono (hangs_cnt hr h) this
theorem Gd.within_few (h : Gd L) {k j : Nat} (hk : withinM L k n m = true) (hj : L.length < j) : withinM L j n m = true := by
  obtain ⟨r, hr⟩ := h.up
  exact withinM_mono (within_cnt hr hk) (by have := cntR_le r L (r m); omega)
theorem Gd.hangs_few (h : Gd L) {k j : Nat} (hk : hangsM L k n = true) (hj : L.length < j) : hangsM L j n = true := by
  obtain ⟨r, hr⟩ := h.up
  exact hangsM_mono (hangs_cnt hr hk) (by have := cntR_le r L (r n); omega)
theorem Gd.rooted (h : Gd L) (hx : x ∈ L) : ∃ k, withinM L k (0, 0) x.n = true := by
  obtain ⟨r, hr⟩ := h.up
  have key : ∀ (c : Nat) (x : IM), x ∈ L → r x.n ≤ c → ∃ k, withinM L k (0, 0) x.n = true := by
    intro c
    induction c with
    | zero => intro x hx hc; have := hr x hx; omega
    | succ c ih =>
      intro x hx hc
      have hlt := hr x hx
      have hf := findM_of h.srt hx
      have hnz := h.nz x hx
      rcases dirM_iff.1 (h.par x hx) with h0 | ⟨u, hu, _⟩
      · refine ⟨2, ?_⟩
        unfold withinM
        rw [if_neg hnz, hf]
        show withinM L 1 (0, 0) x.p = true
        unfold withinM
        rw [if_pos h0]
      · obtain ⟨h1, h2⟩ := findM_mem hu
        obtain ⟨k, hk⟩ := ih u h1 (by rw [h2]; omega)
        refine ⟨k + 1, ?_⟩
        unfold withinM
        rw [if_neg hnz, hf]
        rw [h2] at hk
        exact hk
  exact key _ x hx (Nat.le_refl _)
theorem within_has (h : Gd L) : ∀ {k : Nat} {n m : S}, withinM L k n m = true → m ≠ n → (n = (0, 0) ∨ hasM L n = true) ∧ hasM L m = true
  | 0, _, _, h, _ => by cases h
  | k + 1, n, m, hk, hne => by
    unfold withinM at hk
    rw [if_neg hne] at hk
    cases hf : findM L m with
    | none => rw [hf] at hk; cases hk
    | some x =>
      rw [hf] at hk
      obtain ⟨h1, h2⟩ := findM_mem hf
      refine ⟨?_, by unfold hasM; rw [hf]; rfl⟩
      by_cases e : x.p = n
      · rcases dirM_iff.1 (h.par x h1) with h0 | ⟨u, hu, _⟩
        · exact .inl (by rw [← e, h0])
        · exact .inr (by unfold hasM; rw [← e, hu]; rfl)
      · exact (within_has h hk e).1

/-- Going up by the program's steps. -/
def leadsM (L : List IM) (f : IM → Bool) : Nat → S → S → Bool
  | 0, _, _ => false
  | k + 1, a, b => match findM L a with
    | none => false
    | some x => if f x = true then (if x.p = b then true else leadsM L f k x.p b) else false
def pwithinM (L : List IM) (n m : S) : Bool := if m = n then true else if n = (0, 0) then hasM L m else hasM L n && leadsM L (fun _ => true) 301 m n
def phangsM (L : List IM) (n : S) : Bool := decide (n = (0, 0)) || leadsM L (fun x => !x.g) 301 n (0, 0)
theorem leads_within : ∀ {k : Nat} {m n : S}, m ≠ n → leadsM L (fun _ => true) k m n = withinM L (k + 1) n m
  | 0, m, n, hne => by
    unfold leadsM withinM
    rw [if_neg hne]
    cases findM L m <;> rfl
  | k + 1, m, n, hne => by
    unfold leadsM withinM
    rw [if_neg hne]
    cases hf : findM L m with
    | none => rfl
    | some x =>
      dsimp only
      rw [if_pos rfl]
      by_cases e : x.p = n
      · rw [if_pos e]
        unfold withinM
        rw [if_pos e]
      · rw [if_neg e]
        exact leads_within e
theorem leads_hangs : ∀ {k : Nat} {n : S}, n ≠ (0, 0) → leadsM L (fun x => !x.g) k n (0, 0) = hangsM L (k + 1) n
  | 0, n, hne => by
    unfold leadsM hangsM
    rw [if_neg hne]
    cases findM L n with
    | none => rfl
    | some x => dsimp only; split <;> rfl
  | k + 1, n, hne => by
    unfold leadsM hangsM
    rw [if_neg hne]
    cases hf : findM L n with
    | none => rfl
    | some x =>
      dsimp only
      by_cases hg : x.g = true
      · rw [if_pos hg, if_neg (by rw [hg]; simp)]
      · rw [if_neg hg, if_pos (by simp at hg; rw [hg]; rfl)]
        by_cases e : x.p = (0, 0)
        · rw [if_pos e]
          unfold hangsM
          rw [if_pos e]
        · rw [if_neg e]
          exact leads_hangs e
theorem bool_eq {a b : Bool} (h1 : a = true → b = true) (h2 : b = true → a = true) : a = b := by
  cases a <;> cases b <;> simp_all
theorem Gd.pw (h : Gd L) (hl : L.length ≤ 300) (n m : S) : pwithinM L n m = withinM L 301 n m := by
  unfold pwithinM
  by_cases e : m = n
  · rw [if_pos e]
    unfold withinM
    rw [if_pos e]
  · rw [if_neg e]
    by_cases e0 : n = (0, 0)
    · rw [if_pos e0]
      subst e0
      refine bool_eq (fun hm => ?_) (fun hw => (within_has h hw e).2)
      obtain ⟨x, hx, rfl⟩ := hasM_iff.1 hm
      obtain ⟨k, hk⟩ := h.rooted hx
      exact h.within_few hk (by omega)
    · rw [if_neg e0, leads_within e]
      refine bool_eq (fun hm => ?_) (fun hw => ?_)
      · rw [Bool.and_eq_true] at hm
        exact h.within_few hm.2 (by omega)
      · rw [Bool.and_eq_true]
        exact ⟨(within_has h hw e).1.resolve_left e0, withinM_mono hw (by omega)⟩
theorem Gd.ph (h : Gd L) (hl : L.length ≤ 300) (n : S) : phangsM L n = hangsM L 301 n := by
  unfold phangsM
  by_cases e : n = (0, 0)
  · rw [decide_eq_true e]
    unfold hangsM
    rw [if_pos e]; rfl
  · rw [decide_eq_false e, Bool.false_or, leads_hangs e]
    exact bool_eq (fun hw => h.hangs_few hw (by omega)) (fun hw => hangsM_mono hw (by omega))
theorem Gd.hangs_step (h : Gd L) (hl : L.length ≤ 300) (hx : x ∈ L) : hangsM L 301 x.n = (!x.g && hangsM L 301 x.p) := by
  have e1 : hangsM L 301 x.n = hangsM L 302 x.n := bool_eq (fun hw => hangsM_mono hw (by omega)) (fun hw => h.hangs_few hw (by omega))
  rw [e1]
  conv => lhs; unfold hangsM
  rw [if_neg (h.nz x hx), findM_of h.srt hx]
  dsimp only
  cases x.g <;> simp
/-- No item is within itself. -/
theorem Gd.noring (h : Gd L) (hx : x ∈ L) (k : Nat) : withinM L k x.n x.p = false := by
  obtain ⟨r, hr⟩ := h.up
  have key : ∀ {k : Nat} {n m : S}, withinM L k n m = true → r n ≤ r m := by
    intro k
    induction k with
    | zero => intro n m h; cases h
    | succ k ih =>
      intro n m hk
      unfold withinM at hk
      split at hk
      · rename_i e; rw [e]; exact Nat.le_refl _
      · cases hf : findM L m with
        | none => rw [hf] at hk; cases hk
        | some y =>
          rw [hf] at hk
          have h1 := ih hk
          obtain ⟨h2, h3⟩ := findM_mem hf
          have := hr y h2
          rw [h3] at this
          omega
  cases hw : withinM L k x.n x.p with
  | false => rfl
  | true =>
    have := key hw
    have := hr x hx
    omega
theorem Gd.move (h : Gd L) (hl : L.length ≤ 300) (hx : findM L y.n = some x) (hd : y.d = x.d) (hp : dirM L y.p = true) (hw : withinM L 301 y.n y.p = false) : Gd (putM L y) := by
  obtain ⟨hx1, hx2⟩ := findM_mem hx
  obtain ⟨r, hr⟩ := h.up
  have hW : ∀ q, (∃ k, withinM L k y.n q = true) ↔ withinM L 301 y.n q = true := fun q => ⟨fun ⟨k, hk⟩ => h.within_few (j := 301) hk (by omega), fun h => ⟨_, h⟩⟩
  refine ⟨putM_srt h.srt y, fun z hz => ?_, ⟨fun q => if withinM L 301 y.n q = true then r q + (r y.p + 1) else r q, fun z hz => ?_⟩, fun z hz => ?_⟩
  · rcases (putM_mem h.srt).1 hz with rfl | ⟨h1, _⟩
    · rw [← hx2]; exact h.nz x hx1
    · exact h.nz z h1
  · dsimp only
    rcases (putM_mem h.srt).1 hz with rfl | ⟨h1, h2⟩
    · have e : withinM L 301 z.n z.n = true := by unfold withinM; rw [if_pos rfl]
      rw [if_neg (by rw [hw]; simp), if_pos e]
      omega
    · have hf := findM_of h.srt h1
      have e : withinM L 301 y.n z.n = true ↔ withinM L 301 y.n z.p = true := by
        constructor
        · intro h3
          unfold withinM at h3
          rw [if_neg h2, hf] at h3
          exact withinM_mono (k := 300) (j := 301) h3 (by decide)
        · intro h3
          refine (hW _).1 ⟨302, ?_⟩
          unfold withinM
          rw [if_neg h2, hf]
          exact h3
      have := hr z h1
      by_cases h3 : withinM L 301 y.n z.n = true
      · rw [if_pos h3, if_pos (e.1 h3)]; omega
      · rw [if_neg h3, if_neg (fun h4 => h3 (e.2 h4))]; exact this
  · refine dirM_put h.srt (fun u hu hud => by rw [hx] at hu; cases hu; rw [hd]; exact hud) ?_
    rcases (putM_mem h.srt).1 hz with rfl | ⟨h1, _⟩
    · exact hp
    · exact h.par z h1
end

/-! ### What an operation does -/
def newI (o : OpT) : IM := ⟨o.n, o.p, o.s, o.d, false, (0, 0), []⟩
def movI (x : IM) (o : OpT) : IM := { x with p := o.p, s := o.s, g := false }
def remI (x : IM) : IM := { x with g := true }
def wriI (x : IM) (o : OpT) : IM := { x with y := o.a, b := o.b }
/-- The item that an operation puts. -/
def chM (L : List IM) (o : OpT) : Option IM :=
  if o.k = 1 then (if hasM L o.n = true then none else if dirM L o.p = true then some (newI o) else none)
  else match findM L o.n with
    | none => none
    | some x => if o.k = 2 then (if dirM L o.p = true then (if withinM L 301 o.n o.p = true then none else some (movI x o)) else none)
      else if o.k = 3 then some (remI x)
      else if x.d = true then none else some (wriI x o)
def stepM (L : List IM) (o : OpT) : List IM := match chM L o with
  | none => L
  | some y => putM L y
def doM (L : List IM) (o : OpT) : List IM := if rightO o = true then stepM L o else L
theorem rightO_n {o : OpT} (h : rightO o = true) : rightB o.n = true ∧ rightB o.a = true := by
  unfold rightO at h
  rw [Bool.and_eq_true] at h
  refine ⟨?_, h.1⟩
  have h2 := h.2
  by_cases e1 : o.k = 1
  · rw [if_pos e1, Bool.and_eq_true] at h2
    rw [(sameAt_iff _ _).1 h2.1]; exact h.1
  · rw [if_neg e1] at h2
    by_cases e2 : o.k = 2
    · rw [if_pos e2] at h2
      simp only [Bool.and_eq_true] at h2
      exact h2.1.1
    · rw [if_neg e2] at h2
      have hb : bareB o = true → rightB o.n = true := fun hb => by
        unfold bareB at hb
        simp only [Bool.and_eq_true] at hb
        exact hb.1.1.1
      by_cases e3 : o.k = 3
      · rw [if_pos e3, Bool.and_eq_true] at h2; exact hb h2.1
      · rw [if_neg e3] at h2
        by_cases e4 : o.k = 4
        · rw [if_pos e4, Bool.and_eq_true] at h2; exact hb h2.1
        · rw [if_neg e4] at h2; cases h2
theorem rightO_k {o : OpT} (h : rightO o = true) : o.k = 1 ∨ o.k = 2 ∨ o.k = 3 ∨ o.k = 4 := by
  unfold rightO at h
  rw [Bool.and_eq_true] at h
  have h2 := h.2
  by_cases e1 : o.k = 1
  · exact .inl e1
  · by_cases e2 : o.k = 2
    · exact .inr (.inl e2)
    · by_cases e3 : o.k = 3
      · exact .inr (.inr (.inl e3))
      · by_cases e4 : o.k = 4
        · exact .inr (.inr (.inr e4))
        · rw [if_neg e1, if_neg e2, if_neg e3, if_neg e4] at h2; cases h2
theorem rightB_nz {n : S} (h : rightB n = true) : n ≠ (0, 0) := fun e => by
  rw [e] at h
  have := of_decide_eq_true h
  unfold rightP at this
  omega
theorem chM_n {L : List IM} {o : OpT} {y : IM} (h : chM L o = some y) : y.n = o.n := by
  unfold chM at h
  split at h
  · split at h
    · cases h
    · split at h
      · cases h; rfl
      · cases h
  · cases hf : findM L o.n with
    | none => rw [hf] at h; cases h
    | some x =>
      rw [hf] at h
      dsimp only at h
      have := (findM_mem hf).2
      split at h
      · split at h
        · split at h
          · cases h
          · cases h; exact this
        · cases h
      · split at h
        · cases h; exact this
        · split at h
          · cases h
          · cases h; exact this
theorem Gd.step {L : List IM} {o : OpT} (h : Gd L) (hl : L.length ≤ 300) (hr : rightO o = true) : Gd (stepM L o) := by
  unfold stepM
  cases hc : chM L o with
  | none => exact h
  | some y =>
    show Gd (putM L y)
    unfold chM at hc
    split at hc
    · split at hc
      · cases hc
      · rename_i hh
        split at hc
        · rename_i hd
          cases hc
          refine h.create ?_ (rightB_nz (rightO_n hr).1) hd
          unfold hasM at hh
          show findM L o.n = none
          cases hf : findM L o.n with
          | none => rfl
          | some x => rw [hf] at hh; simp at hh
        · cases hc
    · cases hf : findM L o.n with
      | none => rw [hf] at hc; cases hc
      | some x =>
        rw [hf] at hc
        dsimp only at hc
        have hxn := (findM_mem hf).2
        split at hc
        · split at hc
          · rename_i hd
            split at hc
            · cases hc
            · rename_i hw
              cases hc
              refine h.move hl (x := x) (by rw [show (movI x o).n = x.n from rfl, hxn]; exact hf) rfl hd ?_
              rw [show (movI x o).n = x.n from rfl, hxn]
              show withinM L 301 o.n o.p = false
              simpa using hw
          · cases hc
        · split at hc
          · cases hc
            exact h.change (x := x) (by rw [show (remI x).n = x.n from rfl, hxn]; exact hf) rfl rfl
          · split at hc
            · cases hc
            · cases hc
              exact h.change (x := x) (by rw [show (wriI x o).n = x.n from rfl, hxn]; exact hf) rfl rfl
theorem Gd.do {L : List IM} {o : OpT} (h : Gd L) (hl : L.length ≤ 300) : Gd (doM L o) := by
  unfold doM
  split
  · rename_i hr; exact h.step hl hr
  · exact h
theorem doM_len (L : List IM) (o : OpT) : (doM L o).length ≤ L.length + 1 := by
  unfold doM stepM
  split
  · cases chM L o with
    | none => exact Nat.le_succ _
    | some y => exact putM_len L y
  · exact Nat.le_succ _
/-- All that operations make, in order. -/
def buildM (L : List IM) (l : List OpT) : List IM := l.foldl doM L
theorem buildM_len : ∀ (l : List OpT) (L : List IM), (buildM L l).length ≤ L.length + l.length
  | [], L => Nat.le_refl _
  | o :: l, L => by
    have h1 := buildM_len l (doM L o)
    have h2 := doM_len L o
    show (buildM (doM L o) l).length ≤ _
    simp only [List.length_cons]
    omega
theorem Gd.build : ∀ {l : List OpT} {L : List IM}, Gd L → L.length + l.length ≤ 300 → Gd (buildM L l)
  | [], L, h, _ => h
  | o :: l, L, h, hl => by
    simp only [List.length_cons] at hl
    have h2 := doM_len L o
    exact Gd.build (l := l) (h.do (o := o) (by omega)) (by omega)
end Go.Proofs.YthnjbjlhfohpfaaGreat
