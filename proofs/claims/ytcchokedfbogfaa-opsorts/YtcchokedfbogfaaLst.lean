/-
  What Sort answers, by lists.
-/
import Derived.Test.YtcchokedfbogfaaAll
namespace Go.Proofs.Ytcchokedfbogfaa
set_option linter.unusedVariables false
set_option linter.unusedSimpArgs false
set_option synthInstance.maxSize 20000
set_option maxHeartbeats 2000000
set_option maxRecDepth 20000
open Go.RowKit Go.Maps

theorem le_ne_lt {a b : S} (h : ¬ ltP b a) (hn : ¬ b = a) : ltP a b := by
  obtain ⟨a1, a2⟩ := a
  obtain ⟨b1, b2⟩ := b
  simp only [Prod.mk.injEq] at hn
  unfold ltP at *
  omega
theorem ddO_str : ∀ (r : List OpT) (p : S), (∀ q ∈ r, ¬ ltP q.a p) → SrtO r → (∀ q ∈ ddO p r, ltP p q.a) ∧ (ddO p r).Pairwise LtO
  | [], p, _, _ => ⟨fun q hq => by simp [ddO] at hq, by simp [ddO]⟩
  | x :: r, p, hp, hs => by
    have hx : ∀ q ∈ r, ¬ ltP q.a x.a := fun q hq => (List.pairwise_cons.1 hs).1 q hq
    have hr : SrtO r := (List.pairwise_cons.1 hs).2
    by_cases e : x.a = p
    · rw [ddO_same e]
      exact ddO_str r p (fun q hq => hp q (List.mem_cons_of_mem _ hq)) hr
    · rw [ddO_other e]
      have ih := ddO_str r x.a hx hr
      have hpx : ltP p x.a := le_ne_lt (hp x List.mem_cons_self) e
      refine ⟨fun q hq => ?_, List.pairwise_cons.2 ⟨ih.1, ih.2⟩⟩
      rcases List.mem_cons.1 hq with h | h
      · rw [h]; exact hpx
      · exact ltP_trans hpx (ih.1 q h)
theorem firsts_str {l : List OpT} (h : SrtO l) : (firstsO l).Pairwise LtO := by
  cases l with
  | nil => simp [firstsO]
  | cons x r =>
    have ih := ddO_str r x.a (fun q hq => (List.pairwise_cons.1 h).1 q hq) (List.pairwise_cons.1 h).2
    exact List.pairwise_cons.2 ⟨ih.1, ih.2⟩
theorem ddO_has : ∀ (r : List OpT) (p : S) (q : OpT), q ∈ r → q.a = p ∨ ∃ s ∈ ddO p r, s.a = q.a
  | [], p, q, h => by cases h
  | x :: r, p, q, h => by
    by_cases e : x.a = p
    · rw [ddO_same e]
      rcases List.mem_cons.1 h with h1 | h1
      · rw [h1]; exact .inl e
      · exact ddO_has r p q h1
    · rw [ddO_other e]
      rcases List.mem_cons.1 h with h1 | h1
      · exact .inr ⟨x, List.mem_cons_self, by rw [h1]⟩
      · rcases ddO_has r x.a q h1 with h2 | ⟨s, h2, h3⟩
        · exact .inr ⟨x, List.mem_cons_self, h2.symm⟩
        · exact .inr ⟨s, List.mem_cons_of_mem _ h2, h3⟩
theorem firsts_has {l : List OpT} {q : OpT} (h : q ∈ l) : ∃ s ∈ firstsO l, s.a = q.a := by
  cases l with
  | nil => cases h
  | cons x r =>
    rcases List.mem_cons.1 h with h1 | h1
    · exact ⟨x, List.mem_cons_self, by rw [h1]⟩
    · rcases ddO_has r x.a q h1 with h2 | ⟨s, h2, h3⟩
      · exact ⟨x, List.mem_cons_self, h2.symm⟩
      · exact ⟨s, List.mem_cons_of_mem _ h2, h3⟩
theorem ddO_id : ∀ (r : List OpT) (p : S), (∀ q ∈ r, ltP p q.a) → r.Pairwise LtO → ddO p r = r
  | [], _, _, _ => rfl
  | x :: r, p, hp, hs => by
    have e : ¬ x.a = p := fun e => ltP_irrefl p (by have := hp x List.mem_cons_self; rwa [e] at this)
    rw [ddO_other e, ddO_id r x.a (List.pairwise_cons.1 hs).1 (List.pairwise_cons.1 hs).2]
theorem firsts_id {l : List OpT} (h : l.Pairwise LtO) : firstsO l = l := by
  cases l with
  | nil => rfl
  | cons x r => rw [firstsO, ddO_id r x.a (List.pairwise_cons.1 h).1 (List.pairwise_cons.1 h).2]
theorem ddO_len : ∀ (r : List OpT) (p : S), (ddO p r).length ≤ r.length
  | [], _ => Nat.le_refl _
  | x :: r, p => by
    by_cases e : x.a = p
    · rw [ddO_same e]; have := ddO_len r p; simp; omega
    · rw [ddO_other e]; have := ddO_len r x.a; simp; omega
theorem firsts_len (l : List OpT) : (firstsO l).length ≤ l.length := by
  cases l with
  | nil => exact Nat.le_refl _
  | cons x r => have := ddO_len r x.a; simp [firstsO]; omega
theorem str_srt {l : List OpT} (h : l.Pairwise LtO) : SrtO l := h.imp fun h1 => lt_le h1
theorem keep_mem2 {l z : List OpT} {q : OpT} (h : Keep l z) (hq : q ∈ l) : q ∈ z := keep_mem (fun c => (h c).symm) hq
theorem alike_a {x y : List OpT} (h : x.map bare = y.map bare) : x.map (fun q => q.a) = y.map (fun q => q.a) := by
  have := congrArg (List.map (fun q : OpT => q.a)) h
  rw [List.map_map, List.map_map] at this
  exact this
section
variable {l l' z : List OpT} {w' : World} {v' : Value}
/-- What Sort answers stands in order, no two of one time. -/
theorem Srtd.str (h : Srtd l w' v' l' z) : l'.Pairwise LtO := by
  have h1 : ((firstsO z).map (fun q => q.a)).Pairwise ltP := List.pairwise_map.2 (firsts_str h.srt)
  rw [← alike_a h.alike] at h1
  exact (List.pairwise_map (f := fun q : OpT => q.a)).1 h1
theorem Srtd.few (h : Srtd l w' v' l' z) : l'.length ≤ l.length := by
  have h1 := congrArg List.length h.alike
  simp only [List.length_map] at h1
  have := firsts_len z
  have := h.len
  omega
theorem Srtd.has (h : Srtd l w' v' l' z) {q : OpT} (hq : q ∈ l) : ∃ s ∈ l', s.a = q.a := by
  obtain ⟨s, h1, h2⟩ := firsts_has (keep_mem2 h.keep hq)
  have h3 : s.a ∈ (firstsO z).map (fun q => q.a) := List.mem_map.2 ⟨s, h1, rfl⟩
  rw [← alike_a h.alike] at h3
  obtain ⟨t, h4, h5⟩ := List.mem_map.1 h3
  exact ⟨t, h4, h5.trans h2⟩
/-- In order again: nothing turns. -/
theorem Srtd.again {l2 z2 : List OpT} {w2 : World} {v2 : Value} (h : Srtd l w' v' l' z) (h2 : Srtd l' w2 v2 l2 z2) : l2.map bare = l'.map bare := by
  have e : l' = z2 := keep_one _ _ (str_srt h.str) h2.srt (fun c => h2.keep c)
  rw [h2.alike, ← e, firsts_id h.str]
end
end Go.Proofs.Ytcchokedfbogfaa
