/-
  Lists of stamps that rise: lists alone.
-/
import Derived.Test.YtmifionpagpnfaaSorted
namespace Go.Proofs.Ytmifionpagpnfaa
set_option linter.unusedVariables false
open Go.Sort Go.Lib Go.Shelf

/-- Each is ahead of all behind it. -/
def Rises (l : List S) : Prop := l.Pairwise ltP

theorem weak (l : List S) : (inOrd l).Pairwise (fun x y => ¬ ltP y x) := by
  have h := List.pairwise_mergeSort (le := fun x y : S => !(ltOf cmpS) y x) (fun a b c h1 h2 => by
    simp only [ltOf_cmp, Bool.not_eq_true', decide_eq_false_iff_not] at *
    unfold ltP at *
    omega) (fun a b => by
    simp only [ltOf_cmp, Bool.or_eq_true, Bool.not_eq_true', decide_eq_false_iff_not]
    unfold ltP
    omega) l
  refine List.Pairwise.imp (fun {a b} h => ?_) h
  simp only [ltOf_cmp, Bool.not_eq_true', decide_eq_false_iff_not] at h
  exact h

theorem dd_rises : ∀ (r : List S) (p : S), (p :: r).Pairwise (fun x y => ¬ ltP y x) → Rises (p :: dd p r)
  | [], p, _ => by simp [Rises, dd]
  | x :: r, p, h => by
    have hp := List.pairwise_cons.1 h
    have hx := List.pairwise_cons.1 hp.2
    by_cases e : x = p
    · rw [e, dd_same]
      exact dd_rises r p (List.pairwise_cons.2 ⟨fun y hy => hp.1 y (List.mem_cons_of_mem _ hy), hx.2⟩)
    · rw [dd_other e]
      have ih := dd_rises r x hp.2
      have hpx : ltP p x := by
        have h1 := hp.1 x List.mem_cons_self
        by_cases h2 : ltP p x
        · exact h2
        · exact absurd (ltP_total h1 h2) e
      refine List.pairwise_cons.2 ⟨fun y hy => ?_, ih⟩
      rcases List.mem_cons.1 hy with r1 | r1
      · rw [r1]; exact hpx
      · exact ltP_trans hpx ((List.pairwise_cons.1 ih).1 y r1)

theorem mem_dd : ∀ (r : List S) (p s : S), s ∈ p :: dd p r ↔ s ∈ p :: r
  | [], p, s => by simp [dd]
  | x :: r, p, s => by
    by_cases e : x = p
    · rw [e, dd_same, mem_dd r p s]
      simp
    · rw [dd_other e]
      have := mem_dd r x s
      simp only [List.mem_cons] at this ⊢
      rw [this]
theorem mem_dedup (l : List S) (s : S) : s ∈ dedup l ↔ s ∈ l := by
  cases l with
  | nil => simp [dedup]
  | cons x r => exact mem_dd r x s
theorem dedup_rises {l : List S} (h : l.Pairwise (fun x y => ¬ ltP y x)) : Rises (dedup l) := by
  cases l with
  | nil => simp [Rises, dedup]
  | cons x r => exact dd_rises r x h
theorem dd_len : ∀ (r : List S) (p : S), (dd p r).length ≤ r.length
  | [], p => by simp [dd]
  | x :: r, p => by
    by_cases e : x = p
    · rw [e, dd_same]; have := dd_len r p; simp; omega
    · rw [dd_other e]; have := dd_len r x; simp; omega
theorem dedup_len (l : List S) : (dedup l).length ≤ l.length := by
  cases l with
  | nil => simp [dedup]
  | cons x r => have := dd_len r x; simp [dedup]; omega

/-- The list in order, each once. -/
def sortS (l : List S) : List S := dedup (inOrd l)
theorem sortS_rises (l : List S) : Rises (sortS l) := dedup_rises (weak l)
theorem mem_sortS (l : List S) (s : S) : s ∈ sortS l ↔ s ∈ l := (mem_dedup _ s).trans (inOrd_mem l s)
theorem sortS_len (l : List S) : (sortS l).length ≤ l.length := by have := dedup_len (inOrd l); rwa [inOrd_len] at this

theorem rises_ext : ∀ (a b : List S), Rises a → Rises b → (∀ s, s ∈ a ↔ s ∈ b) → a = b
  | [], [], _, _, _ => rfl
  | [], y :: b, _, _, h => by have := (h y).2 List.mem_cons_self; cases this
  | x :: a, [], _, _, h => by have := (h x).1 List.mem_cons_self; cases this
  | x :: a, y :: b, ha, hb, h => by
    have h1 := List.pairwise_cons.1 ha
    have h2 := List.pairwise_cons.1 hb
    have e : x = y := by
      rcases List.mem_cons.1 ((h x).1 List.mem_cons_self) with r | r
      · exact r
      · rcases List.mem_cons.1 ((h y).2 List.mem_cons_self) with q | q
        · exact q.symm
        · exact absurd (ltP_trans (h1.1 y q) (h2.1 x r)) (ltP_irrefl _)
    subst e
    rw [rises_ext a b h1.2 h2.2 fun s => ?_]
    constructor
    · intro hs
      rcases List.mem_cons.1 ((h s).1 (List.mem_cons_of_mem _ hs)) with r | r
      · rw [r] at hs; exact absurd (h1.1 x hs) (ltP_irrefl _)
      · exact r
    · intro hs
      rcases List.mem_cons.1 ((h s).2 (List.mem_cons_of_mem _ hs)) with r | r
      · rw [r] at hs; exact absurd (h2.1 x hs) (ltP_irrefl _)
      · exact r
end Go.Proofs.Ytmifionpagpnfaa
