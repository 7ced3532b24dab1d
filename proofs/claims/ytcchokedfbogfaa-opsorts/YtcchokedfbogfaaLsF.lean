/-
  Of each time the first, told by filters.
-/
import Derived.Test.YtcchokedfbogfaaLst
namespace Go.Proofs.Ytcchokedfbogfaa
set_option linter.unusedVariables false
set_option linter.unusedSimpArgs false
set_option synthInstance.maxSize 20000
set_option maxHeartbeats 2000000
set_option maxRecDepth 20000
open Go.RowKit Go.Maps

theorem ddO_filter : ∀ (r : List OpT) (p : S), (∀ q ∈ r, ¬ ltP q.a p) → SrtO r → ∀ c, (ddO p r).filter (atK c) = if c = p then [] else (r.filter (atK c)).take 1
  | [], p, _, _, c => by simp [ddO]
  | x :: r, p, hp, hs, c => by
    have hx : ∀ q ∈ r, ¬ ltP q.a x.a := fun q hq => (List.pairwise_cons.1 hs).1 q hq
    have hr : SrtO r := (List.pairwise_cons.1 hs).2
    by_cases e : x.a = p
    · rw [ddO_same e, ddO_filter r p (fun q hq => hp q (List.mem_cons_of_mem _ hq)) hr c]
      by_cases h : c = p
      · rw [if_pos h, if_pos h]
      · rw [if_neg h, if_neg h, List.filter_cons_of_neg (by simp only [atK, decide_eq_true_eq]; exact fun h2 => h (h2.symm.trans e))]
    · rw [ddO_other e]
      by_cases h : c = p
      · rw [if_pos h, List.filter_eq_nil_iff]
        intro q hq
        simp only [atK, decide_eq_true_eq]
        intro h2
        have hpx : ltP p x.a := le_ne_lt (hp x List.mem_cons_self) e
        rcases List.mem_cons.1 hq with h1 | h1
        · rw [h1] at h2; exact e (h2.trans h)
        · have h3 := ltP_trans hpx ((ddO_str r x.a hx hr).1 q h1)
          rw [h2, h] at h3
          exact ltP_irrefl _ h3
      · rw [if_neg h]
        by_cases h2 : x.a = c
        · rw [List.filter_cons_of_pos (by simp [atK, h2]), List.filter_cons_of_pos (by simp [atK, h2]), ddO_filter r x.a hx hr c, if_pos h2.symm]
          rfl
        · rw [List.filter_cons_of_neg (by simp [atK, h2]), List.filter_cons_of_neg (by simp [atK, h2]), ddO_filter r x.a hx hr c, if_neg (fun h3 => h2 h3.symm)]
theorem firsts_filter {l : List OpT} (h : SrtO l) (c : S) : (firstsO l).filter (atK c) = (l.filter (atK c)).take 1 := by
  cases l with
  | nil => rfl
  | cons x r =>
    have ih := ddO_filter r x.a (fun q hq => (List.pairwise_cons.1 h).1 q hq) (List.pairwise_cons.1 h).2 c
    show (x :: ddO x.a r).filter (atK c) = _
    by_cases h2 : x.a = c
    · rw [List.filter_cons_of_pos (by simp [atK, h2]), List.filter_cons_of_pos (by simp [atK, h2]), ih, if_pos h2.symm]
      rfl
    · rw [List.filter_cons_of_neg (by simp [atK, h2]), List.filter_cons_of_neg (by simp [atK, h2]), ih, if_neg (fun h3 => h2 h3.symm)]
/-- A list in order that holds of each time the first of l is what Sort answers. -/
theorem firsts_one {l z r : List OpT} (hz : SrtO z) (hk : Keep l z) (hr : r.Pairwise LtO) (hf : ∀ c, r.filter (atK c) = (l.filter (atK c)).take 1) : r = firstsO z :=
  keep_one _ _ (str_srt hr) (str_srt (firsts_str hz)) fun c => by rw [firsts_filter hz, hk c, hf c]
end Go.Proofs.Ytcchokedfbogfaa
