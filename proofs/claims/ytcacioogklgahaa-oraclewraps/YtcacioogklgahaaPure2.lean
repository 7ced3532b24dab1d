/-
  The oracle by lists: signatures and wraps.
-/
import Derived.Test.YtcacioogklgahaaPure
namespace Go.Proofs.Ytcacioogklgahaa
set_option linter.unusedVariables false
set_option synthInstance.maxSize 20000
open Classical

/-- Behind a Pair. -/
def St.pair (S : St) : St := (S.put .secret).put (.pub S.fresh)
theorem pair_len (S : St) : S.pair.rows.length = S.rows.length + 2 := by simp [St.pair, put_len]
theorem pair_good {S : St} (hg : Good S) (hN : S.rows.length + 2 < 1000000000) : Good S.pair :=
  put_good (put_good hg (by omega) (x := .secret) trivial) (by rw [put_len]; omega) (fresh_ok hg (by omega)).2.2.1
theorem pair_at {S : St} (hg : Good S) (hN : S.rows.length + 2 < 1000000000) : S.pair.at S.fresh = some .secret ∧ S.pair.at (S.put .secret).fresh = some (.pub S.fresh) := by
  have hg1 : Good (S.put .secret) := put_good hg (by omega) trivial
  exact ⟨at_put_old hg1 (by rw [put_len]; omega) (at_put_new hg (by omega) _), at_put_new hg1 (by rw [put_len]; omega) _⟩
theorem pair_old {S : St} (hg : Good S) (hN : S.rows.length + 2 < 1000000000) {g : Int} {y : What} (h : S.at g = some y) : S.pair.at g = some y :=
  at_put_old (put_good hg (by omega) (x := .secret) trivial) (by rw [put_len]; omega) (at_put_old hg (by omega) h)
theorem pair_new {S : St} (hg : Good S) (hN : S.rows.length + 2 < 1000000000) {g : Int} (h : g ∈ S.us) : g ≠ S.fresh := fun e => (fresh_ok hg (by omega)).2.1 (e ▸ h)
theorem mem_us {S : St} {g : Int} {y : What} (h : S.at g = some y) : g ∈ S.us := List.mem_map.2 ⟨_, at_some h, rfl⟩

/-- What the law of signatures asks. -/
theorem signs_facts {S0 : St} (hg0 : Good S0) (hl0 : S0.rows.length = 0) {la lb : List Int} (ha : Oct la) (hb : Oct lb) :
    ∃ s p t q x P1 P2 Q, S0.fresh = s ∧ (S0.put .secret).fresh = p ∧ (S0.put .secret).put (.pub s) = P1 ∧ P1.fresh = t ∧ (P1.put .secret).fresh = q ∧ (P1.put .secret).put (.pub t) = P2 ∧
      P2.sign s la = ((x, 0), Q) ∧ Q.sign s la = ((x, 0), Q) ∧ Q.sign p la = ((0, 11), Q) ∧ Q.verify p la x = true ∧ Q.verify q la x = false ∧ Q.verify p lb x = decide (la = lb) ∧ (∀ g, Q.verify p la g = decide (x = g)) ∧ s ≠ t ∧
      U64 s ∧ U64 p ∧ U64 q ∧ P1.rows.length = 2 ∧ P2.rows.length = 4 ∧ Q.rows.length ≤ 5 := by
  have hg1 := pair_good hg0 (by omega)
  have hl1 : S0.pair.rows.length = 2 := by rw [pair_len]; omega
  have hg2 := pair_good hg1 (by omega)
  have hl2 : S0.pair.pair.rows.length = 4 := by rw [pair_len]; omega
  obtain ⟨as1, ap1⟩ := pair_at hg0 (by omega)
  obtain ⟨at1, aq1⟩ := pair_at hg1 (by omega)
  have hU1 := (fresh_ok hg0 (by omega)).2.2.1
  have as2 := pair_old hg1 (by omega) as1
  have ap2 := pair_old hg1 (by omega) ap1
  have hst : S0.fresh ≠ S0.pair.fresh := pair_new hg1 (by omega) (mem_us as1)
  have hgQ := get_good hg2 (by omega) (x := .sig S0.fresh la) ⟨hU1, ha⟩
  have hoQ := get_of S0.pair.pair (.sig S0.fresh la)
  have asQ := at_get_old hg2 (by omega) (x := .sig S0.fresh la) as2
  have apQ := at_get_old hg2 (by omega) (x := .sig S0.fresh la) ap2
  have aqQ := at_get_old hg2 (by omega) (x := .sig S0.fresh la) aq1
  have hlQ := get_len S0.pair.pair (.sig S0.fresh la)
  refine ⟨S0.fresh, (S0.put .secret).fresh, S0.pair.fresh, (S0.pair.put .secret).fresh, (S0.pair.pair.get (.sig S0.fresh la)).1, S0.pair, S0.pair.pair, (S0.pair.pair.get (.sig S0.fresh la)).2, rfl, rfl, rfl, rfl, rfl, rfl, ?_, ?_, ?_, ?_, ?_, ?_, ?_, hst, hU1, ?_, ?_, hl1, hl2, by omega⟩
  · unfold St.sign; rw [if_pos as2]
  · unfold St.sign; rw [if_pos asQ, get_some hoQ]
  · unfold St.sign; rw [if_neg (by rw [apQ]; simp)]
  · unfold St.verify; rw [apQ]; simp [hoQ]
  · unfold St.verify
    rw [aqQ]
    simp only [decide_eq_false_iff_not]
    intro e
    have := of_inj hgQ e hoQ
    rw [What.sig.injEq] at this
    exact hst this.1.symm
  · unfold St.verify
    rw [apQ]
    simp only [decide_eq_decide]
    constructor
    · intro e
      have := of_inj hgQ e hoQ
      rw [What.sig.injEq] at this
      exact this.2.symm
    · intro e; subst e; exact hoQ
  · intro g
    unfold St.verify
    rw [apQ]
    simp [hoQ]
  · exact (at_ok hg1 ap1).1
  · exact (at_ok hg2 aq1).1
end Go.Proofs.Ytcacioogklgahaa
