/-
  What EntryApart asks of the oracle alone.
-/
import Derived.Test.YtiebbglknmcnpaaRep
import Derived.Test.YtiebbglknmcnpaaVerify
namespace Go.Proofs.Ytiebbglknmcnpaa
set_option linter.unusedVariables false
set_option linter.unusedSimpArgs false
set_option synthInstance.maxSize 20000
open Classical
open Go.RowKit Go.Maps

theorem apart_facts {ds : List Int} (hd : ∀ d ∈ ds, U64 d) {le lf te tf : List Int} (h1 : Oct le) (h2 : Oct lf) (h3 : Oct te) (h4 : Oct tf) :
    ∃ a b s p x S1 S2 S3 S4, (⟨ds, []⟩ : St).get (.hash le) = (a, S1) ∧ S1.get (.hash lf) = (b, S2) ∧ (a = b ↔ le = lf) ∧ S2.fresh = s ∧ (S2.put .secret).fresh = p ∧ (S2.put .secret).put (.pub s) = S3 ∧ S3.sign s te = ((x, 0), S4) ∧
      S4.verify p te x = true ∧ (S4.verify p tf x = true ↔ te = tf) ∧ U64 s ∧ U64 p ∧ U64 x ∧ S1.rows.length ≤ 1 ∧ S2.rows.length ≤ 2 ∧ S3.rows.length ≤ 4 ∧ S4.rows.length ≤ 5 := by
  have g0 := good0 hd
  have l0 : (⟨ds, []⟩ : St).rows.length = 0 := rfl
  generalize (⟨ds, []⟩ : St) = S0 at *
  have o1 := get_of S0 (.hash le)
  have g1 : Good (S0.get (.hash le)).2 := get_good g0 (by omega) h1
  have n1 := get_len S0 (.hash le)
  have e1 : (S0.get (.hash le)).2.get (.hash le) = ((S0.get (.hash le)).1, (S0.get (.hash le)).2) := get_some o1
  generalize hS1 : S0.get (.hash le) = q1 at *
  obtain ⟨a, S1⟩ := q1
  dsimp only at *
  have o2 := get_of S1 (.hash lf)
  have o2' := get_keeps (x := .hash lf) o1
  have g2 : Good (S1.get (.hash lf)).2 := get_good g1 (by omega) h2
  have n2 := get_len S1 (.hash lf)
  have e2 : le = lf → (S1.get (.hash lf)).1 = a := fun h => by rw [← h, e1]
  generalize hS2 : S1.get (.hash lf) = q2 at *
  obtain ⟨b, S2⟩ := q2
  dsimp only at *
  obtain ⟨p1, p2⟩ := pair_at g2 (by omega)
  have g3 := pair_good g2 (by omega)
  have n3 := pair_len S2
  have us := (fresh_ok g2 (by omega)).2.2.1
  have gp : Good (S2.put .secret) := put_good g2 (by omega) trivial
  have up := (fresh_ok gp (by have := put_len S2 .secret; omega)).2.2.1
  have eS3 : (S2.put .secret).put (.pub S2.fresh) = S2.pair := rfl
  generalize S2.pair = S3 at *
  generalize hs : S2.fresh = s at *
  generalize hp : (S2.put .secret).fresh = p at *
  have o4 := get_of S3 (.sig s te)
  have g4 : Good (S3.get (.sig s te)).2 := get_good g3 (by omega) ⟨us, h3⟩
  have n4 := get_len S3 (.sig s te)
  have p4 := at_get_old g3 (by omega) (x := .sig s te) p2
  have eS4 : S3.sign s te = (((S3.get (.sig s te)).1, 0), (S3.get (.sig s te)).2) := by unfold St.sign; rw [if_pos p1]
  have ux := (get_ne g3 (by omega) (x := .sig s te) ⟨us, h3⟩).2
  generalize S3.get (.sig s te) = q4 at *
  obtain ⟨x, S4⟩ := q4
  dsimp only at *
  refine ⟨a, b, s, p, x, S1, S2, S3, S4, rfl, hS2, ⟨fun h => ?_, fun h => (e2 h).symm⟩, hs, hp, eS3, eS4, ?_, ?_, us, up, ux, by omega, by omega, by omega, by omega⟩
  · subst h
    have := of_inj g2 o2' o2
    rwa [What.hash.injEq] at this
  · rw [verify_pub p4]
    exact decide_eq_true o4
  · rw [verify_pub p4, decide_eq_true_iff]
    constructor
    · intro h
      have := of_inj g4 o4 h
      rw [What.sig.injEq] at this
      exact this.2
    · rintro rfl
      exact o4

end Go.Proofs.Ytiebbglknmcnpaa
