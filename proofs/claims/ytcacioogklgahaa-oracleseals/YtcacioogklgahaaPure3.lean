/-
  The oracle by lists: what the law of wraps asks.
-/
import Derived.Test.YtcacioogklgahaaPure2
namespace Go.Proofs.Ytcacioogklgahaa
set_option linter.unusedVariables false
set_option synthInstance.maxSize 20000
open Classical

theorem find_box {S : St} {h : Int} (hh : U64 h) (z : Nat) : S.find (boxOf h z) = S.at h := by
  unfold St.find
  rw [if_pos (by rw [boxOf_length]; omega)]
  unfold boxOf
  rw [ofBe8_be8 h _ hh]
theorem box_own {h : Int} (hh : U64 h) (z : Nat) : boxOf h z = boxOf (ofBe8 (boxOf h z)) z := by
  unfold boxOf
  rw [ofBe8_be8 h _ hh]

theorem wraps_facts (ds : List Int) (hd : ∀ d ∈ ds, U64 d) {lb : List Int} (hb : Oct lb) :
    ∃ k s p t q f S1 S2 S3 S4 m hh, St.fresh ⟨ds, []⟩ = k ∧ St.put ⟨ds, []⟩ .key = S1 ∧ S1.fresh = s ∧ (S1.put .secret).fresh = p ∧ (S1.put .secret).put (.pub s) = S2 ∧ S2.fresh = t ∧ (S2.put .secret).fresh = q ∧ (S2.put .secret).put (.pub t) = S3 ∧
      S3.wrap p k = ((boxOf f 8, 0), S4) ∧ S4.unwrap s (boxOf f 8) = (k, 0) ∧ S4.unwrap t (boxOf f 8) = (0, 11) ∧ S4.unwrap s lb = (m, hh) ∧ (hh = 4 ∨ lb = boxOf f 8) ∧ S4.wrap s k = (([], 20), S4) ∧ S4.wrap p s = (([], 11), S4) ∧
      U64 k ∧ U64 s ∧ U64 p ∧ U64 t ∧ S1.rows.length = 1 ∧ S2.rows.length = 3 ∧ S3.rows.length = 5 ∧ S4.rows.length = 6 := by
  have hg0 := good0 hd
  generalize hS0 : (⟨ds, []⟩ : St) = S0 at hg0
  have hr0 : S0.rows = [] := by rw [← hS0]
  have hl0 : S0.rows.length = 0 := by rw [hr0]; rfl
  have hg1 : Good (S0.put .key) := put_good hg0 (by omega) (x := .key) trivial
  have hl1 : (S0.put .key).rows.length = 1 := by rw [put_len]; omega
  have hg2 := pair_good hg1 (by omega)
  have hl2 : (S0.put .key).pair.rows.length = 3 := by rw [pair_len]; omega
  have hg3 := pair_good hg2 (by omega)
  have hl3 : (S0.put .key).pair.pair.rows.length = 5 := by rw [pair_len]; omega
  have ak1 := at_put_new hg0 (by omega) .key
  have ak3 := pair_old hg2 (by omega) (pair_old hg1 (by omega) ak1)
  obtain ⟨as2, ap2⟩ := pair_at hg1 (by omega)
  have as3 := pair_old hg2 (by omega) as2
  have ap3 := pair_old hg2 (by omega) ap2
  obtain ⟨at3, aq3⟩ := pair_at hg2 (by omega)
  have hst : (S0.put .key).fresh ≠ (S0.put .key).pair.fresh := pair_new hg2 (by omega) (mem_us as2)
  have hUk := (at_ok hg1 ak1).1
  have hUs := (at_ok hg2 as2).1
  have hUp := (at_ok hg2 ap2).1
  have hUt := (at_ok hg3 at3).1
  have hUf := (fresh_ok hg3 (by omega)).2.2.1
  have hnw : ∀ h a b c, (S0.put .key).pair.pair.at h ≠ some (.wrap a b c) := fun h a b c e => by
    have := at_some e
    simp [St.pair, St.put, hr0] at this
  generalize hS1 : S0.put .key = S1 at *
  generalize hS2 : S1.pair = S2 at *
  generalize hS3 : S2.pair = S3 at *
  have hokw : WhatOk (.wrap S1.fresh S0.fresh (S1.put .secret).fresh) := ⟨hUs, hUk, hUp⟩
  have hg4 : Good (S3.put (.wrap S1.fresh S0.fresh (S1.put .secret).fresh)) := put_good hg3 (by omega) hokw
  have af4 := at_put_new hg3 (by omega) (.wrap S1.fresh S0.fresh (S1.put .secret).fresh)
  have as4 := at_put_old hg3 (by omega) (x := .wrap S1.fresh S0.fresh (S1.put .secret).fresh) as3
  have ap4 := at_put_old hg3 (by omega) (x := .wrap S1.fresh S0.fresh (S1.put .secret).fresh) ap3
  refine ⟨S0.fresh, S1.fresh, (S1.put .secret).fresh, S2.fresh, (S2.put .secret).fresh, S3.fresh, S1, S2, S3, S3.put (.wrap S1.fresh S0.fresh (S1.put .secret).fresh), _, _, rfl, rfl, rfl, rfl, hS2, rfl, rfl, hS3, ?_, ?_, ?_, rfl, ?_, ?_, ?_, hUk, hUs, hUp, hUt, hl1, hl2, hl3, by rw [put_len]; omega⟩
  · unfold St.wrap
    rw [ap3]
    simp only [if_pos ak3]
  · unfold St.unwrap
    rw [find_box hUf, af4]
    simp only [if_pos (box_own hUf 8), if_true]
  · unfold St.unwrap
    rw [find_box hUf, af4]
    simp only [if_pos (box_own hUf 8), if_neg hst]
  · split
    · rename_i s' k' p' e
      by_cases hl : lb = boxOf (ofBe8 lb) 8
      · right
        unfold St.find at e
        by_cases h8 : 8 ≤ lb.length
        · rw [if_pos h8, put_at hg3 (by omega)] at e
          by_cases hf : ofBe8 lb = S3.fresh
          · rw [← hf]; exact hl
          · rw [if_neg hf] at e
            exact absurd e (hnw _ _ _ _)
        · rw [if_neg h8] at e; cases e
      · left; rw [if_neg hl]
    · left; rfl
  · unfold St.wrap
    rw [as4]
  · unfold St.wrap
    rw [ap4]
    simp only [as4]
    rfl
end Go.Proofs.Ytcacioogklgahaa
