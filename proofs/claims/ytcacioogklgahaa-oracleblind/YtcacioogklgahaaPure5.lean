/-
  Two oracles of the same draws and the same handles (Twin): what is sealed by both, of one class, reads alike, and they stay so.
-/
import Derived.Test.YtcacioogklgahaaPure2
namespace Go.Proofs.Ytcacioogklgahaa
set_option linter.unusedVariables false
set_option synthInstance.maxSize 20000
open Classical

/-- The same draws to come, the same handles; k is a key of both. -/
structure Twin (k : Int) (S T : St) : Prop where
  draws : S.draws = T.draws
  us : S.us = T.us
  keyS : S.at k = some .key
  keyT : T.at k = some .key
  goodS : Good S
  goodT : Good T

theorem Twin.fresh {k : Int} {S T : St} (h : Twin k S T) : S.fresh = T.fresh := by unfold St.fresh; rw [h.us, h.draws]
theorem Twin.len {k : Int} {S T : St} (h : Twin k S T) : S.rows.length = T.rows.length := by rw [← us_length, ← us_length, h.us]
theorem Twin.put {k : Int} {S T : St} (h : Twin k S T) (hN : S.rows.length < 1000000000) {x y : What} (hx : WhatOk x) (hy : WhatOk y) : Twin k (S.put x) (T.put y) := by
  have hN' : T.rows.length < 1000000000 := by rw [← h.len]; exact hN
  refine ⟨?_, ?_, at_put_old h.goodS hN h.keyS, at_put_old h.goodT hN' h.keyT, put_good h.goodS hN hx, put_good h.goodT hN' hy⟩
  · show (freshOf S.us S.draws).2 = (freshOf T.us T.draws).2
    rw [h.us, h.draws]
  · rw [put_us, put_us, h.us, h.fresh]

theorem twin_key {ds : List Int} (hd : ∀ d ∈ ds, U64 d) : Twin (St.fresh ⟨ds, []⟩) (St.put ⟨ds, []⟩ .key) (St.put ⟨ds, []⟩ .key) := by
  have hg := good0 hd
  have hk := at_put_new hg (by simp) .key
  have hg1 := put_good hg (by simp) (x := .key) trivial
  exact ⟨rfl, rfl, hk, hk, hg1, hg1⟩

theorem Twin.seal {k : Int} {S T : St} (h : Twin k S T) (hN : S.rows.length < 1000000000) {p q : List Int} (hp : Oct p) (hq : Oct q) (hc : cls p.length = cls q.length) :
    ∃ r e S' T', S.seal k [] p = ((r, e), S') ∧ T.seal k [] q = ((r, e), T') ∧ Twin k S' T' ∧ S'.rows.length ≤ S.rows.length + 1 := by
  unfold St.seal
  rw [if_pos h.keyS, if_pos h.keyT]
  by_cases hm : cls p.length = -1
  · rw [if_pos hm, if_pos (hc ▸ hm)]
    exact ⟨[], 3, S, T, rfl, rfl, h, Nat.le_succ _⟩
  · rw [if_neg hm, if_neg (hc ▸ hm)]
    have hk := (at_ok h.goodS h.keyS).1
    have hz : zerosOf p = zerosOf q := by unfold zerosOf; rw [hc]
    refine ⟨boxOf S.fresh (zerosOf p), 0, _, _, rfl, ?_, h.put hN (x := .seal k [] p) (y := .seal k [] q) ⟨hk, Oct.nil, hp⟩ ⟨hk, Oct.nil, hq⟩, by rw [put_len]; exact Nat.le_refl _⟩
    rw [h.fresh, hz]
end Go.Proofs.Ytcacioogklgahaa
