/-
  SealingBlind, the walk: two rooms beside each other.
-/
import Derived.Test.YtjbpfhnagiacmaaGreatAlvT
namespace Go.Proofs.YtjbpfhnagiacmaaGreat
set_option linter.unusedVariables false
set_option linter.unusedSimpArgs false
set_option synthInstance.maxSize 20000
set_option maxHeartbeats 2000000
set_option maxRecDepth 20000
open Go.RowKit Go.Maps
section
variable {w0 w : World} {o : Nat → Nat} {S : St} {N : Nat}
theorem orc_sealF {b : Nat} {n : Nat} (h : OrcAt w o b S) (hS : Ora S n) (hn : n ≤ 80000) {k : Int} (hk : U64 k) {u v : Value} {bd pl : List Int} (hu : Rd w u bd) (hv : Rd w v pl) (hlen : pl.length ≤ 1000000) : Calls Tryz.prog 35 #[ptr b, .int .u64 k, u, v] w fun e w' => ∃ v', e = .returned (.tuple #[v', .int .i64 (S.seal k bd pl).1.2]) ∧ (∃ o', OrcAt w' o' b (S.seal k bd pl).2 ∧ Kp0 w' o' v' (S.seal k bd pl).1.1 ∧ Mv [1] w o w' o') ∧ ∀ k, v'.ownBlock = some k → w.heap.size ≤ k := by
  obtain ⟨ft, hr, ho⟩ := h
  refine (seal_any w b ft S hr (by have := hS.len; omega) k hk u bd hu v pl hv hlen).mono ?_
  rintro e w' ⟨v', rfl, hl⟩
  exact ⟨v', rfl, OrcAt.leftB ho hl hr.room, fun k hk => (hl.2.2.2 k hk).1⟩
theorem orc_seal9F {b j rb ob' : Nat} {r : Rg} (hO : OrcAt w o b S) (hR : RIs w o j rb ob' r) (hS : Ora S N) (hN : N ≤ 80000) {x y n : Int} (hk : U64 (keyM r.ks n).1) {v : Value} {pl : List Int} (hv : Rd w v pl) (hl : pl.length ≤ 1000000) :
    Calls Tryz.prog 9 #[ptr b, ptr rb, .int .i64 x, .int .i64 y, .int .i64 n, v] w fun e w' => ∃ v', e = .returned (.tuple #[v', .int .i64 (sealM S (keyM r.ks n) x y n pl).1.2]) ∧ (∃ o', OrcAt w' o' b (sealM S (keyM r.ks n) x y n pl).2 ∧ Kp0 w' o' v' (sealM S (keyM r.ks n) x y n pl).1.1 ∧ Mv [1] w o w' o') ∧ ∀ k, v'.ownBlock = some k → w.heap.size ≤ k := by
  have hKy := keyPf hR n
  generalize keyM r.ks n = kk at *
  unfold sealM
  cases hp : placeB x y n with
  | false =>
    rw [if_neg (by simp)]
    refine (seal9_bad w hp _ _ _).mono ?_
    rintro e w' ⟨rfl, hb⟩
    exact ⟨_, rfl, ⟨newTo o w 0, hO.below hb, kp0_nil _ _, Mv.of_below 0 hb⟩, fun k hk => by cases hk⟩
  | true =>
    rw [if_pos rfl]
    by_cases h0 : kk.2 = 0
    · rw [if_pos h0]
      rw [h0] at hKy
      refine (seal9_ok (Post := fun w1 v' k w' => k = (S.seal kk.1 (boundL x y n) pl).1.2 ∧ (∃ o', OrcAt w' o' b (S.seal kk.1 (boundL x y n) pl).2 ∧ Kp0 w' o' v' (S.seal kk.1 (boundL x y n) pl).1.1 ∧ Mv [1] w1 (newTo o w 0) w' o') ∧ ∀ k, v'.ownBlock = some k → w1.heap.size ≤ k) hp hKy (fun w' u hb hu => ?_)).mono ?_
      · refine (orc_sealF (hO.below hb) hS hN hk hu (hv.below hb) hl).mono ?_
        rintro e w'' ⟨v', rfl, h1, h2⟩
        exact ⟨v', _, rfl, rfl, h1, h2⟩
      · rintro e w' ⟨v', k, w1, rfl, hb, rfl, ⟨o', h1, h2, h3⟩, h4⟩
        exact ⟨v', rfl, ⟨o', h1, h2, (Mv.of_below (I := [1]) 0 hb).trans h3⟩, fun k hk => Nat.le_trans hb.size (h4 k hk)⟩
    · rw [if_neg h0]
      refine (seal9_no hp h0 hKy).mono ?_
      rintro e w' ⟨rfl, hb⟩
      exact ⟨_, rfl, ⟨newTo o w 0, hO.below hb, kp0_nil _ _, Mv.of_below 0 hb⟩, fun k hk => by cases hk⟩
theorem RI.os_next {R : Rn} {k : Nat} {p s : Int} {K : List Int} {O : List (List Int)} (h : RI R k p s K O) (hk : k < 20) : ∀ l ∈ (rnN R).A.os, l = [] := by
  have hb := h.begin (by omega)
  obtain ⟨a1, a2, a3⟩ := h.app hk
  have hws : (rnB R).c.ws = (rnB R).ws := by rw [a2]
  have hck : (rnB R).c.k = 3 := by rw [a2]
  have hnw : (nowM R.M.l).map (·.w) = [0] := by rw [h.m, nowM_one]; rfl
  have hua : unwM (rnB R).S R.A.w R.A.s (rnB R).c.ws = (R.S.fresh, 0) := by
    rw [hws, h.aw.1, h.aw.2]
    exact unw_in hb (n := 0) (by rw [hnw]; simp)
  have hf := (fresh_ok h.ora.good (by have := h.ora.len; omega)).1
  intro l hl
  unfold rnN learnP at hl
  dsimp only at hl
  rw [learnG_go ⟨a1, hck⟩ (by rw [h.a.kl, h.kl]; omega), hua] at hl
  dsimp only at hl
  have e1 : ¬ (R.A.ks ++ [R.S.fresh]).getD ((R.A.ks ++ [R.S.fresh]).length - 1) 0 = 0 := by
    rw [List.length_append]
    show ¬ (R.A.ks ++ [R.S.fresh]).getD (R.A.ks.length + 1 - 1) 0 = 0
    rw [Nat.add_sub_cancel, getD_snoc]
    exact hf
  unfold struck at hl
  rw [if_neg e1] at hl
  exact List.eq_of_mem_replicate hl
theorem RIs.reowner {o2 : Nat → Nat} {j rb ob : Nat} {r : Rg} (h : RIs w o j rb ob r) (hs : ∀ l ∈ r.os, l = []) (ho : ∀ k, o k = j → o2 k = j) : RIs w o2 j rb ob r := by
  obtain ⟨kv, ov, qs, hA, hq, hr⟩ := h
  exact ⟨kv, ov, qs, ⟨hA.blk, ho _ hA.own, hA.krow, fun k hk => ⟨ho _ (hA.kown k hk).1, (hA.kown k hk).2⟩, hA.orow, fun k hk => ⟨ho _ (hA.oown k hk).1, (hA.oown k hk).2⟩, hA.apart, fun q hq' => ⟨(hA.olds q hq').1, fun hne => absurd (hs q.2 (by rw [← hq]; exact List.mem_map.2 ⟨q, hq', rfl⟩)) hne⟩⟩, hq, hr⟩
theorem OrcAt.reowner {o2 : Nat → Nat} {b : Nat} (h : OrcAt w o b S) (ho : ∀ k, o k = 1 → o2 k = 1) : OrcAt w o2 b S := by
  obtain ⟨ft, hr, h1⟩ := h
  exact ⟨ft, hr, fun k hk => ho k (h1 k hk)⟩
structure Rs (w : World) (o : Nat → Nat) (p : Rp) (R : Rn) : Prop where
  blk : Blk w p.wb 42 (rcs p)
  own : o p.wb = 9
  orc : OrcAt w o p.ob R.S
  a : RIs w o 10 p.ra p.ob R.A
theorem Rs.mv {w' : World} {o' : Nat → Nat} {I : List Nat} {p : Rp} {R : Rn} (h : Rs w o p R) (m : Mv I w o w' o') (h0 : 0 ∉ I) (h1 : 1 ∉ I) (h9 : 9 ∉ I) (h10 : 10 ∉ I) : Rs w' o' p R :=
  ⟨h.blk.block (m.block _ h.blk.lt (by rw [h.own]; exact h9)), by rw [m.ext _ h.blk.lt]; exact h.own, h.orc.mv m h1, h.a.mv m h0 h10⟩
theorem Rs.other {W w' : World} {oq op op' : Nat → Nat} {q : Rp} {R : Rn} (h : Rs w oq q R) (hs : ∀ l ∈ R.A.os, l = []) (hW : W.heap.size ≤ w.heap.size) (hq : ∀ k, k < W.heap.size → oq k = 0) (hp : ∀ k, W.heap.size ≤ k → op k ≠ 1) (m : Mv [1] w op w' op') :
    ∃ o2, Rs w' o2 q R ∧ (∀ k, w.heap.size ≤ k → o2 k = 0) ∧ ∀ k, k < W.heap.size → o2 k ≠ 1 := by
  obtain ⟨o1, ho1⟩ : ∃ o1 : Nat → Nat, o1 = fun k => if op k = 1 then 99 else oq k := ⟨_, rfl⟩
  have hne : ∀ k, oq k ≠ 0 → op k ≠ 1 := fun k hk => by
    by_cases hlt : k < W.heap.size
    · exact absurd (hq k hlt) hk
    · exact hp k (by omega)
  have hsame : ∀ k j, j ≠ 0 → oq k = j → o1 k = j := fun k j hj hk => by
    rw [ho1]
    dsimp only
    rw [if_neg (hne k (by rw [hk]; exact hj)), hk]
  have h1 : Rs w o1 q R := ⟨h.blk, hsame _ 9 (by decide) h.own, h.orc.reowner (fun k hk => hsame k 1 (by decide) hk), h.a.reowner hs (fun k hk => hsame k 10 (by decide) hk)⟩
  have m2 : Mv [99] w o1 w' (newTo o1 w 0) := ⟨m.os, m.tape, m.output, m.size, fun k hk => newTo_old hk, fun k hk hn => m.block k hk (fun e => hn (by
    have e' : op k = 1 := by simpa using e
    rw [ho1]
    dsimp only
    rw [if_pos e']
    simp))⟩
  refine ⟨_, h1.mv m2 (by decide) (by decide) (by decide) (by decide), fun k hk => newTo_new hk, fun k hk => ?_⟩
  rw [newTo_old (Nat.lt_of_lt_of_le hk hW), ho1]
  dsimp only
  split
  · decide
  · rw [hq k hk]; decide
end
end Go.Proofs.YtjbpfhnagiacmaaGreat
