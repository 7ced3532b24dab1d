/-
  SealingBack, the walk.
-/
import Derived.Test.YtjbpfhnagiacmaaGreatAlvT
import Derived.Test.YtjbpfhnagiacmaaGreatArgsS
namespace Go.Proofs.YtjbpfhnagiacmaaGreat
set_option linter.unusedVariables false
set_option linter.unusedSimpArgs false
set_option synthInstance.maxSize 20000
set_option maxHeartbeats 2000000
set_option maxRecDepth 20000
open Go.RowKit Go.Maps

/-- What the law has in memory: a room, two places. -/
structure BkS (W1 w : World) (o : Nat → Nat) (p : Rp) (S : St) (A X : Rg) (pb qb : Nat) (x y n a b c : Int) : Prop where
  blk : Blk w p.wb 42 (rcs p)
  own : o p.wb = 9
  orc : OrcAt w o p.ob S
  ra : RIs w o 10 p.ra p.ob A
  rx : RIs w o 11 p.rx p.ob X
  pB : Blk w pb 24 [.int .i64 x, .int .i64 y, .int .i64 n]
  pO : o pb = 0
  qB : Blk w qb 24 [.int .i64 a, .int .i64 b, .int .i64 c]
  qO : o qb = 0
  bel : Below W1.heap.size W1 w
  low : ∀ k, k < W1.heap.size → o k = 0
section
variable {W1 w w' : World} {o o' : Nat → Nat} {p : Rp} {S S' : St} {A X : Rg} {pb qb : Nat} {x y n a b c : Int} {I : List Nat}
theorem BkS.mv (h : BkS W1 w o p S A X pb qb x y n a b c) (m : Mv I w o w' o') (hI : ∀ i ∈ I, 11 < i) : BkS W1 w' o' p S A X pb qb x y n a b c := by
  have hn : ∀ j, j ≤ 11 → j ∉ I := fun j hj e => by have := hI j e; omega
  exact ⟨h.blk.block (m.block _ h.blk.lt (by rw [h.own]; exact hn 9 (by decide))), by rw [m.ext _ h.blk.lt]; exact h.own, h.orc.mv m (hn 1 (by decide)), h.ra.mv m (hn 0 (by decide)) (hn 10 (by decide)), h.rx.mv m (hn 0 (by decide)) (hn 11 (by decide)),
    h.pB.block (m.block _ h.pB.lt (by rw [h.pO]; exact hn 0 (by decide))), by rw [m.ext _ h.pB.lt]; exact h.pO, h.qB.block (m.block _ h.qB.lt (by rw [h.qO]; exact hn 0 (by decide))), by rw [m.ext _ h.qB.lt]; exact h.qO,
    h.bel.trans (m.below h.bel.size (fun k hk => by rw [h.low k hk]; exact hn 0 (by decide))), fun k hk => by rw [m.ext k (Nat.lt_of_lt_of_le hk h.bel.size)]; exact h.low k hk⟩
theorem BkS.below (h : BkS W1 w o p S A X pb qb x y n a b c) (hb : Below w.heap.size w w') (j : Nat) : BkS W1 w' (newTo o w j) p S A X pb qb x y n a b c := h.mv (Mv.of_below (I := []) j hb) (by simp)
theorem BkS.orcS (h : BkS W1 w o p S A X pb qb x y n a b c) (m : Mv [1] w o w' o') (hO : OrcAt w' o' p.ob S') : BkS W1 w' o' p S' A X pb qb x y n a b c :=
  ⟨h.blk.block (m.block _ h.blk.lt (by rw [h.own]; decide)), by rw [m.ext _ h.blk.lt]; exact h.own, hO, h.ra.mv m (by decide) (by decide), h.rx.mv m (by decide) (by decide),
    h.pB.block (m.block _ h.pB.lt (by rw [h.pO]; decide)), by rw [m.ext _ h.pB.lt]; exact h.pO, h.qB.block (m.block _ h.qB.lt (by rw [h.qO]; decide)), by rw [m.ext _ h.qB.lt]; exact h.qO,
    h.bel.trans (m.below h.bel.size (fun k hk => by rw [h.low k hk]; decide)), fun k hk => by rw [m.ext k (Nat.lt_of_lt_of_le hk h.bel.size)]; exact h.low k hk⟩
end
/-- A block of the law's own is written. -/
theorem mv_put {w w' : World} {o : Nat → Nat} {b j : Nat} (h : w.grownBy w' (some b)) (ho : o b = j) : Mv [j] w o w' (newTo o w 0) := Mv.of_turn 0 (turn_grown h) (fun k hk _ => by
  simp at hk
  subst hk
  rw [ho]; simp)
/-- By numbers alone. -/
theorem back_num {R : Rn} {p0 s0 : Int} {K : List Int} {O : List (List Int)} (h : RI R 3 p0 s0 K O) {x y n a b c : Int} (hn : 0 ≤ n ∧ n ≤ 2) (ha : I64 a) (hb : I64 b) (hc : I64 c) {tl : List Int} (ho : Oct tl) (hl : tl.length ≤ 1500) :
    ∃ (k : Int) (bs : List Int) (S2 : St), U64 (keyM R.A.ks n).1 ∧ sealM R.S (keyM R.A.ks n) x y n tl = ((bs, k), S2) ∧ Ora S2 100 ∧ (k ≠ 0 → bs = []) ∧ (k = 0 → openM S2 (keyM R.A.ks n) (entP x y n bs) = (tl, 0) ∧ (openM S2 (keyM R.X.ks n) (entP x y n bs)).2 = 11 ∧ ((openM S2 (keyM R.A.ks c) (entP a b c bs)).2 == 0) = decide (a = x ∧ b = y ∧ c = n)) := by
  have hora : Ora R.S 16 := h.ora
  have hkn := h.keyN n
  have hS2 := sealM_ora hora (by omega) hkn.2 x y n ho (by omega)
  refine ⟨(sealM R.S (keyM R.A.ks n) x y n tl).1.2, (sealM R.S (keyM R.A.ks n) x y n tl).1.1, (sealM R.S (keyM R.A.ks n) x y n tl).2, hkn.1, rfl, hS2.le (by omega), sealM_nil, fun e => ?_⟩
  obtain ⟨h1, h2, h3, h4⟩ := sealM_ok e hkn.2
  rw [h4]
  dsimp only
  have hob := open_back hora (by omega) h2 (hkn.2 h2) (pl := tl) h1
  refine ⟨hob, ?_, ?_⟩
  · obtain ⟨i, hi⟩ : ∃ i : Nat, n = i := ⟨n.toNat, by omega⟩
    have hr := entP_right (b := boxOf R.S.fresh (zerosOf tl)) h1 (by rw [boxOf_length]; have := zeros_le tl; omega)
    rw [hi, h.keyX (i := i) (by omega), ← hi]
    unfold openM
    rw [if_pos hr, if_neg (by show ¬ n = -1; omega), if_neg (by decide)]
  · by_cases hq : a = x ∧ b = y ∧ c = n
    · obtain ⟨e1, e2, e3⟩ := hq
      subst e1 e2 e3
      rw [hob]
      simp
    · have := open_else hora (by omega) (k0 := (keyM R.A.ks n).1) (kk := keyM R.A.ks c) (pl := tl) h1 ha hb hc hq
      rw [decide_eq_false hq]
      simpa using this
end Go.Proofs.YtjbpfhnagiacmaaGreat
