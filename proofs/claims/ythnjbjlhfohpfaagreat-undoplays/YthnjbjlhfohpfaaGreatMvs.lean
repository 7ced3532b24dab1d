/-
  Owners of blocks: who may write which block; what a step turns (Mv); bytes that stay (Kp0). Where append leaves a row.
-/
import Derived.Test.YthnjbjlhfohpfaaGreatTurn
import Derived.WalkSmall
import Derived.Laws.OwnMore
import Derived.Laws.MakeOwn
namespace Go.Proofs.YthnjbjlhfohpfaaGreat
section
set_option linter.unusedVariables false
set_option linter.unusedSimpArgs false
set_option synthInstance.maxSize 20000
set_option maxHeartbeats 2000000
set_option maxRecDepth 20000
open Go.RowKit Go.Maps

/-- From w to w' only blocks of the owners I were written; new blocks have owners, too. Owner 0: what stays. -/
structure Mv (I : List Nat) (w : World) (o : Nat → Nat) (w' : World) (o' : Nat → Nat) : Prop where
  os : w'.os = w.os
  tape : w'.tape = w.tape
  output : w'.output = w.output
  size : w.heap.size ≤ w'.heap.size
  ext : ∀ k, k < w.heap.size → o' k = o k
  block : ∀ k, k < w.heap.size → o k ∉ I → w'.heap[k]? = w.heap[k]?

/-- New blocks have the owners that f tells. -/
def newBy (o : Nat → Nat) (w : World) (f : Nat → Nat) : Nat → Nat := fun k => if k < w.heap.size then o k else f k
theorem newBy_old {o f : Nat → Nat} {w : World} {k : Nat} (h : k < w.heap.size) : newBy o w f k = o k := if_pos h
theorem newBy_new {o f : Nat → Nat} {w : World} {k : Nat} (h : w.heap.size ≤ k) : newBy o w f k = f k := if_neg (by omega)
/-- New blocks are j's. -/
def newTo (o : Nat → Nat) (w : World) (j : Nat) : Nat → Nat := fun k => if k < w.heap.size then o k else j
theorem newTo_old {o : Nat → Nat} {w : World} {j k : Nat} (h : k < w.heap.size) : newTo o w j k = o k := if_pos h
theorem newTo_new {o : Nat → Nat} {w : World} {j k : Nat} (h : w.heap.size ≤ k) : newTo o w j k = j := if_neg (by omega)

theorem Mv.refl (I : List Nat) (w : World) (o : Nat → Nat) : Mv I w o w o := ⟨rfl, rfl, rfl, Nat.le_refl _, fun _ _ => rfl, fun _ _ _ => rfl⟩
theorem Mv.trans {I : List Nat} {w w1 w2 : World} {o o1 o2 : Nat → Nat} (h : Mv I w o w1 o1) (h1 : Mv I w1 o1 w2 o2) : Mv I w o w2 o2 :=
  ⟨h1.os.trans h.os, h1.tape.trans h.tape, h1.output.trans h.output, Nat.le_trans h.size h1.size, fun k hk => (h1.ext k (Nat.lt_of_lt_of_le hk h.size)).trans (h.ext k hk),
    fun k hk hn => (h1.block k (Nat.lt_of_lt_of_le hk h.size) (by rw [h.ext k hk]; exact hn)).trans (h.block k hk hn)⟩
theorem Mv.widen {I J : List Nat} {w w' : World} {o o' : Nat → Nat} (h : Mv I w o w' o') (hIJ : ∀ i ∈ I, i ∈ J) : Mv J w o w' o' := ⟨h.os, h.tape, h.output, h.size, h.ext, fun k hk hn => h.block k hk (fun e => hn (hIJ _ e))⟩
theorem Mv.of_turn' {I ft : List Nat} {w w' : World} {o : Nat → Nat} (f : Nat → Nat) (h : Turn ft w w') (hf : ∀ k ∈ ft, k < w.heap.size → o k ∈ I) : Mv I w o w' (newBy o w f) :=
  ⟨h.os, h.tape, h.output, h.size, fun k hk => newBy_old hk, fun k hk hn => h.block k hk (fun e => hn (hf k e hk))⟩
theorem Mv.of_turn {I ft : List Nat} {w w' : World} {o : Nat → Nat} (j : Nat) (h : Turn ft w w') (hf : ∀ k ∈ ft, k < w.heap.size → o k ∈ I) : Mv I w o w' (newTo o w j) :=
  ⟨h.os, h.tape, h.output, h.size, fun k hk => newTo_old hk, fun k hk hn => h.block k hk (fun e => hn (hf k e hk))⟩
theorem Mv.of_below {I : List Nat} {w w' : World} {o : Nat → Nat} (j : Nat) (h : Below w.heap.size w w') : Mv I w o w' (newTo o w j) := Mv.of_turn (ft := []) j (Turn.of_below h) (fun k hk => by cases hk)
theorem Mv.below {I : List Nat} {w w' : World} {o o' : Nat → Nat} {B : Nat} (h : Mv I w o w' o') (hB : B ≤ w.heap.size) (hI : ∀ k, k < B → o k ∉ I) : Below B w w' :=
  ⟨h.os, h.tape, h.output, h.size, fun k hk => h.block k (by omega) (hI k hk)⟩

/-- The blocks that may have been written. -/
def wr (I : List Nat) (w : World) (o : Nat → Nat) : List Nat := (List.range w.heap.size).filter (fun k => decide (o k ∈ I))
theorem mem_wr {I : List Nat} {w : World} {o : Nat → Nat} {k : Nat} (h : k ∈ wr I w o) : k < w.heap.size ∧ o k ∈ I := by
  unfold wr at h
  rw [List.mem_filter, List.mem_range] at h
  exact ⟨h.1, of_decide_eq_true h.2⟩
theorem Mv.turn {I : List Nat} {w w' : World} {o o' : Nat → Nat} (h : Mv I w o w' o') : Turn (wr I w o) w w' :=
  ⟨h.os, h.tape, h.output, h.size, fun k hk hn => h.block k hk (fun e => hn (by unfold wr; rw [List.mem_filter, List.mem_range]; exact ⟨hk, decide_eq_true e⟩))⟩

/-- Bytes that are read, and stay. -/
def Kp0 (w : World) (o : Nat → Nat) (v : Value) (l : List Int) : Prop := Rd w v l ∧ (l ≠ [] → ∀ k, v.ownBlock = some k → o k = 0)
theorem kp0_nil (w : World) (o : Nat → Nat) : Kp0 w o (.slice none 0 0) [] := ⟨rd_nil w, fun h => absurd rfl h⟩
theorem Rd.blockLt {w : World} {v : Value} {l : List Int} (h : Rd w v l) (hl : l ≠ []) : ∀ k, v.ownBlock = some k → k < w.heap.size := by
  obtain ⟨ho', a, cap, rfl, h1, h2, h3, h4⟩ := h
  have hp : 0 < l.length := by cases l with
    | nil => exact absurd rfl hl
    | cons x l => simp
  obtain ⟨b, off, rfl, hc⟩ := h4 hp
  intro k hk
  have h9 : b < w.heap.size := World.block_lt_of_cell? w _ (hc 0 hp)
  simp [Value.ownBlock] at hk
  omega
theorem Rd.blocks {w w' : World} {v : Value} {l : List Int} (h : Rd w v l) (hb : l ≠ [] → ∀ k, v.ownBlock = some k → k < w.heap.size → w'.heap[k]? = w.heap[k]?) : Rd w' v l := by
  have hlt := h.blockLt
  obtain ⟨ho', a, cap, rfl, h1, h2, h3, h4⟩ := h
  refine ⟨ho', a, cap, rfl, h1, h2, h3, fun hp => ?_⟩
  have hl : l ≠ [] := fun e => by subst e; simp at hp
  obtain ⟨b, off, rfl, hc⟩ := h4 hp
  refine ⟨b, off, rfl, fun j hj => ?_⟩
  rw [World.cell?_of_block (hb hl b rfl (hlt hl b rfl))]
  exact hc j hj
theorem Kp0.mv {I : List Nat} {w w' : World} {o o' : Nat → Nat} {v : Value} {l : List Int} (h : Kp0 w o v l) (m : Mv I w o w' o') (h0 : 0 ∉ I) : Kp0 w' o' v l := by
  refine ⟨h.1.blocks (fun hl k hk hlt => m.block k hlt (by rw [h.2 hl k hk]; exact h0)), fun hl k hk => ?_⟩
  rw [m.ext k (h.1.blockLt hl k hk)]
  exact h.2 hl k hk
/-- New bytes. -/
theorem Kp0.of_new {w w1 w' : World} {o : Nat → Nat} {v : Value} {l : List Int} {B : Nat} (ho : Own B 5 w' v l) (hB : w.heap.size ≤ B) : Kp0 w' (newTo o w 0) v l :=
  ⟨ho.rd, fun _ k hk => newTo_new (Nat.le_trans hB (ho.2.lt k hk).1)⟩


theorem ownsRow_block {w w' : World} {base : Nat} {e : TypeId} {size : Nat} {v : Value} {n : Nat} {xs : List Value} (h : w.ownsRow base e size v n xs) (hb : ∀ k, v.ownBlock = some k → w'.heap[k]? = w.heap[k]?) : w'.ownsRow base e size v n xs := by
  obtain ⟨h1, h2⟩ := h
  refine ⟨h1, ?_⟩
  rcases h2 with h2 | ⟨g, cap, cur, rfl, h3, h4, h5⟩
  · exact .inl h2
  · exact .inr ⟨g, cap, cur, rfl, h3, by rw [hb g rfl]; exact h4, h5⟩
theorem slice_of_own {w : World} {base : Nat} {e : TypeId} {size : Nat} {v : Value} {n : Nat} {xs : List Value} (h : w.ownsRow base e size v n xs) : ∃ a cap, v = .slice a n cap ∧ n ≤ cap ∧ cap ≤ 9223372036854775807 := by
  rcases h with ⟨h1, ⟨rfl, rfl⟩ | ⟨g, cap, cur, rfl, h3, h4, h5, h6, _⟩⟩
  · exact ⟨none, 0, rfl, Nat.le_refl _, by omega⟩
  · exact ⟨_, cap, rfl, h5, h6⟩
theorem Rd.drew {w : World} {v : Value} {l : List Int} (h : Rd w v l) : Rd w.drew v l := h

theorem run_append_where {P : Program} (w : World) (base : Nat) (t ty e : TypeId) (i : TypeInfo) (z : Value) (size bytes : Nat) (ht : P.underlying t = some (.slice e)) (hi : P.info? e = some i) (hz : i.zero = some z)
    (hsize : i.size = size) (hby : i.bytes = bytes) (hzs : z.cells.size = size) (hsz : 0 < size)
    (v : Value) (n : Nat) (xs : List Value) (hown : w.ownsRow base e size v n xs)
    (a : Addr) (m c : Nat) (news : List Value) (hl : news.length = m * size) (hnews : ∀ j u, news[j]? = some u → w.cell? (a.add j) = some u) (h1 : ∀ u ∈ news, u.oneCell' = true)
    (h63 : n + m ≤ maxLen) (hbytes : (n + m) * bytes ≤ 140737488355328) (hbase : base ≤ w.heap.size) :
    ∃ v' w', (Builtin.append_ #[t, t] ty #[v, .slice (some a) m c]).run P w = .ok v' w' ∧ w'.ownsRow base e size v' (n + m) (xs ++ news) ∧ w.grownBy w' v.ownBlock ∧ (∀ k, v'.ownBlock = some k → v.ownBlock = some k ∨ w.heap.size ≤ k) := by
  obtain ⟨v', w', hr, h2, h3, h4⟩ := run_append_own (P := P) w base t ty e i z size bytes ht hi hz hsize hby hzs hsz v n xs hown a m c news hl hnews h1 h63 hbytes hbase
  refine ⟨v', w', hr, h2, h3, ?_⟩
  subst hsize
  subst hby
  have hsmall : n + m ≤ 9223372036854775807 := by simp only [maxLen] at h63; omega
  rcases hown.2 with ⟨rfl, rfl⟩ | ⟨g, cap, cur, rfl, hbg, hg, hnc, hcm, hcs, htake⟩
  · by_cases hm : m = 0
    · have := h4.2 ⟨rfl, hm⟩
      subst this
      intro k hk
      simp [Value.ownBlock] at hk
    · have hr2 := run_append_nil (P := P) w t ty e i z ht hi hz a m c news hl hnews (by omega) (by omega) (by have hb := hbytes; simp only [Nat.zero_add] at hb; omega)
      rw [hr] at hr2
      cases hr2
      intro k hk
      simp [Value.ownBlock] at hk
      exact .inr (by omega)
  · by_cases hroom : n + m ≤ cap
    · have hfit : n * i.size + news.length ≤ cur.size := by rw [hl, hcs, ← Nat.add_mul]; exact Nat.mul_le_mul_right _ hroom
      have hr2 := run_append_room (P := P) w t ty e i ht hi g n cap cur hg a m c news hl hnews h1 hroom hfit
      rw [hr] at hr2
      cases hr2
      intro k hk
      exact .inl hk
    · have holds : ∀ j u, xs[j]? = some u → w.cell? ((⟨g, 0, none⟩ : Addr).add j) = some u := hown.cells (g := g) rfl
      have hr2 := run_append_grow (P := P) w t ty e i z ht hi hz ⟨g, 0, none⟩ n cap xs hown.1 holds a m c news hl hnews (by omega) (by omega) (growslice_fits (by omega) hbytes)
      rw [hr] at hr2
      cases hr2
      intro k hk
      simp [Value.ownBlock] at hk
      exact .inr (by omega)

theorem Blk.past {w w' : World} {b c : Nat} {e : TypeId} {vs : List Value} (h : Blk w b e vs) (hg : w.grownBy w' (some c)) (hne : b ≠ c) : Blk w' b e vs := h.block (hg.block b h.lt (fun e => hne (Option.some.inj e)))
theorem Blk.past' {w w' : World} {b : Nat} {e : TypeId} {vs : List Value} {r : Option Nat} (h : Blk w b e vs) (hg : w.grownBy w' r) (hne : r ≠ some b) : Blk w' b e vs := h.block (hg.block b h.lt (fun e => hne e.symm))
theorem turn_grown {w w' : World} {r : Option Nat} (h : w.grownBy w' r) : Turn r.toList w w' := ⟨h.os, h.tape, h.output, h.size, fun k hk hn => h.block k hk (fun e => hn (by rw [← e]; simp))⟩

/-- An owner that has no block yet. -/
theorem fresh_owner (w : World) (o : Nat → Nat) (j : Nat) : ∃ c, 1 < c ∧ j < c ∧ ∀ k, k < w.heap.size → o k ≠ c := by
  have key : ∀ n : Nat, ∃ c, 1 < c ∧ j < c ∧ ∀ k, k < n → o k < c := by
    intro n
    induction n with
    | zero => exact ⟨j + 2, by omega, by omega, fun k hk => by omega⟩
    | succ n ih =>
      obtain ⟨c, h1, h2, h3⟩ := ih
      refine ⟨max c (o n + 1), by omega, by omega, fun k hk => ?_⟩
      by_cases e : k = n
      · subst e; omega
      · have := h3 k (by omega); omega
  obtain ⟨c, h1, h2, h3⟩ := key w.heap.size
  exact ⟨c, h1, h2, fun k hk e => by have := h3 k hk; omega⟩
theorem Mv.restrict {I : List Nat} {c : Nat} {w w' : World} {o o' : Nat → Nat} (h : Mv (c :: I) w o w' o') (hc : ∀ k, k < w.heap.size → o k ≠ c) : Mv I w o w' o' :=
  ⟨h.os, h.tape, h.output, h.size, h.ext, fun k hk hn => h.block k hk (fun e => by
    rcases List.mem_cons.1 e with r | r
    · exact hc k hk r
    · exact hn r)⟩
theorem own_past {B : Nat} {e : TypeId} {w w' : World} {v : Value} {l : List Int} {c : Nat} (h : Own B e w v l) (hc : c < B) (hg : w.grownBy w' (some c)) : Own B e w' v l :=
  ⟨h.1, ownsRow_block h.2 (fun k hk => hg.block k (h.2.lt k hk).2 (fun e => by have := (h.2.lt k hk).1; have := Option.some.inj e; omega))⟩


end
end Go.Proofs.YthnjbjlhfohpfaaGreat
