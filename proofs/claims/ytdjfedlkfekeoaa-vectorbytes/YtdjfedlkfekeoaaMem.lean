/-
  Blocks that a call laid, and slices of heads in memory: what a slice value reads as (RdH), a row of heads that the call itself made (OwnH), and append onto it.
-/
import Derived.Test.YtdjfedlkfekeoaaPut
import Derived.Test.YtdjfedlkfekeoaaVec
import Derived.Sort.Grow
import Derived.Deep.Draws
namespace Go.Proofs.Ytdjfedlkfekeoaa
set_option linter.unusedVariables false
set_option linter.unusedSimpArgs false
open Go.RowKit

/-- Block b holds the cells vs, of element type e. -/
def Blk (w : World) (b : Nat) (e : TypeId) (vs : List Value) : Prop := w.heap[b]? = some (.cells vs.toArray e (0, 0))
theorem Blk.lt {w : World} {b : Nat} {e : TypeId} {vs : List Value} (h : Blk w b e vs) : b < w.heap.size := (Array.getElem?_eq_some_iff.1 h).1
theorem Blk.cell {w : World} {b : Nat} {e : TypeId} {vs : List Value} (h : Blk w b e vs) (i : Nat) (v : Value) (hi : vs[i]? = some v) : w.cell? ⟨b, i, none⟩ = some v := by
  unfold Blk at h
  simp [World.cell?, h, hi]
theorem Blk.frozen {w : World} {b : Nat} {e : TypeId} {vs : List Value} (h : Blk w b e vs) (i : Nat) : w.frozen? ⟨b, i, none⟩ = false := by
  unfold Blk at h
  simp [World.frozen?, h]
theorem Blk.block {w w' : World} {b : Nat} {e : TypeId} {vs : List Value} (h : Blk w b e vs) (hb : w'.heap[b]? = w.heap[b]?) : Blk w' b e vs := hb.trans h
theorem Blk.below {w w' : World} {b : Nat} {e : TypeId} {vs : List Value} (h : Blk w b e vs) (hb : Below w.heap.size w w') : Blk w' b e vs := h.block (hb.block b h.lt)
theorem blk_new (w : World) (c : List Value) (e : TypeId) : Blk (w.alloc (.cells c.toArray e)) w.heap.size e c := heap_alloc_new w _
theorem Blk.alloc {w : World} {b : Nat} {e : TypeId} {vs : List Value} (h : Blk w b e vs) (o : Obj) : Blk (w.alloc o) b e vs := h.below ((Below.refl _ _).alloc (Nat.le_refl _) _)

/-- A head's value, and its cells. -/
def hv (h : H) : Value := .agg #[.int .i64 h.1, .int .i64 h.2.1, .int .u64 h.2.2]
def hc (h : H) : List Value := [.int .i64 h.1, .int .i64 h.2.1, .int .u64 h.2.2]
def csH (l : List H) : List Value := l.flatMap hc

theorem ret_bool {X Y : Bool} (h : X = true ↔ Y = true) : Ending.returned (.bool X) = .returned (.bool Y) := by rw [Bool.eq_iff_iff.2 h]

/-- The slice value v reads as the heads l in the world w. -/
def RdH (w : World) (v : Value) (l : List H) : Prop :=
  (∀ s ∈ l, HOk s) ∧ ∃ (a : Option Addr) (cap : Nat), v = .slice a l.length cap ∧ l.length ≤ cap ∧ cap ≤ maxLen ∧ (a = none → cap = 0) ∧
    (0 < l.length → ∃ b off, a = some ⟨b, off, none⟩ ∧ ∀ j, j < l.length → w.cell? ⟨b, off + j * 3, none⟩ = some (.int .i64 (l.getD j hz).1) ∧ w.cell? ⟨b, off + j * 3 + 1, none⟩ = some (.int .i64 (l.getD j hz).2.1) ∧ w.cell? ⟨b, off + j * 3 + 2, none⟩ = some (.int .u64 (l.getD j hz).2.2))

theorem rdH_nil (w : World) : RdH w (.slice none 0 0) [] := ⟨(fun _ h => by cases h), none, 0, rfl, Nat.le_refl _, Nat.zero_le _, fun _ => rfl, fun h => by simp at h⟩
theorem RdH.ok {w : World} {v : Value} {l : List H} (h : RdH w v l) (j : Nat) (hj : j < l.length) : HOk (l.getD j hz) := h.1 _ (by
  rw [List.getD_eq_getElem?_getD, List.getElem?_eq_getElem hj]
  exact List.getElem_mem hj)
theorem RdH.len {w : World} {v : Value} {l : List H} (h : RdH w v l) : ∃ a cap, v = .slice a l.length cap := ⟨h.2.choose, h.2.choose_spec.choose, h.2.choose_spec.choose_spec.1⟩
theorem RdH.cap {w : World} {a : Option Addr} {n cap : Nat} {l : List H} (h : RdH w (.slice a n cap) l) : n = l.length ∧ n ≤ cap ∧ cap ≤ 9223372036854775807 := by
  obtain ⟨ho, a', cap', e, h1, h2, h3, h4⟩ := h
  obtain ⟨rfl, rfl, rfl⟩ : a = a' ∧ n = l.length ∧ cap = cap' := by simpa using e
  exact ⟨rfl, h1, by unfold maxLen at h2; omega⟩
theorem RdH.kept {w w' : World} {v : Value} {l : List H} {r : Option Nat} (h : RdH w v l) (hg : w.grownBy w' r) (hne : ∀ k, r = some k → v.ownBlock ≠ some k) : RdH w' v l := by
  obtain ⟨ho, a, cap, rfl, h1, h2, h3, h4⟩ := h
  refine ⟨ho, a, cap, rfl, h1, h2, h3, fun hp => ?_⟩
  obtain ⟨b, off, rfl, hc⟩ := h4 hp
  refine ⟨b, off, rfl, fun j hj => ⟨?_, ?_, ?_⟩⟩
  · exact hg.cell (hc j hj).1 fun e => hne b e.symm rfl
  · exact hg.cell (hc j hj).2.1 fun e => hne b e.symm rfl
  · exact hg.cell (hc j hj).2.2 fun e => hne b e.symm rfl
theorem RdH.below {w w' : World} {v : Value} {l : List H} (h : RdH w v l) (hg : Below w.heap.size w w') : RdH w' v l := h.kept (below_grown hg) fun k e => by cases e
/-- The cells of one of them, behind whatever only makes memory. -/
theorem RdH.at {w w' : World} {a : Option Addr} {n cap : Nat} {l : List H} (h : RdH w (.slice a n cap) l) (hg : Below w.heap.size w w') (j : Nat) (hj : j < l.length) :
    ∃ b off, a = some ⟨b, off, none⟩ ∧ w'.cell? ⟨b, off + j * 3, none⟩ = some (.int .i64 (l.getD j hz).1) ∧ w'.cell? ⟨b, off + j * 3 + 1, none⟩ = some (.int .i64 (l.getD j hz).2.1) ∧ w'.cell? ⟨b, off + j * 3 + 2, none⟩ = some (.int .u64 (l.getD j hz).2.2) := by
  obtain ⟨ho, a', cap', e, h1, h2, h3, h4⟩ := h.below hg
  obtain ⟨rfl, _, _⟩ : a = a' ∧ n = l.length ∧ cap = cap' := by simpa using e
  obtain ⟨b, off, rfl, hc⟩ := h4 (by omega)
  exact ⟨b, off, rfl, hc j hj⟩
/-- Where it lies, in whatever world that only makes memory. -/
theorem RdH.all {w : World} {a : Option Addr} {n cap : Nat} {l : List H} (h : RdH w (.slice a n cap) l) (hp : 0 < l.length) :
    ∃ b off, a = some ⟨b, off, none⟩ ∧ b < w.heap.size ∧ ∀ w', Below w.heap.size w w' → ∀ j, j < l.length → w'.cell? ⟨b, off + j * 3, none⟩ = some (.int .i64 (l.getD j hz).1) ∧ w'.cell? ⟨b, off + j * 3 + 1, none⟩ = some (.int .i64 (l.getD j hz).2.1) ∧ w'.cell? ⟨b, off + j * 3 + 2, none⟩ = some (.int .u64 (l.getD j hz).2.2) := by
  obtain ⟨b, off, rfl, h0, _⟩ := h.at (Below.refl _ _) 0 hp
  refine ⟨b, off, rfl, World.block_lt_of_cell? w _ h0, fun w' hb j hj => ?_⟩
  obtain ⟨b', off', e, hc⟩ := h.at hb j hj
  cases e
  exact hc

theorem csH_length (l : List H) : (csH l).length = l.length * 3 := by
  induction l with
  | nil => rfl
  | cons s l ih => simp [csH, hc] at ih ⊢; omega
theorem csH_append (a b : List H) : csH (a ++ b) = csH a ++ csH b := by simp [csH]
theorem csH_cons (a : H) (b : List H) : csH (a :: b) = hc a ++ csH b := by simp [csH]
theorem csH_one (l : List H) : ∀ u ∈ csH l, u.oneCell' = true := fun u hu => by
  simp only [csH, List.mem_flatMap, hc] at hu
  obtain ⟨s, _, hs⟩ := hu
  simp at hs
  rcases hs with rfl | rfl | rfl <;> rfl
theorem csH_at : ∀ (l : List H) (j : Nat), j < l.length → (csH l)[j * 3]? = some (.int .i64 (l.getD j hz).1) ∧ (csH l)[j * 3 + 1]? = some (.int .i64 (l.getD j hz).2.1) ∧ (csH l)[j * 3 + 2]? = some (.int .u64 (l.getD j hz).2.2)
  | [], j, h => by simp at h
  | s :: l, 0, _ => by simp [csH, hc]
  | s :: l, j + 1, h => by
    have := csH_at l j (by simpa using h)
    simp only [csH, List.flatMap_cons, hc] at this ⊢
    rw [show (j + 1) * 3 = j * 3 + 3 by omega]
    simpa using this
/-- Cells that are told three by three are told one by one. -/
theorem cells_of {w : World} {b off : Nat} {l : List H} (hc : ∀ j, j < l.length → w.cell? ⟨b, off + j * 3, none⟩ = some (.int .i64 (l.getD j hz).1) ∧ w.cell? ⟨b, off + j * 3 + 1, none⟩ = some (.int .i64 (l.getD j hz).2.1) ∧ w.cell? ⟨b, off + j * 3 + 2, none⟩ = some (.int .u64 (l.getD j hz).2.2))
    (j : Nat) (u : Value) (hu : (csH l)[j]? = some u) : w.cell? ⟨b, off + j, none⟩ = some u := by
  have hj : j < l.length * 3 := by have := (List.getElem?_eq_some_iff.1 hu).1; rwa [csH_length] at this
  have hh := hc (j / 3) (by omega)
  have hk := csH_at l (j / 3) (by omega)
  have : j = j / 3 * 3 ∨ j = j / 3 * 3 + 1 ∨ j = j / 3 * 3 + 2 := by omega
  rcases this with r | r | r
  · rw [← r] at hk hh
    rw [hk.1] at hu
    cases hu
    exact hh.1
  · rw [← r] at hk
    rw [show off + j / 3 * 3 + 1 = off + j by omega] at hh
    rw [hk.2.1] at hu
    cases hu
    exact hh.2.1
  · rw [← r] at hk
    rw [show off + j / 3 * 3 + 2 = off + j by omega] at hh
    rw [hk.2.2] at hu
    cases hu
    exact hh.2.2

/-- A row of heads that the call itself made (blocks from B on), of which v shows the first ones, l. -/
def OwnH (B : Nat) (w : World) (v : Value) (l : List H) : Prop := (∀ s ∈ l, HOk s) ∧ w.ownsRow B 25 3 v l.length (csH l)
theorem ownH_nil (B : Nat) (w : World) : OwnH B w (.slice none 0 0) [] := ⟨(fun _ h => by cases h), World.ownsRow_nil _ _ _ _⟩
theorem OwnH.rd {B : Nat} {w : World} {v : Value} {l : List H} (h : OwnH B w v l) : RdH w v l := by
  obtain ⟨ho, h1, h2⟩ := h
  refine ⟨ho, ?_⟩
  rcases h2 with ⟨rfl, hn⟩ | ⟨g, cap, cur, rfl, hb, hg, hn, hc, hs, ht⟩
  · have : l = [] := List.eq_nil_of_length_eq_zero hn
    subst this
    exact ⟨none, 0, rfl, Nat.le_refl _, Nat.zero_le _, fun _ => rfl, fun h => by simp at h⟩
  · refine ⟨some ⟨g, 0, none⟩, cap, rfl, hn, hc, (fun h => by cases h), fun _ => ⟨g, 0, rfl, fun j hj => ?_⟩⟩
    have hown : w.ownsRow B 25 3 (.slice (some ⟨g, 0, none⟩) l.length cap) l.length (csH l) := ⟨h1, .inr ⟨g, cap, cur, rfl, hb, hg, hn, hc, hs, ht⟩⟩
    have k0 := hown.cells (g := g) rfl (j * 3) _ (csH_at l j hj).1
    have k1 := hown.cells (g := g) rfl (j * 3 + 1) _ (csH_at l j hj).2.1
    have k2 := hown.cells (g := g) rfl (j * 3 + 2) _ (csH_at l j hj).2.2
    rw [Addr.add_lit] at k0 k1 k2
    exact ⟨by simpa using k0, by simpa using k1, by simpa using k2⟩
/-- Enough that its own block stands. -/
theorem OwnH.block {B : Nat} {w w' : World} {v : Value} {l : List H} (h : OwnH B w v l) (hb : ∀ k, v.ownBlock = some k → w'.heap[k]? = w.heap[k]?) : OwnH B w' v l := by
  obtain ⟨ho, h1, h2⟩ := h
  refine ⟨ho, h1, ?_⟩
  rcases h2 with ⟨rfl, hn⟩ | ⟨g, cap, cur, rfl, hB, hg, hn, hc, hs, ht⟩
  · exact .inl ⟨rfl, hn⟩
  · exact .inr ⟨g, cap, cur, rfl, hB, by rw [hb g rfl]; exact hg, hn, hc, hs, ht⟩
theorem OwnH.lt {B : Nat} {w : World} {v : Value} {l : List H} (h : OwnH B w v l) (k : Nat) (hk : v.ownBlock = some k) : B ≤ k ∧ k < w.heap.size := h.2.lt k hk
theorem OwnH.below {B : Nat} {w w' : World} {v : Value} {l : List H} (h : OwnH B w v l) (hb : Below w.heap.size w w') : OwnH B w' v l := h.block fun k hk => hb.block k (h.lt k hk).2
theorem OwnH.past {B b : Nat} {w w' : World} {v : Value} {l : List H} (h : OwnH B w v l) (hg : w.grownBy w' (some b)) (hb : b < B) : OwnH B w' v l :=
  h.block fun k hk => hg.block k (h.lt k hk).2 (fun e => by have := (h.lt k hk).1; have := Option.some.inj e; omega)
theorem OwnH.lower {B B' : Nat} {w : World} {v : Value} {l : List H} (h : OwnH B w v l) (hB : B' ≤ B) : OwnH B' w v l := by
  obtain ⟨h0, h1, h2⟩ := h
  refine ⟨h0, h1, ?_⟩
  rcases h2 with h2 | ⟨g, cap, cur, rfl, hb, hg, hn, hc, hs, ht⟩
  · exact .inl h2
  · exact .inr ⟨g, cap, cur, rfl, Nat.le_trans hB hb, hg, hn, hc, hs, ht⟩

theorem rdH_one (w : World) (s : H) (hs : HOk s) : RdH (w.alloc (.cells #[.int .i64 s.1, .int .i64 s.2.1, .int .u64 s.2.2] 25)) (.slice (some ⟨w.heap.size, 0, none⟩) 1 1) [s] := by
  refine ⟨fun x hx => by simp at hx; rw [hx]; exact hs, some ⟨w.heap.size, 0, none⟩, 1, rfl, Nat.le_refl _, by unfold maxLen; omega, (fun h => by cases h), fun _ => ⟨w.heap.size, 0, rfl, fun j hj => ?_⟩⟩
  have : j = 0 := by simp at hj; omega
  subst this
  have X := blk_new w [.int .i64 s.1, .int .i64 s.2.1, .int .u64 s.2.2] 25
  exact ⟨X.cell 0 _ rfl, X.cell 1 _ rfl, X.cell 2 _ rfl⟩

theorem rdH_one' (w : World) (s : H) (b : Nat) (hs : HOk s) (hb : b = w.heap.size) : RdH (w.alloc (.cells #[.int .i64 s.1, .int .i64 s.2.1, .int .u64 s.2.2] 25)) (.slice (some ⟨b, 0, none⟩) 1 1) [s] := by
  subst hb
  exact rdH_one w s hs

theorem infoH : ∃ i, Try.prog.info? 25 = some i ∧ i.zero = some (.agg #[.int .i64 0, .int .i64 0, .int .u64 0]) ∧ i.size = 3 ∧ i.bytes = 24 := by
  have h : (Try.prog.info? 25).map (fun i => (i.zero, i.size, i.bytes)) = some (some (.agg #[.int .i64 0, .int .i64 0, .int .u64 0]), 3, 24) := by kernel_rfl
  obtain ⟨i, hi, h1, h2, h3⟩ := info_parts h
  exact ⟨i, hi, h1, h2, h3⟩

section
variable {w : World} {ops : Array Oper} {rest : List Oper} {o : Oper} {a : Act} {Q : Exit → Act → World → Prop}
/-- 'append(out, x..)' of heads that are read anywhere, onto a row that the call made. -/
theorem wpList_append_heads (t : TypeId) (ht : Try.prog.underlying t = some (.slice 25)) (hgd : o.guard = none) (s x : Operand)
    (ho : o.op = .call { callee := .builtin .append, args := #[s, x], argTypes := #[t, t] })
    (B : Nat) (v : Value) (l : List H) (hs : a.eval s = v) (hown : OwnH B w v l)
    (y : Value) (m : List H) (hx : a.eval x = y) (hm : RdH w y m) (hlen : (l.length + m.length) * 24 ≤ 140737488355328) (hbase : B ≤ w.heap.size)
    (h : ∀ v' w', OwnH B w' v' (l ++ m) → w.grownBy w' v.ownBlock → wpList Try.prog ops Q rest (a.put o.dst v') w') : wpList Try.prog ops Q (o :: rest) a w := by
  obtain ⟨hoct, ad, c, rfl, h1, h2, h3, h4⟩ := hm
  obtain ⟨i, hi, hz, hs1, hs2⟩ := infoH
  have hmax : l.length + m.length ≤ maxLen := by unfold maxLen; omega
  have hall : ∀ s ∈ l ++ m, HOk s := fun s hs => by
    rcases List.mem_append.1 hs with r | r
    · exact hown.1 s r
    · exact hoct s r
  rcases Nat.eq_zero_or_pos m.length with h0 | hp
  · have : m = [] := List.eq_nil_of_length_eq_zero h0
    subst this
    cases ad with
    | none =>
      have := h3 rfl
      subst this
      have hrun := run_append_owned_none (P := Try.prog) w B t o.type 25 i 3 ht hi v _ _ hown.2
      refine wpList_plain hgd fun K hK => ?_
      unfold Oper.wp
      simp [execOp, ho, resolve, invoke, builtin, hs, hx, hrun, Result.andThen]
      exact hK _ _ (h v w (by simpa using hown) (grown_refl _ _))
    | some ad =>
      refine wpList_append_own w hgd s x t ho B 25 i (.agg #[.int .i64 0, .int .i64 0, .int .u64 0]) 3 24 ht hi hz hs1 hs2 rfl (by decide) v l.length (csH l) hs hown.2 ad 0 c [] hx (by simp) (fun j u hu => by simp at hu) (fun u hu => by cases hu)
        (by simpa using hmax) (by simpa using hlen) hbase ?_
      intro v' w' ho' hg _
      exact h v' w' ⟨hall, by simpa using ho'⟩ hg
  · obtain ⟨b, off, rfl, hc⟩ := h4 hp
    refine wpList_append_own w hgd s x t ho B 25 i (.agg #[.int .i64 0, .int .i64 0, .int .u64 0]) 3 24 ht hi hz hs1 hs2 rfl (by decide) v l.length (csH l) hs hown.2 ⟨b, off, none⟩ m.length c (csH m) hx (csH_length m) (fun j u hu => ?_) (csH_one m)
      hmax hlen hbase ?_
    · rw [Addr.add_lit]
      exact cells_of hc j u hu
    · intro v' w' ho' hg _
      exact h v' w' ⟨hall, by rw [csH_append, List.length_append]; exact ho'⟩ hg
end
end Go.Proofs.Ytdjfedlkfekeoaa
