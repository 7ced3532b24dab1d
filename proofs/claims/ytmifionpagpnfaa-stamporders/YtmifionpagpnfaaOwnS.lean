/-
  A row of stamps that the call itself made, and append onto it.
-/
import Derived.Test.YtmifionpagpnfaaMem
namespace Go.Proofs.Ytmifionpagpnfaa
set_option linter.unusedVariables false
open Go.RowKit

theorem csS_length (l : List S) : (csS l).length = l.length * 2 := by
  induction l with
  | nil => rfl
  | cons s l ih => simp [csS, sc] at ih ⊢; omega
theorem csS_append (a b : List S) : csS (a ++ b) = csS a ++ csS b := by simp [csS]
theorem csS_one (l : List S) : ∀ u ∈ csS l, u.oneCell' = true := fun u hu => by
  simp only [csS, List.mem_flatMap, sc] at hu
  obtain ⟨s, _, hs⟩ := hu
  simp at hs
  rcases hs with rfl | rfl <;> rfl
theorem csS_at : ∀ (l : List S) (j : Nat), j < l.length → (csS l)[j * 2]? = some (.int .i64 (l.getD j (0, 0)).1) ∧ (csS l)[j * 2 + 1]? = some (.int .i64 (l.getD j (0, 0)).2)
  | [], j, h => by simp at h
  | s :: l, 0, _ => by simp [csS, sc]
  | s :: l, j + 1, h => by
    have := csS_at l j (by simpa using h)
    simp only [csS, List.flatMap_cons, sc] at this ⊢
    rw [show (j + 1) * 2 = j * 2 + 2 by omega]
    simpa using this

/-- A row of stamps that the call itself made (blocks from B on), of which v shows the first ones, l. -/
def OwnS (B : Nat) (w : World) (v : Value) (l : List S) : Prop := (∀ s ∈ l, SOk s) ∧ w.ownsRow B 23 2 v l.length (csS l)
theorem ownS_nil (B : Nat) (w : World) : OwnS B w (.slice none 0 0) [] := ⟨(fun _ h => by cases h), World.ownsRow_nil _ _ _ _⟩
theorem OwnS.rd {B : Nat} {w : World} {v : Value} {l : List S} (h : OwnS B w v l) : RdS w v l := by
  obtain ⟨ho, h1, h2⟩ := h
  refine ⟨ho, ?_⟩
  rcases h2 with ⟨rfl, hn⟩ | ⟨g, cap, cur, rfl, hb, hg, hn, hc, hs, ht⟩
  · have : l = [] := List.eq_nil_of_length_eq_zero hn
    subst this
    exact ⟨none, 0, rfl, Nat.le_refl _, Nat.zero_le _, fun _ => rfl, fun h => by simp at h⟩
  · refine ⟨some ⟨g, 0, none⟩, cap, rfl, hn, hc, (fun h => by cases h), fun _ => ⟨g, 0, rfl, fun j hj => ?_⟩⟩
    have hown : w.ownsRow B 23 2 (.slice (some ⟨g, 0, none⟩) l.length cap) l.length (csS l) := ⟨h1, .inr ⟨g, cap, cur, rfl, hb, hg, hn, hc, hs, ht⟩⟩
    have k0 := hown.cells (g := g) rfl (j * 2) _ (csS_at l j hj).1
    have k1 := hown.cells (g := g) rfl (j * 2 + 1) _ (csS_at l j hj).2
    rw [Addr.add_lit] at k0 k1
    exact ⟨by simpa using k0, by simpa using k1⟩
/-- Enough that its own block stands. -/
theorem OwnS.block {B : Nat} {w w' : World} {v : Value} {l : List S} (h : OwnS B w v l) (hb : ∀ k, v.ownBlock = some k → w'.heap[k]? = w.heap[k]?) : OwnS B w' v l := by
  obtain ⟨ho, h1, h2⟩ := h
  refine ⟨ho, h1, ?_⟩
  rcases h2 with ⟨rfl, hn⟩ | ⟨g, cap, cur, rfl, hB, hg, hn, hc, hs, ht⟩
  · exact .inl ⟨rfl, hn⟩
  · exact .inr ⟨g, cap, cur, rfl, hB, by rw [hb g rfl]; exact hg, hn, hc, hs, ht⟩
theorem OwnS.lt {B : Nat} {w : World} {v : Value} {l : List S} (h : OwnS B w v l) (k : Nat) (hk : v.ownBlock = some k) : B ≤ k ∧ k < w.heap.size := h.2.lt k hk
theorem OwnS.below {B : Nat} {w w' : World} {v : Value} {l : List S} (h : OwnS B w v l) (hb : Below w.heap.size w w') : OwnS B w' v l := h.block fun k hk => hb.block k (h.lt k hk).2
theorem OwnS.past {B b : Nat} {w w' : World} {v : Value} {l : List S} (h : OwnS B w v l) (hg : w.grownBy w' (some b)) (hb : b < B) : OwnS B w' v l :=
  h.block fun k hk => hg.block k (h.lt k hk).2 (fun e => by have := (h.lt k hk).1; have := Option.some.inj e; omega)

theorem rdS_one (w : World) (s : S) (hs : SOk s) : RdS (w.alloc (.cells #[.int .i64 s.1, .int .i64 s.2] 23)) (.slice (some ⟨w.heap.size, 0, none⟩) 1 1) [s] := by
  refine ⟨fun x hx => by simp at hx; rw [hx]; exact hs, some ⟨w.heap.size, 0, none⟩, 1, rfl, Nat.le_refl _, by unfold maxLen; omega, (fun h => by cases h), fun _ => ⟨w.heap.size, 0, rfl, fun j hj => ?_⟩⟩
  have : j = 0 := by simp at hj; omega
  subst this
  have X := blk_new w [.int .i64 s.1, .int .i64 s.2] 23
  exact ⟨X.cell 0 _ rfl, X.cell 1 _ rfl⟩

theorem info23 : ∃ i, Try.prog.info? 23 = some i ∧ i.zero = some (.agg #[.int .i64 0, .int .i64 0]) ∧ i.size = 2 ∧ i.bytes = 16 := by
  have h : (Try.prog.info? 23).map (fun i => (i.zero, i.size, i.bytes)) = some (some (.agg #[.int .i64 0, .int .i64 0]), 2, 16) := by kernel_rfl
  obtain ⟨i, hi, h1, h2, h3⟩ := info_parts h
  exact ⟨i, hi, h1, h2, h3⟩

section
variable {w : World} {ops : Array Oper} {rest : List Oper} {o : Oper} {a : Act} {Q : Exit → Act → World → Prop}
/-- 'append(out, x..)' of stamps that are read anywhere, onto a row that the call made. -/
theorem wpList_append_stamps (hgd : o.guard = none) (s x : Operand)
    (ho : o.op = .call { callee := .builtin .append, args := #[s, x], argTypes := #[24, 24] })
    (B : Nat) (v : Value) (l : List S) (hs : a.eval s = v) (hown : OwnS B w v l)
    (y : Value) (m : List S) (hx : a.eval x = y) (hm : RdS w y m) (hlen : (l.length + m.length) * 16 ≤ 140737488355328) (hbase : B ≤ w.heap.size)
    (h : ∀ v' w', OwnS B w' v' (l ++ m) → w.grownBy w' v.ownBlock → wpList Try.prog ops Q rest (a.put o.dst v') w') : wpList Try.prog ops Q (o :: rest) a w := by
  obtain ⟨hoct, ad, c, rfl, h1, h2, h3, h4⟩ := hm
  obtain ⟨i, hi, hz, hs1, hs2⟩ := info23
  have hmax : l.length + m.length ≤ maxLen := by unfold maxLen; omega
  have hall : ∀ s ∈ l ++ m, SOk s := fun s hs => by
    rcases List.mem_append.1 hs with r | r
    · exact hown.1 s r
    · exact hoct s r
  rcases Nat.eq_zero_or_pos m.length with h0 | hp
  · have : m = [] := List.eq_nil_of_length_eq_zero h0
    subst this
    cases ad with
    | none =>
      have := h3 rfl
      subst this
      have hrun := run_append_owned_none (P := Try.prog) w B 24 o.type 23 i 2 Try.underlying24 hi v _ _ hown.2
      refine wpList_plain hgd fun K hK => ?_
      unfold Oper.wp
      simp [execOp, ho, resolve, invoke, builtin, hs, hx, hrun, Result.andThen]
      exact hK _ _ (h v w (by simpa using hown) (grown_refl _ _))
    | some ad =>
      refine wpList_append_own w hgd s x 24 ho B 23 i (.agg #[.int .i64 0, .int .i64 0]) 2 16 Try.underlying24 hi hz hs1 hs2 rfl (by decide) v l.length (csS l) hs hown.2 ad 0 c [] hx (by simp) (fun j u hu => by simp at hu) (fun u hu => by cases hu)
        (by simpa using hmax) (by simpa using hlen) hbase ?_
      intro v' w' ho' hg _
      exact h v' w' ⟨hall, by simpa using ho'⟩ hg
  · obtain ⟨b, off, rfl, hc⟩ := h4 hp
    refine wpList_append_own w hgd s x 24 ho B 23 i (.agg #[.int .i64 0, .int .i64 0]) 2 16 Try.underlying24 hi hz hs1 hs2 rfl (by decide) v l.length (csS l) hs hown.2 ⟨b, off, none⟩ m.length c (csS m) hx (csS_length m) (fun j u hu => ?_) (csS_one m)
      hmax hlen hbase ?_
    · have hj : j < m.length * 2 := by have := (List.getElem?_eq_some_iff.1 hu).1; rwa [csS_length] at this
      rw [Addr.add_lit]
      have hh := hc (j / 2) (by omega)
      have hk := csS_at m (j / 2) (by omega)
      rcases Nat.mod_two_eq_zero_or_one j with r | r
      · rw [show j / 2 * 2 = j by omega] at hk hh
        rw [hk.1] at hu
        cases hu
        exact hh.1
      · rw [show j / 2 * 2 + 1 = j by omega] at hk
        rw [show off + j / 2 * 2 + 1 = off + j by omega] at hh
        rw [hk.2] at hu
        cases hu
        exact hh.2
    · intro v' w' ho' hg _
      exact h v' w' ⟨hall, by rw [csS_append, List.length_append]; exact ho'⟩ hg
end
end Go.Proofs.Ytmifionpagpnfaa
