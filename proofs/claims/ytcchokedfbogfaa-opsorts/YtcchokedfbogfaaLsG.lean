/-
  The reference's Sort, by lists: an operation is put where it stands in order. Rows cut in two; slices of one operation, and of two.
-/
import Derived.Test.YtcchokedfbogfaaSrtM
namespace Go.Proofs.Ytcchokedfbogfaa
set_option linter.unusedVariables false
set_option linter.unusedSimpArgs false
set_option synthInstance.maxSize 20000
set_option maxHeartbeats 2000000
set_option maxRecDepth 20000
open Go.RowKit Go.Maps

/-- A list in order that holds of each time the first of l. -/
structure FirstOf (O l : List OpT) : Prop where
  str : O.Pairwise LtO
  one : ∀ c, O.filter (atK c) = (l.filter (atK c)).take 1
section
variable {O T1 T2 l : List OpT} {x y : OpT}
theorem FirstOf.nil : FirstOf [] [] := ⟨.nil, fun _ => rfl⟩
theorem FirstOf.mem (h : FirstOf O l) (hq : y ∈ O) : y ∈ l := by
  have h1 : y ∈ O.filter (atK y.a) := List.mem_filter.2 ⟨hq, by simp [atK]⟩
  rw [h.one] at h1
  exact (List.mem_filter.1 (List.mem_of_mem_take h1)).1
theorem FirstOf.put (h : FirstOf (T1 ++ T2) l) (h1 : ∀ y ∈ T1, LtO y x) (h2 : ∀ y ∈ T2, LtO x y) : FirstOf (T1 ++ x :: T2) (l ++ [x]) := by
  obtain ⟨a1, a2, a3⟩ := List.pairwise_append.1 h.str
  refine ⟨List.pairwise_append.2 ⟨a1, List.pairwise_cons.2 ⟨h2, a2⟩, fun p hp q hq => ?_⟩, fun c => ?_⟩
  · rcases List.mem_cons.1 hq with e | e
    · rw [e]; exact h1 p hp
    · exact a3 p hp q e
  · have h3 := h.one c
    rw [List.filter_append] at h3
    rw [List.filter_append, List.filter_append]
    by_cases e : x.a = c
    · have e1 : T1.filter (atK c) = [] := filter_none fun y hy e2 => lt_ne (h1 y hy) (e2.trans e.symm)
      have e2 : T2.filter (atK c) = [] := filter_none fun y hy e2 => lt_ne (h2 y hy) (e.trans e2.symm)
      rw [e1, e2] at h3
      have h4 : l.filter (atK c) = [] := by
        cases h5 : l.filter (atK c) with
        | nil => rfl
        | cons z t => rw [h5] at h3; cases h3
      rw [List.filter_cons_of_pos (by simp [atK, e]), e1, e2, h4, List.filter_cons_of_pos (by simp [atK, e])]
      rfl
    · rw [List.filter_cons_of_neg (by simp [atK, e]), List.filter_cons_of_neg (by simp [atK, e]), h3]
      simp
theorem FirstOf.pass (h : FirstOf O l) (hy : y ∈ O) (e : y.a = x.a) : FirstOf O (l ++ [x]) := by
  refine ⟨h.str, fun c => ?_⟩
  have h3 := h.one c
  rw [List.filter_append]
  by_cases e2 : x.a = c
  · have h4 : y ∈ O.filter (atK c) := List.mem_filter.2 ⟨hy, by simp [atK, e, e2]⟩
    rw [h3] at h4 ⊢
    cases h5 : l.filter (atK c) with
    | nil => rw [h5] at h4; cases h4
    | cons z t => rfl
  · rw [List.filter_cons_of_neg (by simp [atK, e2]), List.filter_nil, List.append_nil]
    exact h3
/-- The place where an operation stands in a list in order. -/
theorem FirstOf.ins (h : FirstOf O l) {q : Nat} (hlo : ∀ i y, i < q → O[i]? = some y → LtO y x) (hup : ∀ y, O[q]? = some y → LtO x y) : FirstOf (O.take q ++ x :: O.drop q) (l ++ [x]) := by
  refine FirstOf.put (by rw [List.take_append_drop]; exact h) (fun y hy => ?_) (fun y hy => ?_)
  · obtain ⟨i, hi, rfl⟩ := List.getElem_of_mem hy
    rw [List.length_take] at hi
    exact hlo i _ (by omega) (by rw [List.getElem_take]; exact List.getElem?_eq_getElem (by omega))
  · obtain ⟨i, hi, rfl⟩ := List.getElem_of_mem hy
    rw [List.length_drop] at hi
    have h1 := hup _ (List.getElem?_eq_getElem (by omega : q < O.length))
    rw [List.getElem_drop]
    rcases Nat.eq_zero_or_pos i with e | e
    · subst e; exact h1
    · have h2 := List.pairwise_iff_getElem.1 h.str q (q + i) (by omega) (by omega) (by omega)
      exact ltP_trans h1 h2
end
theorem take_more' {l : List OpT} {j : Nat} {x : OpT} (h : l[j]? = some x) : l.take (j + 1) = l.take j ++ [x] := by
  obtain ⟨hj, rfl⟩ := List.getElem?_eq_some_iff.1 h
  exact List.take_succ_eq_append_getElem hj
section
variable {α : Type} {f : α → List Value} {k : Nat} {w : World} {l : List α}
theorem rowF_head (hk : ∀ x, (f x).length = k) {a : Option Addr} {n cap s : Nat} (h : RowF f w (.slice a n cap) l) (hs : s ≤ l.length) : RowF f w (.slice a s cap) (l.take s) := by
  obtain ⟨a', cap', e, h1, h2, h3, h4⟩ := h
  obtain ⟨rfl, _, rfl⟩ : a = a' ∧ n = l.length ∧ cap = cap' := by simpa using e
  have hl : (l.take s).length = s := by rw [List.length_take]; omega
  refine ⟨a, cap, by rw [hl], by omega, h2, h3, fun hp => ?_⟩
  obtain ⟨b, off, rfl, hc⟩ := h4 (by omega)
  refine ⟨b, off, rfl, fun j u hj => hc j u ?_⟩
  rw [← flat_take hk, List.getElem?_take] at hj
  split at hj
  · exact hj
  · cases hj
theorem rowF_cut (hk : ∀ x, (f x).length = k) {b off n cap s : Nat} (h : RowF f w (.slice (some ⟨b, off, none⟩) n cap) l) (hs : s ≤ l.length) : RowF f w (.slice (some ⟨b, off + s * k, none⟩) (n - s) (cap - s)) (l.drop s) := by
  obtain ⟨a', cap', e, h1, h2, h3, h4⟩ := h
  obtain ⟨rfl, rfl, rfl⟩ : some ⟨b, off, none⟩ = a' ∧ n = l.length ∧ cap = cap' := by simpa using e
  refine ⟨some ⟨b, off + s * k, none⟩, cap - s, by rw [List.length_drop], by rw [List.length_drop]; omega, by omega, (fun h => by cases h), fun hp => ?_⟩
  rw [List.length_drop] at hp
  obtain ⟨b', off', e', hc⟩ := h4 (by omega)
  cases e'
  refine ⟨b, off + s * k, rfl, fun j u hj => ?_⟩
  rw [← flat_drop hk, List.getElem?_drop] at hj
  have := hc _ _ hj
  rwa [← Nat.add_assoc] at this
theorem rowF_none (w : World) (a : Option Addr) : RowF f w (.slice a 0 0) [] := ⟨a, 0, rfl, Nat.le_refl _, Nat.zero_le _, fun _ => rfl, fun h => by simp at h⟩
/-- Two structs, as a row of their own. -/
theorem rowF_two (w : World) (x y : α) (e : TypeId) : RowF f (w.alloc (.cells (f x ++ f y).toArray e)) (.slice (some ⟨w.heap.size, 0, none⟩) 2 2) [x, y] := by
  refine ⟨some ⟨w.heap.size, 0, none⟩, 2, rfl, Nat.le_refl _, by unfold maxLen; omega, (fun h => by cases h), fun _ => ⟨w.heap.size, 0, rfl, ?_⟩⟩
  have : flat f [x, y] = f x ++ f y := by simp [flat]
  rw [this]
  exact (blk_new w (f x ++ f y) e).range0
end
section
variable {o : Oper} {r : Operand → Value} {w : World}
theorem exec_build1 {q : OpT} (x : Operand) (ho : o.op = .buildSlice 28 1 #[(0, x)]) (hx : r x = ov q) : (execOp r o).run Try.prog w = .ok (.value (.slice (some ⟨w.heap.size, 0, none⟩) 1 1)) (w.alloc (.cells (oc q).toArray 26)) := by
  obtain ⟨qk, ⟨qa1, qa2⟩, ⟨qn1, qn2⟩, ⟨qp1, qp2⟩, qd, qs, qva, qvn, qvc, qb⟩ := q
  unfold ov oc at hx
  unfold oc
  dsimp only at hx ⊢
  unfold execOp
  simp only [ho]
  go_simp
theorem exec_build2 {q s : OpT} (x y : Operand) (ho : o.op = .buildSlice 28 2 #[(0, x), (1, y)]) (hx : r x = ov q) (hy : r y = ov s) : (execOp r o).run Try.prog w = .ok (.value (.slice (some ⟨w.heap.size, 0, none⟩) 2 2)) (w.alloc (.cells (oc q ++ oc s).toArray 26)) := by
  obtain ⟨qk, ⟨qa1, qa2⟩, ⟨qn1, qn2⟩, ⟨qp1, qp2⟩, qd, qs, qva, qvn, qvc, qb⟩ := q
  obtain ⟨sk, ⟨sa1, sa2⟩, ⟨sn1, sn2⟩, ⟨sp1, sp2⟩, sd, ss, sva, svn, svc, sb⟩ := s
  unfold ov oc at hx hy
  unfold oc
  dsimp only at hx hy ⊢
  unfold execOp
  simp only [ho]
  go_simp
end
end Go.Proofs.Ytcchokedfbogfaa
