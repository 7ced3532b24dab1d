/-
  Operations as cells; what an operation of ten cells runs to; byAt, together, Less, Root.
  Lists of operations in order, by their times: what keeps of each time the order of the list, that there is one list in order with these, what is left of equal times.
  The reference's Sort, by lists: an operation is put where it stands in order. Rows cut in two; slices of one operation, and of two.
-/
import Derived.Test.YthnjbjlhfohpfaaGreatWirP
import Derived.Test.YthnjbjlhfohpfaaGreatRowG
namespace Go.Proofs.YthnjbjlhfohpfaaGreat
section
set_option linter.unusedVariables false
set_option linter.unusedSimpArgs false
set_option synthInstance.maxSize 20000
set_option maxHeartbeats 2000000
set_option maxRecDepth 20000
open Go.RowKit Go.Maps

structure OpT where
  k : Int
  a : S
  n : S
  p : S
  d : Bool
  s : ByteArray
  va : Option Addr
  vn : Nat
  vc : Nat
  b : List Int
/-- The content's slice. -/
def OpT.v (q : OpT) : Value := .slice q.va q.vn q.vc
def oc (q : OpT) : List Value := [.int .i64 q.k, .int .i64 q.a.1, .int .i64 q.a.2, .int .i64 q.n.1, .int .i64 q.n.2, .int .i64 q.p.1, .int .i64 q.p.2, .bool q.d, .string q.s, .slice q.va q.vn q.vc]
theorem oc_len (q : OpT) : (oc q).length = 10 := rfl
theorem oc_one (q : OpT) : ∀ u ∈ oc q, u.oneCell' = true := fun u hu => by
  simp only [oc, List.mem_cons, List.not_mem_nil, or_false] at hu
  rcases hu with rfl | rfl | rfl | rfl | rfl | rfl | rfl | rfl | rfl | rfl <;> rfl
theorem flat_oc_one (l : List OpT) : ∀ u ∈ flat oc l, u.oneCell' = true := flat_one fun x _ => oc_one x
def ov (q : OpT) : Value := .agg (oc q).toArray
/-- The operation of nothing. -/
def oz : OpT := ⟨0, (0, 0), (0, 0), (0, 0), false, ⟨#[]⟩, none, 0, 0, []⟩
theorem info26 : (Tryz.prog.info? 38).map (·.size) = some 10 := by kernel_rfl
theorem ty28 : RowTy 28 38 10 104 (ov oz) := ⟨by kernel_rfl, by kernel_rfl, by kernel_rfl, by omega⟩
section
variable {o : Oper} {r : Operand → Value}
theorem exec_load26 {w : World} {b off : Nat} {q : OpT} (x : Operand) (ho : o.op = .load 38 x) (hx : r x = .pointer (some ⟨b, off, none⟩)) (hc : w.rangeAt b off (oc q)) : (execOp r o).run Tryz.prog w = .ok (.value (ov q)) w := by
  have h := run_loadAt_mid (P := Tryz.prog) w b off 38 (oc q) _ hc Tryz.underlying38 rfl (by rw [oc_len]; exact info26)
  unfold execOp
  simp only [ho, hx, Sem.run_bind, h, Result.andThen_ok, Sem.run_pure]
  rfl
theorem exec_store26 {w : World} {b off : Nat} {q : OpT} (x y : Operand) (ho : o.op = .store 38 x y) (hx : r x = .pointer (some ⟨b, off, none⟩)) (hy : r y = ov q) (ht : w.there b off 10) : (execOp r o).run Tryz.prog w = .ok .skip (w.setCells b off (oc q)) := by
  have h := run_storeAt_mid (P := Tryz.prog) w b off 38 (oc q).toArray (by simpa [oc_len] using ht) (by rw [List.size_toArray, oc_len]; exact info26) (all_oneCell_toArray (oc_one q))
  unfold ov at hy
  unfold execOp
  simp only [ho, hx, hy, Sem.run_bind, h, Result.andThen_ok, Sem.run_pure]
end
theorem wpQuiet_ok {P : Program} {ops : Array Oper} {C : World → Prop} {K : Act → Prop} {o : Oper} {rest : List Oper} {a : Act} {v : Value} (hgd : o.guard = none) (hr : ∀ w, C w → (execOp a.eval o).run P w = .ok (.value v) w) (h : wpQuiet P ops C K rest (a.put o.dst v)) : wpQuiet P ops C K (o :: rest) a := by
  unfold wpQuiet
  rw [if_pos (by simp only [Region.wanted, hgd])]
  refine ⟨v, fun w hw => ?_, h⟩
  unfold Oper.quietAt
  rw [hr w hw]
  exact ⟨rfl, rfl⟩

theorem quiet_ok1 {P : Program} {ops : Array Oper} {C : World → Prop} {K : Act → Prop} {o : Oper} {a : Act} {v : Value} (hw : Region.wanted o (yielded ops a.tmps) = true) (hr : ∀ w, C w → (execOp a.eval o).run P w = .ok (.value v) w) (h : K (a.put o.dst v)) : wpQuiet P ops C K [o] a := by
  unfold wpQuiet
  rw [if_pos hw]
  refine ⟨v, fun w hw => ?_, h⟩
  unfold Oper.quietAt
  rw [hr w hw]
  exact ⟨rfl, rfl⟩
theorem root26 (w : World) : Calls Tryz.prog 73 #[] w fun e w' => e = .returned (sv (0, 0)) ∧ Below w.heap.size w w' := by
  unfold sv
  go_enter Tryz.func73, Tryz.ntmps73
  go_wp2
  refine bodyPost_ret (v := .agg #[.int .i64 0, .int .i64 0]) ?_ rfl ⟨rfl, balloc (Below.refl _ _) _⟩
  rw [results_cell1 rfl]
  go_simp
def sameAt (a b : S) : Bool := a.1 == b.1 && a.2 == b.2
theorem sameAt_iff (a b : S) : sameAt a b = true ↔ a = b := by
  obtain ⟨a1, a2⟩ := a
  obtain ⟨b1, b2⟩ := b
  simp [sameAt]
end

section
set_option linter.unusedVariables false
set_option linter.unusedSimpArgs false
set_option synthInstance.maxSize 20000
set_option maxHeartbeats 2000000
set_option maxRecDepth 20000
open Go.RowKit Go.Maps

abbrev LtO (x y : OpT) : Prop := ltP x.a y.a
abbrev LeO (x y : OpT) : Prop := ¬ ltP y.a x.a
def atK (c : S) (x : OpT) : Bool := decide (x.a = c)
/-- Of each time both have the same ones in the same order. -/
def Keep (l l' : List OpT) : Prop := ∀ c, l'.filter (atK c) = l.filter (atK c)
def SrtO (l : List OpT) : Prop := l.Pairwise LeO
theorem Keep.refl (l : List OpT) : Keep l l := fun _ => rfl
theorem Keep.symm {a b : List OpT} (h : Keep a b) : Keep b a := fun c => (h c).symm
theorem Keep.trans {a b c : List OpT} (h : Keep a b) (h2 : Keep b c) : Keep a c := fun k => (h2 k).trans (h k)
theorem Keep.append {a b c d : List OpT} (h : Keep a b) (h2 : Keep c d) : Keep (a ++ c) (b ++ d) := fun k => by
  rw [List.filter_append, List.filter_append, h k, h2 k]
theorem Keep.mem {a b : List OpT} (h : Keep a b) (x : OpT) : x ∈ b ↔ x ∈ a := by
  have := h x.a
  have e : ∀ l : List OpT, x ∈ l ↔ x ∈ l.filter (atK x.a) := fun l => by simp [List.mem_filter, atK]
  rw [e b, e a, this]
theorem filter_none {l : List OpT} {c : S} (h : ∀ x ∈ l, x.a ≠ c) : l.filter (atK c) = [] := by
  rw [List.filter_eq_nil_iff]
  intro x hx
  simp [atK, h x hx]
theorem Keep.turn {X Y : List OpT} (h : ∀ x ∈ X, ∀ y ∈ Y, x.a ≠ y.a) : Keep (X ++ Y) (Y ++ X) := fun c => by
  rw [List.filter_append, List.filter_append]
  by_cases hc : ∃ x ∈ X, x.a = c
  · obtain ⟨x, hx, rfl⟩ := hc
    rw [filter_none (l := Y) (fun y hy e => h x hx y hy e.symm)]
    simp
  · rw [filter_none (l := X) (fun x hx e => hc ⟨x, hx, e⟩)]
    simp
theorem lt_ne {x y : OpT} (h : LtO x y) : x.a ≠ y.a := fun e => ltP_irrefl y.a (by rw [LtO, e] at h; exact h)
theorem le_trans' {x y z : OpT} (h1 : LeO x y) (h2 : LeO y z) : LeO x z := fun h => by
  unfold LeO ltP at *; omega
theorem lt_le {x y : OpT} (h : LtO x y) : LeO x y := fun h2 => ltP_irrefl _ (ltP_trans h h2)
theorem lt_le_trans {x y z : OpT} (h1 : LtO x y) (h2 : LeO y z) : LtO x z := by
  unfold LeO LtO ltP at *; omega
theorem le_lt_trans {x y z : OpT} (h1 : LeO x y) (h2 : LtO y z) : LtO x z := by
  unfold LeO LtO ltP at *; omega
theorem le_refl' (x : OpT) : LeO x x := ltP_irrefl _
/-- There is one list in order that keeps these. -/
theorem keep_one : ∀ (a b : List OpT), SrtO a → SrtO b → Keep a b → a = b
  | [], b, _, _, h => by
    cases b with
    | nil => rfl
    | cons y t => have := (h.mem y).1 (by simp); cases this
  | x :: t, [], _, _, h => by have := (h.mem x).2 (by simp); cases this
  | x :: t, y :: u, ha, hb, h => by
    have hx : x ∈ y :: u := (h.mem x).2 (by simp)
    have hy : y ∈ x :: t := (h.mem y).1 (by simp)
    have h1 : LeO x y := by
      rcases List.mem_cons.1 hy with e | e
      · rw [e]; exact le_refl' _
      · exact (List.pairwise_cons.1 ha).1 y e
    have h2 : LeO y x := by
      rcases List.mem_cons.1 hx with e | e
      · rw [e]; exact le_refl' _
      · exact (List.pairwise_cons.1 hb).1 x e
    have hk : x.a = y.a := ltP_total h2 h1
    have hf := h x.a
    have e1 : atK x.a x = true := by simp [atK]
    have e2 : atK x.a y = true := by simp [atK, hk]
    rw [List.filter_cons_of_pos e1, List.filter_cons_of_pos e2] at hf
    injection hf with hf1 hf2
    subst hf1
    have hr : Keep t u := fun c => by
      have := h c
      by_cases hc : atK c y = true
      · rw [List.filter_cons_of_pos hc, List.filter_cons_of_pos hc] at this
        injection this
      · rw [List.filter_cons_of_neg hc, List.filter_cons_of_neg hc] at this
        exact this
    rw [keep_one t u (List.pairwise_cons.1 ha).2 (List.pairwise_cons.1 hb).2 hr]

/-! ### Merging, halved -/
theorem srt_append {a b : List OpT} : SrtO (a ++ b) ↔ SrtO a ∧ SrtO b ∧ ∀ x ∈ a, ∀ y ∈ b, LeO x y := List.pairwise_append
/-- What the halves of a merge come to: x1 x2 and y1 y2 in order, x1's last is not behind y2's first, y1's last is ahead of x2's first. -/
theorem halves {x1 x2 y1 y2 z1 z2 : List OpT} (hx : SrtO (x1 ++ x2)) (hy : SrtO (y1 ++ y2)) (h1 : ∀ p ∈ x1, ∀ q ∈ y2, LeO p q) (h2 : ∀ p ∈ y1, ∀ q ∈ x2, LtO p q)
    (hz1 : SrtO z1) (hk1 : Keep (x1 ++ y1) z1) (hz2 : SrtO z2) (hk2 : Keep (x2 ++ y2) z2) : SrtO (z1 ++ z2) ∧ Keep (x1 ++ x2 ++ (y1 ++ y2)) (z1 ++ z2) := by
  obtain ⟨a1, a2, a3⟩ := srt_append.1 hx
  obtain ⟨b1, b2, b3⟩ := srt_append.1 hy
  refine ⟨srt_append.2 ⟨hz1, hz2, fun p hp q hq => ?_⟩, ?_⟩
  · rcases List.mem_append.1 ((hk1.mem p).1 hp) with hp | hp <;> rcases List.mem_append.1 ((hk2.mem q).1 hq) with hq | hq
    · exact a3 p hp q hq
    · exact h1 p hp q hq
    · exact lt_le (h2 p hp q hq)
    · exact b3 p hp q hq
  · have e : Keep (x1 ++ x2 ++ (y1 ++ y2)) (x1 ++ y1 ++ (x2 ++ y2)) := by
      rw [List.append_assoc, List.append_assoc, ← List.append_assoc x2, ← List.append_assoc y1]
      exact (Keep.refl x1).append ((Keep.turn fun x hx y hy e => lt_ne (h2 y hy x hx) e.symm).append (Keep.refl y2))
    exact e.trans (hk1.append hk2)
/-- All of a list in order is not behind its last, all not ahead of its first. -/
theorem srt_last {l : List OpT} (h : SrtO l) {i j : Nat} {x y : OpT} (hi : l[i]? = some x) (hj : l[j]? = some y) (hij : i ≤ j) : LeO x y := by
  obtain ⟨h1, rfl⟩ := List.getElem?_eq_some_iff.1 hi
  obtain ⟨h2, rfl⟩ := List.getElem?_eq_some_iff.1 hj
  rcases Nat.lt_or_eq_of_le hij with h3 | rfl
  · exact List.pairwise_iff_getElem.1 h i j h1 h2 h3
  · exact le_refl' _

/-! ### Exchanges -/
theorem set_mid (A B : List OpT) (x y : OpT) : (A ++ x :: B).set A.length y = A ++ y :: B := by
  rw [List.set_append_right _ _ (Nat.le_refl _)]
  simp
theorem get_mid (A B : List OpT) (x : OpT) : (A ++ x :: B)[A.length]? = some x := by simp
/-- Two neighbours are exchanged. -/
theorem swap_next (A B : List OpT) (x y : OpT) (i : Nat) (hi : i = A.length) : ((A ++ x :: y :: B).set (i + 1) x).set i y = A ++ y :: x :: B := by
  subst hi
  have : (A ++ x :: y :: B).set (A.length + 1) x = A ++ x :: x :: B := by
    simp
  rw [this, set_mid]
theorem swap_next' (A B : List OpT) (x y : OpT) (i : Nat) (hi : i = A.length) : ((A ++ x :: y :: B).set i y).set (i + 1) x = A ++ y :: x :: B := by
  subst hi
  rw [set_mid]
  simp
/-- Two places apart are exchanged. -/
theorem swap_far (A M B : List OpT) (x y : OpT) : ((A ++ x :: (M ++ y :: B)).set A.length y).set (A.length + 1 + M.length) x = A ++ y :: (M ++ x :: B) := by
  rw [set_mid]
  have := set_mid (A ++ y :: M) B y x
  simp only [List.append_assoc, List.cons_append, List.length_append, List.length_cons] at this
  rw [show A.length + 1 + M.length = A.length + (M.length + 1) by omega]
  exact this
end

section
set_option linter.unusedVariables false
set_option linter.unusedSimpArgs false
set_option synthInstance.maxSize 20000
set_option maxHeartbeats 2000000
set_option maxRecDepth 20000
open Go.RowKit Go.Maps

/-- A list in order that holds of each time the first of l. -/
structure FirstOf (O l : List OpT) : Prop where
  str : O.Pairwise LtO
  one : ∀ c, O.filter (atK c) = (l.filter (atK c)).take 1
section
variable {O T1 T2 l : List OpT} {x y : OpT}
theorem FirstOf.nil : FirstOf [] [] := ⟨.nil, fun _ => rfl⟩
theorem FirstOf.mem (h : FirstOf O l) (hq : y ∈ O) : y ∈ l := by
  have h1 : y ∈ O.filter (atK y.a) := List.mem_filter.2 ⟨hq, by simp [atK]⟩
  rw [h.one] at h1
  exact (List.mem_filter.1 (List.mem_of_mem_take h1)).1
theorem FirstOf.put (h : FirstOf (T1 ++ T2) l) (h1 : ∀ y ∈ T1, LtO y x) (h2 : ∀ y ∈ T2, LtO x y) : FirstOf (T1 ++ x :: T2) (l ++ [x]) := by
  obtain ⟨a1, a2, a3⟩ := List.pairwise_append.1 h.str
  refine ⟨List.pairwise_append.2 ⟨a1, List.pairwise_cons.2 ⟨h2, a2⟩, fun p hp q hq => ?_⟩, fun c => ?_⟩
  · rcases List.mem_cons.1 hq with e | e
    · rw [e]; exact h1 p hp
    · exact a3 p hp q e
  · have h3 := h.one c
    rw [List.filter_append] at h3
    rw [List.filter_append, List.filter_append]
    by_cases e : x.a = c
    · have e1 : T1.filter (atK c) = [] := filter_none fun y hy e2 => lt_ne (h1 y hy) (e2.trans e.symm)
      have e2 : T2.filter (atK c) = [] := filter_none fun y hy e2 => lt_ne (h2 y hy) (e.trans e2.symm)
      rw [e1, e2] at h3
      have h4 : l.filter (atK c) = [] := by
        cases h5 : l.filter (atK c) with
        | nil => rfl
        | cons z t => rw [h5] at h3; cases h3
      rw [List.filter_cons_of_pos (by simp [atK, e]), e1, e2, h4, List.filter_cons_of_pos (by simp [atK, e])]
      rfl
    · rw [List.filter_cons_of_neg (by simp [atK, e]), List.filter_cons_of_neg (by simp [atK, e]), h3]
      simp
theorem FirstOf.pass (h : FirstOf O l) (hy : y ∈ O) (e : y.a = x.a) : FirstOf O (l ++ [x]) := by
  refine ⟨h.str, fun c => ?_⟩
  have h3 := h.one c
  rw [List.filter_append]
  by_cases e2 : x.a = c
  · have h4 : y ∈ O.filter (atK c) := List.mem_filter.2 ⟨hy, by simp [atK, e, e2]⟩
    rw [h3] at h4 ⊢
    cases h5 : l.filter (atK c) with
    | nil => rw [h5] at h4; cases h4
    | cons z t => rfl
  · rw [List.filter_cons_of_neg (by simp [atK, e2]), List.filter_nil, List.append_nil]
    exact h3
/-- The place where an operation stands in a list in order. -/
theorem FirstOf.ins (h : FirstOf O l) {q : Nat} (hlo : ∀ i y, i < q → O[i]? = some y → LtO y x) (hup : ∀ y, O[q]? = some y → LtO x y) : FirstOf (O.take q ++ x :: O.drop q) (l ++ [x]) := by
  refine FirstOf.put (by rw [List.take_append_drop]; exact h) (fun y hy => ?_) (fun y hy => ?_)
  · obtain ⟨i, hi, rfl⟩ := List.getElem_of_mem hy
    rw [List.length_take] at hi
    exact hlo i _ (by omega) (by rw [List.getElem_take]; exact List.getElem?_eq_getElem (by omega))
  · obtain ⟨i, hi, rfl⟩ := List.getElem_of_mem hy
    rw [List.length_drop] at hi
    have h1 := hup _ (List.getElem?_eq_getElem (by omega : q < O.length))
    rw [List.getElem_drop]
    rcases Nat.eq_zero_or_pos i with e | e
    · subst e; exact h1
    · have h2 := List.pairwise_iff_getElem.1 h.str q (q + i) (by omega) (by omega) (by omega)
      exact ltP_trans h1 h2
end
theorem take_more' {l : List OpT} {j : Nat} {x : OpT} (h : l[j]? = some x) : l.take (j + 1) = l.take j ++ [x] := by
  obtain ⟨hj, rfl⟩ := List.getElem?_eq_some_iff.1 h
  exact List.take_succ_eq_append_getElem hj
section
variable {α : Type} {f : α → List Value} {k : Nat} {w : World} {l : List α}
theorem rowF_head (hk : ∀ x, (f x).length = k) {a : Option Addr} {n cap s : Nat} (h : RowF f w (.slice a n cap) l) (hs : s ≤ l.length) : RowF f w (.slice a s cap) (l.take s) := by
  obtain ⟨a', cap', e, h1, h2, h3, h4⟩ := h
  obtain ⟨rfl, _, rfl⟩ : a = a' ∧ n = l.length ∧ cap = cap' := by simpa using e
  have hl : (l.take s).length = s := by rw [List.length_take]; omega
  refine ⟨a, cap, by rw [hl], by omega, h2, h3, fun hp => ?_⟩
  obtain ⟨b, off, rfl, hc⟩ := h4 (by omega)
  refine ⟨b, off, rfl, fun j u hj => hc j u ?_⟩
  rw [← flat_take hk, List.getElem?_take] at hj
  split at hj
  · exact hj
  · cases hj
theorem rowF_cut (hk : ∀ x, (f x).length = k) {b off n cap s : Nat} (h : RowF f w (.slice (some ⟨b, off, none⟩) n cap) l) (hs : s ≤ l.length) : RowF f w (.slice (some ⟨b, off + s * k, none⟩) (n - s) (cap - s)) (l.drop s) := by
  obtain ⟨a', cap', e, h1, h2, h3, h4⟩ := h
  obtain ⟨rfl, rfl, rfl⟩ : some ⟨b, off, none⟩ = a' ∧ n = l.length ∧ cap = cap' := by simpa using e
  refine ⟨some ⟨b, off + s * k, none⟩, cap - s, by rw [List.length_drop], by rw [List.length_drop]; omega, by omega, (fun h => by cases h), fun hp => ?_⟩
  rw [List.length_drop] at hp
  obtain ⟨b', off', e', hc⟩ := h4 (by omega)
  cases e'
  refine ⟨b, off + s * k, rfl, fun j u hj => ?_⟩
  rw [← flat_drop hk, List.getElem?_drop] at hj
  have := hc _ _ hj
  rwa [← Nat.add_assoc] at this
theorem rowF_none (w : World) (a : Option Addr) : RowF f w (.slice a 0 0) [] := ⟨a, 0, rfl, Nat.le_refl _, Nat.zero_le _, fun _ => rfl, fun h => by simp at h⟩
/-- Two structs, as a row of their own. -/
theorem rowF_two (w : World) (x y : α) (e : TypeId) : RowF f (w.alloc (.cells (f x ++ f y).toArray e)) (.slice (some ⟨w.heap.size, 0, none⟩) 2 2) [x, y] := by
  refine ⟨some ⟨w.heap.size, 0, none⟩, 2, rfl, Nat.le_refl _, by unfold maxLen; omega, (fun h => by cases h), fun _ => ⟨w.heap.size, 0, rfl, ?_⟩⟩
  have : flat f [x, y] = f x ++ f y := by simp [flat]
  rw [this]
  exact (blk_new w (f x ++ f y) e).range0
end
section
variable {o : Oper} {r : Operand → Value} {w : World}
theorem exec_build1 {q : OpT} (x : Operand) (ho : o.op = .buildSlice 28 1 #[(0, x)]) (hx : r x = ov q) : (execOp r o).run Tryz.prog w = .ok (.value (.slice (some ⟨w.heap.size, 0, none⟩) 1 1)) (w.alloc (.cells (oc q).toArray 38)) := by
  obtain ⟨qk, ⟨qa1, qa2⟩, ⟨qn1, qn2⟩, ⟨qp1, qp2⟩, qd, qs, qva, qvn, qvc, qb⟩ := q
  unfold ov oc at hx
  unfold oc
  dsimp only at hx ⊢
  unfold execOp
  simp only [ho]
  go_simp
theorem exec_build2 {q s : OpT} (x y : Operand) (ho : o.op = .buildSlice 28 2 #[(0, x), (1, y)]) (hx : r x = ov q) (hy : r y = ov s) : (execOp r o).run Tryz.prog w = .ok (.value (.slice (some ⟨w.heap.size, 0, none⟩) 2 2)) (w.alloc (.cells (oc q ++ oc s).toArray 38)) := by
  obtain ⟨qk, ⟨qa1, qa2⟩, ⟨qn1, qn2⟩, ⟨qp1, qp2⟩, qd, qs, qva, qvn, qvc, qb⟩ := q
  obtain ⟨sk, ⟨sa1, sa2⟩, ⟨sn1, sn2⟩, ⟨sp1, sp2⟩, sd, ss, sva, svn, svc, sb⟩ := s
  unfold ov oc at hx hy
  unfold oc
  dsimp only at hx hy ⊢
  unfold execOp
  simp only [ho]
  go_simp
end
end
end Go.Proofs.YthnjbjlhfohpfaaGreat
