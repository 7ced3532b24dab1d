/-
  Lists of operations in order, by their times: what keeps of each time the order of the list, that there is one list in order with these, what is left of equal times.
-/
import Derived.Test.YtcchokedfbogfaaOpM
namespace Go.Proofs.Ytcchokedfbogfaa
set_option linter.unusedVariables false
set_option linter.unusedSimpArgs false
set_option synthInstance.maxSize 20000
set_option maxHeartbeats 2000000
set_option maxRecDepth 20000
open Go.RowKit Go.Maps

abbrev LtO (x y : OpT) : Prop := ltP x.a y.a
abbrev LeO (x y : OpT) : Prop := ¬ ltP y.a x.a
def atK (c : S) (x : OpT) : Bool := decide (x.a = c)
/-- Of each time both have the same ones in the same order. -/
def Keep (l l' : List OpT) : Prop := ∀ c, l'.filter (atK c) = l.filter (atK c)
def SrtO (l : List OpT) : Prop := l.Pairwise LeO
theorem Keep.refl (l : List OpT) : Keep l l := fun _ => rfl
theorem Keep.symm {a b : List OpT} (h : Keep a b) : Keep b a := fun c => (h c).symm
theorem Keep.trans {a b c : List OpT} (h : Keep a b) (h2 : Keep b c) : Keep a c := fun k => (h2 k).trans (h k)
theorem Keep.append {a b c d : List OpT} (h : Keep a b) (h2 : Keep c d) : Keep (a ++ c) (b ++ d) := fun k => by
  rw [List.filter_append, List.filter_append, h k, h2 k]
theorem Keep.mem {a b : List OpT} (h : Keep a b) (x : OpT) : x ∈ b ↔ x ∈ a := by
  have := h x.a
  have e : ∀ l : List OpT, x ∈ l ↔ x ∈ l.filter (atK x.a) := fun l => by simp [List.mem_filter, atK]
  rw [e b, e a, this]
theorem filter_none {l : List OpT} {c : S} (h : ∀ x ∈ l, x.a ≠ c) : l.filter (atK c) = [] := by
  rw [List.filter_eq_nil_iff]
  intro x hx
  simp [atK, h x hx]
theorem Keep.turn {X Y : List OpT} (h : ∀ x ∈ X, ∀ y ∈ Y, x.a ≠ y.a) : Keep (X ++ Y) (Y ++ X) := fun c => by
  rw [List.filter_append, List.filter_append]
  by_cases hc : ∃ x ∈ X, x.a = c
  · obtain ⟨x, hx, rfl⟩ := hc
    rw [filter_none (l := Y) (fun y hy e => h x hx y hy e.symm)]
    simp
  · rw [filter_none (l := X) (fun x hx e => hc ⟨x, hx, e⟩)]
    simp
theorem lt_ne {x y : OpT} (h : LtO x y) : x.a ≠ y.a := fun e => ltP_irrefl y.a (by rw [LtO, e] at h; exact h)
theorem le_trans' {x y z : OpT} (h1 : LeO x y) (h2 : LeO y z) : LeO x z := fun h => by
  unfold LeO ltP at *; omega
theorem lt_le {x y : OpT} (h : LtO x y) : LeO x y := fun h2 => ltP_irrefl _ (ltP_trans h h2)
theorem lt_le_trans {x y z : OpT} (h1 : LtO x y) (h2 : LeO y z) : LtO x z := by
  unfold LeO LtO ltP at *; omega
theorem le_lt_trans {x y z : OpT} (h1 : LeO x y) (h2 : LtO y z) : LtO x z := by
  unfold LeO LtO ltP at *; omega
theorem le_refl' (x : OpT) : LeO x x := ltP_irrefl _
/-- There is one list in order that keeps these. -/
theorem keep_one : ∀ (a b : List OpT), SrtO a → SrtO b → Keep a b → a = b
  | [], b, _, _, h => by
    cases b with
    | nil => rfl
    | cons y t => have := (h.mem y).1 (by simp); cases this
  | x :: t, [], _, _, h => by have := (h.mem x).2 (by simp); cases this
  | x :: t, y :: u, ha, hb, h => by
    have hx : x ∈ y :: u := (h.mem x).2 (by simp)
    have hy : y ∈ x :: t := (h.mem y).1 (by simp)
    have h1 : LeO x y := by
      rcases List.mem_cons.1 hy with e | e
      · rw [e]; exact le_refl' _
      · exact (List.pairwise_cons.1 ha).1 y e
    have h2 : LeO y x := by
      rcases List.mem_cons.1 hx with e | e
      · rw [e]; exact le_refl' _
      · exact (List.pairwise_cons.1 hb).1 x e
    have hk : x.a = y.a := ltP_total h2 h1
    have hf := h x.a
    have e1 : atK x.a x = true := by simp [atK]
    have e2 : atK x.a y = true := by simp [atK, hk]
    rw [List.filter_cons_of_pos e1, List.filter_cons_of_pos e2] at hf
    injection hf with hf1 hf2
    subst hf1
    have hr : Keep t u := fun c => by
      have := h c
      by_cases hc : atK c y = true
      · rw [List.filter_cons_of_pos hc, List.filter_cons_of_pos hc] at this
        injection this
      · rw [List.filter_cons_of_neg hc, List.filter_cons_of_neg hc] at this
        exact this
    rw [keep_one t u (List.pairwise_cons.1 ha).2 (List.pairwise_cons.1 hb).2 hr]

/-! ### Merging, halved -/
theorem srt_append {a b : List OpT} : SrtO (a ++ b) ↔ SrtO a ∧ SrtO b ∧ ∀ x ∈ a, ∀ y ∈ b, LeO x y := List.pairwise_append
/-- What the halves of a merge come to: x1 x2 and y1 y2 in order, x1's last is not behind y2's first, y1's last is ahead of x2's first. -/
theorem halves {x1 x2 y1 y2 z1 z2 : List OpT} (hx : SrtO (x1 ++ x2)) (hy : SrtO (y1 ++ y2)) (h1 : ∀ p ∈ x1, ∀ q ∈ y2, LeO p q) (h2 : ∀ p ∈ y1, ∀ q ∈ x2, LtO p q)
    (hz1 : SrtO z1) (hk1 : Keep (x1 ++ y1) z1) (hz2 : SrtO z2) (hk2 : Keep (x2 ++ y2) z2) : SrtO (z1 ++ z2) ∧ Keep (x1 ++ x2 ++ (y1 ++ y2)) (z1 ++ z2) := by
  obtain ⟨a1, a2, a3⟩ := srt_append.1 hx
  obtain ⟨b1, b2, b3⟩ := srt_append.1 hy
  refine ⟨srt_append.2 ⟨hz1, hz2, fun p hp q hq => ?_⟩, ?_⟩
  · rcases List.mem_append.1 ((hk1.mem p).1 hp) with hp | hp <;> rcases List.mem_append.1 ((hk2.mem q).1 hq) with hq | hq
    · exact a3 p hp q hq
    · exact h1 p hp q hq
    · exact lt_le (h2 p hp q hq)
    · exact b3 p hp q hq
  · have e : Keep (x1 ++ x2 ++ (y1 ++ y2)) (x1 ++ y1 ++ (x2 ++ y2)) := by
      rw [List.append_assoc, List.append_assoc, ← List.append_assoc x2, ← List.append_assoc y1]
      exact (Keep.refl x1).append ((Keep.turn fun x hx y hy e => lt_ne (h2 y hy x hx) e.symm).append (Keep.refl y2))
    exact e.trans (hk1.append hk2)
/-- All of a list in order is not behind its last, all not ahead of its first. -/
theorem srt_last {l : List OpT} (h : SrtO l) {i j : Nat} {x y : OpT} (hi : l[i]? = some x) (hj : l[j]? = some y) (hij : i ≤ j) : LeO x y := by
  obtain ⟨h1, rfl⟩ := List.getElem?_eq_some_iff.1 hi
  obtain ⟨h2, rfl⟩ := List.getElem?_eq_some_iff.1 hj
  rcases Nat.lt_or_eq_of_le hij with h3 | rfl
  · exact List.pairwise_iff_getElem.1 h i j h1 h2 h3
  · exact le_refl' _

/-! ### Exchanges -/
theorem set_mid (A B : List OpT) (x y : OpT) : (A ++ x :: B).set A.length y = A ++ y :: B := by
  rw [List.set_append_right _ _ (Nat.le_refl _)]
  simp
theorem get_mid (A B : List OpT) (x : OpT) : (A ++ x :: B)[A.length]? = some x := by simp
/-- Two neighbours are exchanged. -/
theorem swap_next (A B : List OpT) (x y : OpT) (i : Nat) (hi : i = A.length) : ((A ++ x :: y :: B).set (i + 1) x).set i y = A ++ y :: x :: B := by
  subst hi
  have : (A ++ x :: y :: B).set (A.length + 1) x = A ++ x :: x :: B := by
    simp
  rw [this, set_mid]
theorem swap_next' (A B : List OpT) (x y : OpT) (i : Nat) (hi : i = A.length) : ((A ++ x :: y :: B).set i y).set (i + 1) x = A ++ y :: x :: B := by
  subst hi
  rw [set_mid]
  simp
/-- Two places apart are exchanged. -/
theorem swap_far (A M B : List OpT) (x y : OpT) : ((A ++ x :: (M ++ y :: B)).set A.length y).set (A.length + 1 + M.length) x = A ++ y :: (M ++ x :: B) := by
  rw [set_mid]
  have := set_mid (A ++ y :: M) B y x
  simp only [List.append_assoc, List.cons_append, List.length_append, List.length_cons] at this
  rw [show A.length + 1 + M.length = A.length + (M.length + 1) by omega]
  exact this
end Go.Proofs.Ytcchokedfbogfaa
