/-
  The reference's lists of stamps: an insertion, lists, slices of rows.
-/
import Derived.Test.YtmifionpagpnfaaStrict
namespace Go.Proofs.Ytmifionpagpnfaa
set_option linter.unusedVariables false
open Go.RowKit

/-- x put at place q. -/
def insAt (o : List S) (q : Nat) (x : S) : List S := o.take q ++ [x] ++ o.drop q

theorem ins_mem (o : List S) (q : Nat) (x s : S) : s ∈ insAt o q x ↔ s ∈ o ∨ s = x := by
  unfold insAt
  rw [List.mem_append, List.mem_append, List.mem_singleton]
  have : s ∈ o ↔ s ∈ o.take q ∨ s ∈ o.drop q := by rw [← List.mem_append, List.take_append_drop]
  rw [this]
  constructor
  · rintro ((h | h) | h)
    · exact .inl (.inl h)
    · exact .inr h
    · exact .inl (.inr h)
  · rintro ((h | h) | h)
    · exact .inl (.inl h)
    · exact .inr h
    · exact .inl (.inr h)

theorem ins_len (o : List S) (q : Nat) (x : S) (h : q ≤ o.length) : (insAt o q x).length = o.length + 1 := by
  unfold insAt
  simp
  omega

theorem ins_rises {o : List S} {q : Nat} {x : S} (hr : Rises o) (h1 : ∀ i, i < q → i < o.length → ltP (o.getD i (0, 0)) x) (h2 : q < o.length → ltP x (o.getD q (0, 0))) : Rises (insAt o q x) := by
  have hsplit : Rises (o.take q ++ o.drop q) := by rw [List.take_append_drop]; exact hr
  obtain ⟨ha, hb, hab⟩ := List.pairwise_append.1 hsplit
  have hlow : ∀ s ∈ o.take q, ltP s x := fun s hs => by
    obtain ⟨i, hi, rfl⟩ := List.mem_iff_getElem.1 hs
    have hi' : i < q ∧ i < o.length := by rw [List.length_take] at hi; omega
    have := h1 i hi'.1 hi'.2
    rw [List.getD_eq_getElem?_getD, List.getElem?_eq_getElem hi'.2, Option.getD_some] at this
    simpa using this
  have hup : ∀ s ∈ o.drop q, ltP x s := fun s hs => by
    by_cases hq : q < o.length
    · have hd := drop_getD hq
      rw [hd] at hs hb
      rcases List.mem_cons.1 hs with r | r
      · rw [r]; exact h2 hq
      · exact ltP_trans (h2 hq) ((List.pairwise_cons.1 hb).1 s r)
    · rw [List.drop_eq_nil_of_le (by omega)] at hs
      cases hs
  unfold insAt Rises
  rw [List.append_assoc]
  refine List.pairwise_append.2 ⟨ha, List.pairwise_append.2 ⟨by simp, hb, fun a ha' b hb' => ?_⟩, fun a ha' b hb' => ?_⟩
  · rw [List.mem_singleton.1 ha']; exact hup b hb'
  · rcases List.mem_append.1 hb' with r | r
    · rw [List.mem_singleton.1 r]; exact hlow a ha'
    · exact hab a ha' b r

theorem rdS_head {w : World} {a : Option Addr} {cap s : Nat} {l : List S} (h : RdS w (.slice a l.length cap) l) (hs : s ≤ l.length) : RdS w (.slice a s cap) (l.take s) := by
  obtain ⟨ho, a', cap', e, h1, h2, h3, h4⟩ := h
  obtain ⟨rfl, rfl⟩ : a = a' ∧ cap = cap' := by simpa using e
  have hl : (l.take s).length = s := by rw [List.length_take]; omega
  refine ⟨fun x hx => ho x (List.mem_of_mem_take hx), a, cap, by rw [hl], by omega, h2, h3, fun hp => ?_⟩
  obtain ⟨b, off, rfl, hc⟩ := h4 (by omega)
  refine ⟨b, off, rfl, fun j hj => ?_⟩
  rw [hl] at hj
  rw [List.getD_eq_getElem?_getD, List.getElem?_take, if_pos hj, ← List.getD_eq_getElem?_getD]
  exact hc j (by omega)

theorem rdS_cut {w : World} {b off cap s : Nat} {l : List S} (h : RdS w (.slice (some ⟨b, off, none⟩) l.length cap) l) (hs : s ≤ l.length) : RdS w (.slice (some ⟨b, off + s * 2, none⟩) (l.length - s) (cap - s)) (l.drop s) := by
  obtain ⟨ho, a', cap', e, h1, h2, h3, h4⟩ := h
  obtain ⟨rfl, rfl⟩ : some ⟨b, off, none⟩ = a' ∧ cap = cap' := by simpa using e
  refine ⟨fun x hx => ho x (List.mem_of_mem_drop hx), _, cap - s, by rw [List.length_drop], by rw [List.length_drop]; omega, by omega, (fun h => by cases h), fun hp => ?_⟩
  rw [List.length_drop] at hp
  obtain ⟨b', off', e', hc⟩ := h4 (by omega)
  cases e'
  refine ⟨b, off + s * 2, rfl, fun j hj => ?_⟩
  rw [List.length_drop] at hj
  have := hc (s + j) (by omega)
  rw [show off + (s + j) * 2 = off + s * 2 + j * 2 by omega] at this
  simpa [List.getD_eq_getElem?_getD] using this

theorem rdS_none (w : World) (a : Option Addr) : RdS w (.slice a 0 0) [] := ⟨(fun _ h => by cases h), a, 0, rfl, Nat.le_refl _, Nat.zero_le _, fun _ => rfl, fun h => by simp at h⟩

theorem OwnS.lower {B B' : Nat} {w : World} {v : Value} {l : List S} (h : OwnS B w v l) (hB : B' ≤ B) : OwnS B' w v l := by
  obtain ⟨h0, h1, h2⟩ := h
  refine ⟨h0, h1, ?_⟩
  rcases h2 with h2 | ⟨g, cap, cur, rfl, hb, hg, hn, hc, hs, ht⟩
  · exact .inl h2
  · exact .inr ⟨g, cap, cur, rfl, Nat.le_trans hB hb, hg, hn, hc, hs, ht⟩

/-- The last of those that rise is the greatest. -/
theorem maxFrom_ge : ∀ (l : List S) (m : S), (∀ s ∈ m :: l, ¬ ltP (maxFrom m l) s) ∧ maxFrom m l ∈ m :: l
  | [], m => by simp [maxFrom]
  | x :: r, m => by
    by_cases h : ltP m x
    · have e : maxFrom m (x :: r) = maxFrom x r := by rw [maxFrom, if_pos h]
      obtain ⟨h1, h2⟩ := maxFrom_ge r x
      rw [e]
      refine ⟨fun s hs => ?_, List.mem_cons_of_mem _ h2⟩
      rcases List.mem_cons.1 hs with q | q
      · rw [q]; exact fun hl => h1 x List.mem_cons_self (ltP_trans hl h)
      · exact h1 s q
    · have e : maxFrom m (x :: r) = maxFrom m r := by rw [maxFrom, if_neg h]
      obtain ⟨h1, h2⟩ := maxFrom_ge r m
      rw [e]
      refine ⟨fun s hs => ?_, ?_⟩
      · rcases List.mem_cons.1 hs with q | q
        · rw [q]; exact h1 m List.mem_cons_self
        · rcases List.mem_cons.1 q with q | q
          · rw [q]
            intro hl
            have h3 := h1 m List.mem_cons_self
            unfold ltP at *
            omega
          · exact h1 s (List.mem_cons_of_mem _ q)
      · rcases List.mem_cons.1 h2 with q | q
        · rw [q]; exact List.mem_cons_self
        · exact List.mem_cons_of_mem _ (List.mem_cons_of_mem _ q)

theorem maxS_last (l : List S) (hl : 0 < l.length) : maxS l = (sortS l).getD ((sortS l).length - 1) (0, 0) := by
  have hm : maxS l ∈ l ∧ ∀ s ∈ l, ¬ ltP (maxS l) s := by
    cases l with
    | nil => simp at hl
    | cons x r => exact ⟨(maxFrom_ge r x).2, (maxFrom_ge r x).1⟩
  have hpos : 0 < (sortS l).length := List.length_pos_of_mem ((mem_sortS l _).2 hm.1)
  have hr := sortS_rises l
  have hme : (sortS l).getD ((sortS l).length - 1) (0, 0) ∈ sortS l := by
    rw [List.getD_eq_getElem?_getD, List.getElem?_eq_getElem (by omega)]
    exact List.getElem_mem _
  obtain ⟨i, hi, he⟩ := List.mem_iff_getElem.1 ((mem_sortS l _).2 hm.1)
  by_cases hii : i = (sortS l).length - 1
  · rw [List.getD_eq_getElem?_getD, List.getElem?_eq_getElem (by omega), ← he]
    simp [hii]
  · exfalso
    have := List.pairwise_iff_getElem.1 hr i ((sortS l).length - 1) hi (by omega) (by omega)
    rw [he] at this
    refine hm.2 _ ((mem_sortS l _).1 hme) ?_
    rwa [List.getD_eq_getElem?_getD, List.getElem?_eq_getElem (by omega)]
theorem sortS_nil {l : List S} (hl : l = []) : sortS l = [] := by
  subst hl
  have := sortS_len []
  exact List.eq_nil_of_length_eq_zero (by simpa using this)
end Go.Proofs.Ytmifionpagpnfaa
