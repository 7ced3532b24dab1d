/-
  The reference's Set: by lists.
-/
import Derived.Test.YtjlpdoomchkfgaaTrK
namespace Go.Proofs.Ytjlpdoomchkfgaa
set_option linter.unusedVariables false
set_option linter.unusedSimpArgs false
set_option synthInstance.maxSize 20000
set_option maxHeartbeats 2000000
set_option maxRecDepth 20000
open Go.RowKit Go.Maps

def ahT (n : S) (x : IT) : Bool := decide (ltP x.m.n n)
def beT (n : S) (x : IT) : Bool := decide (ltP n x.m.n)
def otT (n : S) (x : IT) : Bool := !decide (x.m.n = n)
/-- What Set has made of u: it stands there (inn), or not yet. -/
def stT (it : IT) (there : Bool) (u : List IT) (inn : Bool) : List IT :=
  if there = true then (if inn = true then u.filter (ahT it.m.n) ++ it :: u.filter (beT it.m.n) else u.filter (ahT it.m.n)) else u.filter (otT it.m.n)
def setT (L : List IT) (it : IT) (there : Bool) : List IT := stT it there L true
theorem setT_map (L : List IT) (it : IT) (there : Bool) : (setT L it there).map IT.m = setM (L.map IT.m) it.m there := by
  unfold setT stT setM putM delM
  cases there
  · rw [if_neg (by simp), if_neg (by simp), List.filter_map]; rfl
  · rw [if_pos rfl, if_pos rfl, if_pos rfl, List.map_append, List.map_cons, List.filter_map, List.filter_map]; rfl
theorem setT_mem {L : List IT} {it x : IT} {there : Bool} (h : x ∈ setT L it there) : x ∈ L ∨ x = it := by
  unfold setT stT at h
  cases there
  · rw [if_neg (by simp)] at h; exact .inl (List.mem_filter.1 h).1
  · rw [if_pos rfl, if_pos rfl] at h
    rcases List.mem_append.1 h with h | h
    · exact .inl (List.mem_filter.1 h).1
    · rcases List.mem_cons.1 h with h | h
      · exact .inr h
      · exact .inl (List.mem_filter.1 h).1
structure Hf (it : IT) (there : Bool) (u : List IT) (inn : Bool) (O : List IT) : Prop where
  o : O = stT it there u inn
  f : there = false → inn = true
  t : there = true → inn = u.any (beT it.m.n)
structure Md (it : IT) (there : Bool) (u : List IT) (x : IT) (inn : Bool) (O : List IT) : Prop where
  o : O = stT it there u inn
  f : there = false → inn = true
  t : there = true → inn = (u.any (beT it.m.n) || beT it.m.n x)
section
variable {it x : IT} {there inn : Bool} {u O : List IT}
theorem hf_start (it : IT) (there : Bool) : Hf it there [] (!there) [] := by
  cases there
  · exact ⟨rfl, fun _ => rfl, fun h => by cases h⟩
  · exact ⟨rfl, fun h => (by cases h), fun _ => rfl⟩
theorem Hf.mid (h : Hf it there u true O) (x : IT) : Md it there u x true O := ⟨h.o, h.f, fun e => by rw [← h.t e]; rfl⟩
theorem Hf.isThere (h : Hf it there u false O) : there = true := by
  cases there
  · have := h.f rfl; cases this
  · rfl
theorem Hf.mid_put (h : Hf it there u false O) (hlt : ltP it.m.n x.m.n) : Md it there u x true (O ++ [it]) := by
  have e := h.isThere
  subst e
  have h1 := h.t rfl
  have h2 : u.filter (beT it.m.n) = [] := by
    rw [List.filter_eq_nil_iff]
    intro y hy
    have := (List.any_eq_false.1 h1.symm) y hy
    exact this
  refine ⟨?_, fun e => (by cases e), fun _ => ?_⟩
  · rw [h.o]
    simp [stT, h2]
  · have : beT it.m.n x = true := decide_eq_true hlt
    rw [this, Bool.or_true]
theorem Hf.mid_no (h : Hf it there u false O) (hn : ¬ ltP it.m.n x.m.n) : Md it there u x false O := by
  refine ⟨h.o, h.f, fun e => ?_⟩
  have : beT it.m.n x = false := decide_eq_false hn
  rw [← h.t e, this]; rfl
theorem Md.eq (h : Md it there u x inn O) (e : x.m.n = it.m.n) : Hf it there (u ++ [x]) inn O := by
  have h1 : ahT it.m.n x = false := decide_eq_false (by rw [e]; exact ltP_irrefl _)
  have h2 : beT it.m.n x = false := decide_eq_false (by rw [e]; exact ltP_irrefl _)
  have h3 : otT it.m.n x = false := by unfold otT; rw [decide_eq_true e]; rfl
  refine ⟨?_, h.f, fun e2 => ?_⟩
  · rw [h.o]
    simp [stT, List.filter_append, h1, h2, h3]
  · rw [h.t e2, List.any_append]
    simp
theorem Md.ne (h : Md it there u x inn O) (hs : ∀ y ∈ u, ltP y.m.n x.m.n) (e : ¬ x.m.n = it.m.n) : Hf it there (u ++ [x]) inn (O ++ [x]) := by
  have h3 : otT it.m.n x = true := by unfold otT; rw [decide_eq_false e]; rfl
  refine ⟨?_, h.f, fun e2 => ?_⟩
  · rw [h.o]
    cases there
    · simp [stT, List.filter_append, h3]
    · have h1 := h.t rfl
      cases inn
      · have h4 : beT it.m.n x = false := by
          cases hb : beT it.m.n x
          · rfl
          · rw [hb, Bool.or_true] at h1; cases h1
        have h5 : ahT it.m.n x = true := by
          refine decide_eq_true ?_
          by_cases h6 : ltP x.m.n it.m.n
          · exact h6
          · exact absurd (ltP_total h6 (of_decide_eq_false h4)) e
        simp [stT, List.filter_append, h5]
      · have h4 : ltP it.m.n x.m.n := by
          cases hb : beT it.m.n x
          · rw [hb, Bool.or_false] at h1
            obtain ⟨y, hy, hy2⟩ := List.any_eq_true.1 h1.symm
            exact ltP_trans (of_decide_eq_true hy2) (hs y hy)
          · exact of_decide_eq_true hb
        have h5 : beT it.m.n x = true := decide_eq_true h4
        have h6 : ahT it.m.n x = false := decide_eq_false fun h7 => ltP_irrefl _ (ltP_trans h4 h7)
        simp [stT, List.filter_append, h5, h6]
  · rw [h.t e2, List.any_append]
    simp
theorem Hf.done_in (h : Hf it there u true O) : O = setT u it there := h.o
theorem Hf.done_no (h : Hf it there u false O) : O ++ [it] = setT u it there := by
  have e := h.isThere
  subst e
  have h1 := h.t rfl
  have h2 : u.filter (beT it.m.n) = [] := by
    rw [List.filter_eq_nil_iff]
    intro y hy
    have := (List.any_eq_false.1 h1.symm) y hy
    exact this
  rw [h.o]
  simp [setT, stT, h2]
end
theorem srtI_ahead {L u r : List IT} {x : IT} (h : SrtI (L.map IT.m)) (e : L = u ++ x :: r) : ∀ y ∈ u, ltP y.m.n x.m.n := fun y hy => by
  subst e
  rw [List.map_append] at h
  exact (List.pairwise_append.1 h).2.2 _ (List.mem_map.2 ⟨y, hy, rfl⟩) _ (by simp)
end Go.Proofs.Ytjlpdoomchkfgaa
