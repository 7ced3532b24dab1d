/-
  A buffer by a plain list that rises by writer and index: what holding, taking, running and dropping make of it; a heap that has the same entries.
-/
import Derived.Test.YtigfklcclfpcjaaInOrd
namespace Go.Proofs.Ytigfklcclfpcjaa
set_option linter.unusedVariables false
set_option linter.unusedSimpArgs false
set_option synthInstance.maxSize 20000
set_option maxHeartbeats 2000000
set_option maxRecDepth 20000
open Go.RowKit Go.Maps

/-- Entries that rise. -/
def Srt (M : List Ent) : Prop := M.Pairwise (fun e f => keyB e f = true)
theorem keyB_iff (e f : Ent) : keyB e f = true ↔ (e.w < f.w ∨ e.w = f.w ∧ e.i < f.i) := (decide_eq_true_iff : _ ↔ ltP (e.w, e.i) (f.w, f.i))
theorem keyB_no (e f : Ent) : keyB e f = false ↔ ¬ (e.w < f.w ∨ e.w = f.w ∧ e.i < f.i) := (decide_eq_false_iff_not : _ ↔ ¬ ltP (e.w, e.i) (f.w, f.i))
theorem atB_iff (a b : Int) (e : Ent) : atB a b e = true ↔ e.w = a ∧ e.i = b := decide_eq_true_iff
theorem atB_no (a b : Int) (e : Ent) : atB a b e = false ↔ ¬ (e.w = a ∧ e.i = b) := decide_eq_false_iff_not
theorem earlyB_iff (a b : Int) (e : Ent) : earlyB a b e = true ↔ e.w = a ∧ e.i < b := decide_eq_true_iff
theorem earlyB_no (a b : Int) (e : Ent) : earlyB a b e = false ↔ ¬ (e.w = a ∧ e.i < b) := decide_eq_false_iff_not
theorem srt_uniq {M : List Ent} (h : Srt M) {e f : Ent} (he : e ∈ M) (hf : f ∈ M) (h1 : e.w = f.w) (h2 : e.i = f.i) : e = f := by
  unfold Srt at h
  induction M with
  | nil => cases he
  | cons x M ih =>
    obtain ⟨hx, hM⟩ := List.pairwise_cons.1 h
    rcases List.mem_cons.1 he with r | he'
    · rcases List.mem_cons.1 hf with r' | hf'
      · rw [r, r']
      · subst r
        have := (keyB_iff _ _).1 (hx f hf')
        omega
    · rcases List.mem_cons.1 hf with r' | hf'
      · subst r'
        have := (keyB_iff _ _).1 (hx e he')
        omega
      · exact ih hM he' hf'
theorem srt_one {M : List Ent} (h : Srt M) {e : Ent} (he : e ∈ M) : M.filter (atB e.w e.i) = [e] := by
  have hs : Srt (M.filter (atB e.w e.i)) := List.Pairwise.filter _ h
  have hall : ∀ f ∈ M.filter (atB e.w e.i), f = e := fun f hf => by
    obtain ⟨h1, h2⟩ := List.mem_filter.1 hf
    have := (atB_iff _ _ _).1 h2
    exact srt_uniq h h1 he this.1 this.2
  have hmem : e ∈ M.filter (atB e.w e.i) := List.mem_filter.2 ⟨he, (atB_iff _ _ _).2 ⟨rfl, rfl⟩⟩
  match hl : M.filter (atB e.w e.i) with
  | [] => rw [hl] at hmem; cases hmem
  | [a] => rw [hall a (by rw [hl]; simp)]
  | a :: b :: r =>
    rw [hl] at hs
    have h1 := (List.pairwise_cons.1 hs).1 b (by simp)
    rw [hall a (by rw [hl]; simp), hall b (by rw [hl]; simp)] at h1
    have := (keyB_iff _ _).1 h1
    omega

/-- One more, where it stands. -/
def insM (e : Ent) : List Ent → List Ent
  | [] => [e]
  | f :: M => if keyB f e then f :: insM e M else e :: f :: M
theorem ins_perm (e : Ent) (M : List Ent) : (insM e M).Perm (e :: M) := by
  induction M with
  | nil => exact List.Perm.refl _
  | cons f M ih =>
    unfold insM
    split
    · exact (List.Perm.cons f ih).trans (List.Perm.swap e f M)
    · exact List.Perm.refl _
theorem ins_srt {e : Ent} {M : List Ent} (h : Srt M) (hn : ∀ f ∈ M, atB e.w e.i f = false) : Srt (insM e M) := by
  unfold Srt at *
  induction M with
  | nil => exact List.pairwise_singleton _ _
  | cons f M ih =>
    obtain ⟨hf, hM⟩ := List.pairwise_cons.1 h
    have hne := (atB_no _ _ _).1 (hn f (by simp))
    unfold insM
    split
    · rename_i hk
      refine List.pairwise_cons.2 ⟨fun g hg => ?_, ih hM (fun g hg => hn g (List.mem_cons_of_mem _ hg))⟩
      rcases List.mem_cons.1 ((ins_perm e M).mem_iff.1 hg) with rfl | r
      · exact hk
      · exact hf g r
    · rename_i hk
      have hk' := (keyB_no f e).1 (by simpa using hk)
      refine List.pairwise_cons.2 ⟨fun g hg => ?_, h⟩
      have h1 : keyB e f = true := (keyB_iff _ _).2 (by omega)
      rcases List.mem_cons.1 hg with rfl | r
      · exact h1
      · have h2 := (keyB_iff _ _).1 (hf g r)
        have h3 := (keyB_iff _ _).1 h1
        exact (keyB_iff _ _).2 (by omega)
theorem ins_length (e : Ent) (M : List Ent) : (insM e M).length = M.length + 1 := (ins_perm e M).length_eq

def findM (M : List Ent) (a b : Int) : Option Ent := M.find? (atB a b)
def lessM (M : List Ent) (a b : Int) : List Ent := M.filter (fun f => !atB a b f)
def dropM (M : List Ent) (a b : Int) : List Ent := M.filter (fun f => !earlyB a b f)
/-- What Hold answers, and leaves. -/
def holdM (most : Int) (M : List Ent) (e : Ent) : Int × List Ent :=
  if rightB e = true then
    match findM M e.w e.i with
    | some f => (if sameB f e then 8 else 9, M)
    | none => if most ≤ M.length then (3, M) else (0, insM e M)
  else (1, M)
theorem findM_some {M : List Ent} {a b : Int} {e : Ent} (h : findM M a b = some e) : e ∈ M ∧ e.w = a ∧ e.i = b := ⟨List.mem_of_find?_eq_some h, (atB_iff _ _ _).1 (List.find?_some h)⟩
theorem findM_none {M : List Ent} {a b : Int} (h : findM M a b = none) : ∀ f ∈ M, atB a b f = false := fun f hf => by simpa using List.find?_eq_none.1 h f hf
theorem findM_mem {M : List Ent} (h : Srt M) {e : Ent} (he : e ∈ M) : findM M e.w e.i = some e := by
  cases hf : findM M e.w e.i with
  | none =>
    have := findM_none hf e he
    rw [(atB_iff _ _ _).2 ⟨rfl, rfl⟩] at this
    cases this
  | some f =>
    obtain ⟨h1, h2, h3⟩ := findM_some hf
    rw [srt_uniq h h1 he h2 h3]
theorem lessM_none {M : List Ent} {a b : Int} (h : findM M a b = none) : lessM M a b = M := List.filter_eq_self.2 (fun f hf => by rw [findM_none h f hf]; rfl)
theorem lessM_perm {M : List Ent} (h : Srt M) {e : Ent} (he : e ∈ M) : (lessM M e.w e.i ++ [e]).Perm M := by
  have h1 := List.filter_append_perm (atB e.w e.i) M
  rw [srt_one h he] at h1
  exact (List.perm_append_comm (l₁ := lessM M e.w e.i) (l₂ := [e])).trans h1
theorem lessM_length {M : List Ent} (h : Srt M) {e : Ent} (he : e ∈ M) : (lessM M e.w e.i).length + 1 = M.length := by
  have := (lessM_perm h he).length_eq
  simpa using this
theorem lessM_srt {M : List Ent} (h : Srt M) (a b : Int) : Srt (lessM M a b) := List.Pairwise.filter _ h
theorem dropM_srt {M : List Ent} (h : Srt M) (a b : Int) : Srt (dropM M a b) := List.Pairwise.filter _ h

/-- What Run answers, and leaves. -/
def runM : Nat → List Ent → Int → Int → List Ent × List Ent
  | 0, M, _, _ => ([], M)
  | n + 1, M, a, i => match findM M a i with
    | none => ([], M)
    | some e => (e :: (runM n (lessM M a i) a (i + 1)).1, (runM n (lessM M a i) a (i + 1)).2)
theorem runM_more {n m : Nat} {M : List Ent} {a i : Int} (hs : Srt M) (h : M.length ≤ n) (h2 : M.length ≤ m) : runM n M a i = runM m M a i := by
  induction n generalizing m M i with
  | zero =>
    have : M = [] := List.eq_nil_of_length_eq_zero (by omega)
    subst this
    cases m <;> rfl
  | succ n ih =>
    cases m with
    | zero =>
      have : M = [] := List.eq_nil_of_length_eq_zero (by omega)
      subst this
      rfl
    | succ m =>
      unfold runM
      cases hf : findM M a i with
      | none => rfl
      | some e =>
        obtain ⟨h3, h4, h5⟩ := findM_some hf
        have h6 := lessM_length hs h3
        rw [h4, h5] at h6
        dsimp only
        rw [ih (m := m) (lessM_srt hs a i) (by omega) (by omega)]

/-- The heap ps has the entries M. -/
structure Has (ps : List (Ent × Value)) (M : List Ent) : Prop where
  heap : HeapF ltQ (fn zq ps) ps.length
  perm : (ps.map (·.1)).Perm M
  srt : Srt M
theorem Has.len {ps : List (Ent × Value)} {M : List Ent} (h : Has ps M) : ps.length = M.length := by
  have := h.perm.length_eq
  rwa [List.length_map] at this
theorem Has.mem {ps : List (Ent × Value)} {M : List Ent} (h : Has ps M) {q : Ent × Value} (hq : q ∈ ps) : q.1 ∈ M := h.perm.mem_iff.1 (List.mem_map_of_mem hq)
theorem Has.of_mem {ps : List (Ent × Value)} {M : List Ent} (h : Has ps M) {e : Ent} (he : e ∈ M) : ∃ x, (e, x) ∈ ps := by
  obtain ⟨q, hq, rfl⟩ := List.mem_map.1 (h.perm.mem_iff.2 he)
  exact ⟨q.2, hq⟩
theorem has_nil : Has [] [] := ⟨fun k h0 hk => by simp at hk, List.Perm.refl _, List.Pairwise.nil⟩
theorem Has.put {ps qs : List (Ent × Value)} {M : List Ent} {e : Ent} {x : Value} (h : Has ps M) (hn : findM M e.w e.i = none) (hq : Heaped (ps ++ [(e, x)]) qs) : Has qs (insM e M) := by
  refine ⟨hq.heap, ?_, ins_srt h.srt (findM_none hn)⟩
  refine (hq.perm.map _).trans ?_
  rw [List.map_append]
  refine List.Perm.trans ?_ (ins_perm e M).symm
  exact (List.Perm.append_right _ h.perm).trans (List.perm_append_comm (l₁ := M) (l₂ := [e]))
theorem Has.less {ps qs : List (Ent × Value)} {M : List Ent} {q : Ent × Value} (h : Has ps M) (hm : q.1 ∈ M) (hq : HeapedBut ps q qs) : Has qs (lessM M q.1.w q.1.i) := by
  refine ⟨hq.heap, ?_, lessM_srt h.srt _ _⟩
  have h1 := (hq.perm.map (·.1)).trans h.perm
  rw [List.map_append] at h1
  exact (List.perm_append_right_iff [q.1]).1 (h1.trans (lessM_perm h.srt hm).symm)
/-- In order they are M. -/
theorem Has.inOrd {ps rs : List (Ent × Value)} {M : List Ent} (h : Has ps M) (hr : InOrd ps rs) : rs.map (·.1) = M := by
  refine List.Perm.eq_of_pairwise (le := fun e f => keyB f e = false) (fun a b ha hb h1 h2 => ?_) ?_ ?_ ((hr.perm.map _).trans h.perm)
  · have ha' : a ∈ M := ((hr.perm.map _).trans h.perm).mem_iff.1 ha
    rw [keyB_no] at h1 h2
    exact srt_uniq h.srt ha' hb (by omega) (by omega)
  · rw [List.pairwise_map]
    exact hr.sorted
  · exact List.Pairwise.imp (fun {a b} hab => by rw [keyB_iff] at hab; rw [keyB_no]; omega) h.srt
/-- The first one. -/
theorem Has.first {ps : List (Ent × Value)} {M : List Ent} (h : Has ps M) {q : Ent × Value} (hq : ps[0]? = some q) : M.head? = some q.1 := by
  have hm := h.mem (List.mem_of_getElem? hq)
  cases M with
  | nil => cases hm
  | cons e M =>
    rcases List.mem_cons.1 hm with r | r
    · rw [r]; rfl
    · exfalso
      have h1 := (keyB_iff _ _).1 ((List.pairwise_cons.1 h.srt).1 _ r)
      obtain ⟨x, hx⟩ := h.of_mem (e := e) (by simp)
      obtain ⟨k, hk⟩ := List.mem_iff_getElem?.1 hx
      have h2 := h.heap.least ltQ_ahead (k := k) (List.getElem?_eq_some_iff.1 hk).1
      rw [fn_some hk, fn_some hq] at h2
      have h3 := (keyB_no _ _).1 h2
      dsimp only at h3
      omega
end Go.Proofs.Ytigfklcclfpcjaa
