/-
  A region that draws its order, and whose last step is a store: what is asked of all worlds ahead of it is not asked behind it.
-/
import Derived.Test.YtgoghmabhdkdjaaChain
namespace Go.Proofs.Ytgoghmabhdkdjaa
set_option linter.unusedVariables false
set_option linter.unusedSimpArgs false

/-- Does z wait for i? -/
def depB (md : Region.Mode) (ops : Array Oper) (z i : Nat) : Bool := match ops[z]? with
  | some o => o.after.any (fun e => Region.binds md e && e.on == i)
  | none => false

section
variable {P : Program} {ops : Array Oper} {C : World → Prop} {Q : Exit → Act → World → Prop}

theorem dep_not {md : Region.Mode} {listed : Array Bool} {z i : Nat} (h : depB md ops z i = true) (hz : z ∈ Region.ready md ops listed) (hi : i ∈ Region.ready md ops listed) : False := by
  obtain ⟨_, oz, hoz, hall⟩ := mem_ready.1 hz
  have hun := (mem_ready.1 hi).1
  unfold depB at h
  rw [hoz] at h
  obtain ⟨e, he, hb⟩ := Array.any_eq_true'.1 h
  simp only [Bool.and_eq_true, beq_iff_eq] at hb
  have h1 := hall e he hb.1
  rw [hb.2, getD_both hun] at h1
  cases h1

def GoodZ (md : Region.Mode) (ops : Array Oper) (z : Nat) : (n : Nat) → Array Bool → OT n → Prop
  | 0, listed, _ => Region.ready md ops listed = [z] ∧ Region.ready md ops (listed.setIfInBounds z true) = []
  | n + 1, listed, Sum.inl (false, i, t) => i ∈ Region.ready md ops listed ∧ Region.free md ops listed i = true ∧ depB md ops z i = true ∧ GoodZ md ops z n (listed.setIfInBounds i true) t
  | n + 1, listed, Sum.inl (true, i, t) => Region.ready md ops listed = [i] ∧ GoodZ md ops z n (listed.setIfInBounds i true) t
  | n + 1, listed, Sum.inr (i, t, j, u) => i ≠ j ∧ (∀ k ∈ Region.ready md ops listed, k = i ∨ k = j) ∧ i ∈ Region.ready md ops listed ∧ GoodZ md ops z n (listed.setIfInBounds i true) t ∧ GoodZ md ops z n (listed.setIfInBounds j true) u

theorem treeZ_split {md : Region.Mode} {z : Nat} (hsel : Region.noSelect ops = true) : ∀ (n : Nat) (T : OT (n + 1)) (listed : Array Bool), GoodZ md ops z (n + 1) listed T → ∀ j, j ∈ Region.ready md ops listed →
    ∃ (m : Bool) (T' : OT n), GoodZ md ops z n (listed.setIfInBounds j true) T' ∧ ∀ a w, wpTree P ops C Q (n + 1) T a w → stepAt P ops C m j (wpTree P ops C Q n T') a w
  | n, Sum.inl (true, i, t), listed, hg, j, hj => by
    obtain ⟨g1, g2⟩ := hg
    rw [g1] at hj
    simp at hj
    subst hj
    exact ⟨true, t, g2, fun a w h => h⟩
  | n, Sum.inr (i, t, k, u), listed, hg, j, hj => by
    obtain ⟨g1, g2, g3, g4, g5⟩ := hg
    rcases g2 j hj with rfl | rfl
    · exact ⟨true, t, g4, fun a w h => h.1⟩
    · exact ⟨true, u, g5, fun a w h => h.2⟩
  | 0, Sum.inl (false, i, t), listed, hg, j, hj => by
    obtain ⟨g1, g2, gd, g3⟩ := hg
    by_cases hji : j = i
    · subst hji
      exact ⟨false, t, g3, fun a w h => h⟩
    · have h1 := ready_mono hj hji
      rw [g3.1] at h1
      simp at h1
      subst h1
      exact (dep_not gd hj g1).elim
  | n + 1, Sum.inl (false, i, t), listed, hg, j, hj => by
    obtain ⟨g1, g2, gd, g3⟩ := hg
    by_cases hji : j = i
    · subst hji
      exact ⟨false, t, g3, fun a w h => h⟩
    · obtain ⟨m, T', h1, h3⟩ := treeZ_split hsel n t _ g3 j (ready_mono hj hji)
      have hun := (mem_ready.1 g1).1
      obtain ⟨_, oi, hoi, _⟩ := mem_ready.1 g1
      obtain ⟨hjun, oj, hoj, hall⟩ := mem_ready.1 hj
      have hnot : ∀ e ∈ oj.after, Region.binds md e = true → e.on ≠ i := fun e he hb heq => by
        have h1 := hall e he hb
        rw [heq, getD_both hun] at h1
        cases h1
      refine ⟨m, OT.still i T', ⟨ready_mono g1 (Ne.symm hji), free_more g2, gd, ?_⟩, fun a w h => ?_⟩
      · rw [Array.setIfInBounds_comm _ _ hji]
        exact h1
      · obtain ⟨o, ho, hs⟩ := h
        rw [hoi] at ho
        cases ho
        unfold stepOp at hs
        rw [if_neg (by simp)] at hs
        obtain ⟨v, hy, hk⟩ := hs
        obtain ⟨o', ho', hs'⟩ := h3 _ _ hk
        rw [hoj] at ho'
        cases ho'
        refine ⟨oj, hoj, stepOp_mono (fun a' w' h' => ?_) (still_late (fun cs b => Region.noSelect_spec hsel i oi cs b hoi) (fun cs b => Region.noSelect_spec hsel j oj cs b hoj) (Region.free_spec hoi g2 j oj hoj hji hjun hnot) hy hs')⟩
        refine ⟨oi, hoi, ?_⟩
        unfold stepOp
        rw [if_neg (by simp)]
        exact ⟨v, h'.1, h'.2⟩

theorem goodZ_ready {md : Region.Mode} {z n : Nat} {listed : Array Bool} : ∀ (T : OT (n + 1)), GoodZ md ops z (n + 1) listed T → Region.ready md ops listed ≠ []
  | Sum.inl (false, i, t), hg => List.ne_nil_of_mem hg.1
  | Sum.inl (true, i, t), hg => by rw [hg.1]; exact List.cons_ne_nil _ _
  | Sum.inr (i, t, j, u), hg => List.ne_nil_of_mem hg.2.2.1

/-- What is asked at the last step. -/
def lastQ (P : Program) (ops : Array Oper) (Q : Exit → Act → World → Prop) (oz : Oper) : Exit → Act → World → Prop := fun _ a w => Region.wanted oz (yielded ops a.tmps) = true ∧ oz.wp P a w (fun a' w' => Q .normal a' w') noExit

theorem wpAny_of_treeZ {md : Region.Mode} {z : Nat} {oz : Oper} (hz : ops[z]? = some oz) (hsel : Region.noSelect ops = true) : ∀ (f : Nat) (T : OT f) (listed : Array Bool) (a : Act) (w : World), GoodZ md ops z f listed T → C w → wpTree P ops C (lastQ P ops Q oz) f T a w → wpAny P md ops Q (f + 1) listed a w
  | 0, T, listed, a, w, hg, hw, h => by
    refine ⟨fun h0 => ?_, fun j hj => ?_⟩
    · rw [hg.1] at h0
      cases h0
    · rw [hg.1] at hj
      simp at hj
      subst hj
      have h' : lastQ P ops Q oz .normal a w := h
      refine wpOp_of_stepOp (m := true) (C := fun _ => True) (K := fun a' w' => Q .normal a' w') hz trivial (fun a' w' _ hk => ?_) ?_
      · exact ⟨hg.2, hk⟩
      · unfold stepOp
        rw [if_pos rfl]
        exact ⟨h'.1, Oper.wp_mono (fun a' w' hk => ⟨trivial, hk⟩) h'.2⟩
  | f + 1, T, listed, a, w, hg, hw, h => by
    refine ⟨fun h0 => absurd h0 (goodZ_ready T hg), fun j hj => ?_⟩
    obtain ⟨m, T', h1, h3⟩ := treeZ_split (P := P) (C := C) (Q := lastQ P ops Q oz) hsel _ T listed hg j hj
    obtain ⟨oj, hoj, hs⟩ := h3 a w h
    exact wpOp_of_stepOp hoj hw (fun a' w' hw' hk => wpAny_of_treeZ hz hsel f T' _ a' w' h1 hw' hk) hs
end

def goodZB (md : Region.Mode) (ops : Array Oper) (z : Nat) : (n : Nat) → Array Bool → OT n → Bool
  | 0, listed, _ => Region.ready md ops listed == [z] && (Region.ready md ops (listed.setIfInBounds z true)).isEmpty
  | n + 1, listed, Sum.inl (false, i, t) => (Region.ready md ops listed).contains i && Region.free md ops listed i && depB md ops z i && goodZB md ops z n (listed.setIfInBounds i true) t
  | n + 1, listed, Sum.inl (true, i, t) => Region.ready md ops listed == [i] && goodZB md ops z n (listed.setIfInBounds i true) t
  | n + 1, listed, Sum.inr (i, t, j, u) => i != j && (Region.ready md ops listed).all (fun k => k == i || k == j) && (Region.ready md ops listed).contains i && goodZB md ops z n (listed.setIfInBounds i true) t && goodZB md ops z n (listed.setIfInBounds j true) u

theorem goodZ_of_B {md : Region.Mode} {ops : Array Oper} {z : Nat} : ∀ (n : Nat) (T : OT n) (listed : Array Bool), goodZB md ops z n listed T = true → GoodZ md ops z n listed T
  | 0, T, listed, h => by
    simp only [goodZB, Bool.and_eq_true, beq_iff_eq] at h
    exact ⟨h.1, List.isEmpty_iff.1 h.2⟩
  | n + 1, Sum.inl (false, i, t), listed, h => by
    simp only [goodZB, Bool.and_eq_true] at h
    obtain ⟨⟨⟨h2, h3⟩, h5⟩, h4⟩ := h
    exact ⟨by simpa using h2, h3, h5, goodZ_of_B n t _ h4⟩
  | n + 1, Sum.inl (true, i, t), listed, h => by
    simp only [goodZB, Bool.and_eq_true, beq_iff_eq] at h
    exact ⟨h.1, goodZ_of_B n t _ h.2⟩
  | n + 1, Sum.inr (i, t, j, u), listed, h => by
    simp only [goodZB, Bool.and_eq_true, bne_iff_ne, ne_eq, List.all_eq_true, Bool.or_eq_true, beq_iff_eq] at h
    obtain ⟨⟨⟨⟨h2, h3⟩, h4⟩, h5⟩, h6⟩ := h
    exact ⟨h2, h3, by simpa using h4, goodZ_of_B n t _ h5, goodZ_of_B n u _ h6⟩

def treeZB (ops : Array Oper) (z n : Nat) (T : OT n) : Bool := Region.noSelect ops && ops.size == n + 1 && goodZB .any ops z n (Array.replicate ops.size false) T

/-- A region that draws, walked along a tree; the step z is the last one. -/
theorem wp_region_treeZ {P : Program} {C : World → Prop} {Q : Exit → Act → World → Prop} {id : Nat} {a : Act} {w : World} {l : List Oper} {n : Nat} (z : Nat) {oz : Oper} (T : OT n) (hz : l[z]? = some oz) (hm : P.follows .mixedOrders = true) (hB : treeZB l.toArray z n T = true) (hC : C w.drew)
    (h : wpTree P l.toArray C (lastQ P l.toArray Q oz) n T a w.drew) : (Code.region id l.toArray true).wp P Q a w := by
  simp only [treeZB, Bool.and_eq_true, beq_iff_eq] at hB
  obtain ⟨⟨h1, hs⟩, h2⟩ := hB
  have := wpAny_of_treeZ (P := P) (C := C) (Q := Q) (oz := oz) (by simpa using hz) h1 _ T _ _ _ (goodZ_of_B _ T _ h2) hC h
  rw [← hs] at this
  exact wp_region_any hm this
end Go.Proofs.Ytgoghmabhdkdjaa
