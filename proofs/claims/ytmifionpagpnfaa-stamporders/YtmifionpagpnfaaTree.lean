/-
  A statement whose order is drawn, walked along a tree: where two steps that turn memory are ready at once, both ways are walked; all else comes up in one order that was chosen.
-/
import Derived.Test.YtmifionpagpnfaaChain
namespace Go.Proofs.Ytmifionpagpnfaa
set_option linter.unusedVariables false

/-- Which step comes next, n of them: a still one (false) or the one step that turns memory that is ready (true); or one of the two that are. -/
def OT : Nat → Type
  | 0 => Unit
  | n + 1 => (Bool × Nat × OT n) ⊕ (Nat × OT n × Nat × OT n)
def OT.done : OT 0 := ()
def OT.still {n : Nat} (i : Nat) (t : OT n) : OT (n + 1) := Sum.inl (false, i, t)
def OT.one {n : Nat} (i : Nat) (t : OT n) : OT (n + 1) := Sum.inl (true, i, t)
def OT.two {n : Nat} (i : Nat) (t : OT n) (j : Nat) (u : OT n) : OT (n + 1) := Sum.inr (i, t, j, u)

section
variable {P : Program} {ops : Array Oper} {C : World → Prop} {Q : Exit → Act → World → Prop}

def stepAt (P : Program) (ops : Array Oper) (C : World → Prop) (mem : Bool) (i : Nat) (K : Act → World → Prop) (a : Act) (w : World) : Prop := ∃ o, ops[i]? = some o ∧ stepOp P ops C mem o K a w

def wpTree (P : Program) (ops : Array Oper) (C : World → Prop) (Q : Exit → Act → World → Prop) : (n : Nat) → OT n → Act → World → Prop
  | 0, _, a, w => Q .normal a w
  | n + 1, Sum.inl (m, i, t), a, w => stepAt P ops C m i (wpTree P ops C Q n t) a w
  | n + 1, Sum.inr (i, t, j, u), a, w => stepAt P ops C true i (wpTree P ops C Q n t) a w ∧ stepAt P ops C true j (wpTree P ops C Q n u) a w

def GoodT (md : Region.Mode) (ops : Array Oper) : (n : Nat) → Array Bool → OT n → Prop
  | 0, listed, _ => Region.ready md ops listed = []
  | n + 1, listed, Sum.inl (false, i, t) => i ∈ Region.ready md ops listed ∧ Region.free md ops listed i = true ∧ GoodT md ops n (listed.setIfInBounds i true) t
  | n + 1, listed, Sum.inl (true, i, t) => Region.ready md ops listed = [i] ∧ GoodT md ops n (listed.setIfInBounds i true) t
  | n + 1, listed, Sum.inr (i, t, j, u) => i ≠ j ∧ (∀ k ∈ Region.ready md ops listed, k = i ∨ k = j) ∧ i ∈ Region.ready md ops listed ∧ GoodT md ops n (listed.setIfInBounds i true) t ∧ GoodT md ops n (listed.setIfInBounds j true) u

/-- Two steps that have nothing to do with each other: the still one may come later. -/
theorem still_late {m : Bool} {oi oj : Oper} {K : Act → World → Prop} (hsi : ∀ cs b, oi.op ≠ .select cs b) (hsj : ∀ cs b, oj.op ≠ .select cs b) (hap : oi.apart ops oj = true) {a : Act} {w : World} {v : Value} (hy : YP P ops C oi v a)
    (ih : stepOp P ops C m oj K (a.put oi.dst v) w) : stepOp P ops C m oj (fun a' w' => YP P ops C oi v a' ∧ K (a'.put oi.dst v) w') a w := by
  obtain ⟨h1, h2, h3⟩ := Oper.apart_spec hap
  unfold stepOp at ih ⊢
  split
  · rename_i hm
    rw [if_pos hm] at ih
    refine ⟨by rw [← wanted_put oj a oi.dst v h1]; exact ih.1, ?_⟩
    have hyj : ∀ u, YP P ops C oi v (a.put oj.dst u) := fun u => hy.of_same (execOp_put oi hsi a oj.dst u h3) (wanted_put oi a oj.dst u h3)
    exact Oper.wp_mono (fun a' w' ⟨⟨q1, q2⟩, u, hu⟩ => ⟨q1, (hyj u).of_same (by rw [eval_tmps hu]) (by rw [hu]), q2⟩) (wp_frame (wp_put (ops := ops) hsj h1 h2 ih.2))
  · rename_i hm
    rw [if_neg hm] at ih
    obtain ⟨u, hu, hk2⟩ := ih
    refine ⟨u, hu.of_same (execOp_put oj hsj a oi.dst v h1).symm (wanted_put oj a oi.dst v h1).symm, hy.of_same (execOp_put oi hsi a oj.dst u h3) (wanted_put oi a oj.dst u h3), ?_⟩
    rw [← Act.put_comm a v u h2]
    exact hk2

/-- Whichever step is ready, the tree has it, and without it is a tree for what is left. -/
theorem tree_split {md : Region.Mode} (hsel : Region.noSelect ops = true) : ∀ (n : Nat) (T : OT (n + 1)) (listed : Array Bool), GoodT md ops (n + 1) listed T → ∀ j, j ∈ Region.ready md ops listed →
    ∃ (m : Bool) (T' : OT n), GoodT md ops n (listed.setIfInBounds j true) T' ∧ ∀ a w, wpTree P ops C Q (n + 1) T a w → stepAt P ops C m j (wpTree P ops C Q n T') a w
  | n, Sum.inl (true, i, t), listed, hg, j, hj => by
    obtain ⟨g1, g2⟩ := hg
    rw [g1] at hj
    simp at hj
    subst hj
    exact ⟨true, t, g2, fun a w h => h⟩
  | n, Sum.inr (i, t, k, u), listed, hg, j, hj => by
    obtain ⟨g1, g2, g3, g4, g5⟩ := hg
    rcases g2 j hj with rfl | rfl
    · exact ⟨true, t, g4, fun a w h => h.1⟩
    · exact ⟨true, u, g5, fun a w h => h.2⟩
  | 0, Sum.inl (false, i, t), listed, hg, j, hj => by
    obtain ⟨g1, g2, g3⟩ := hg
    by_cases hji : j = i
    · subst hji
      exact ⟨false, t, g3, fun a w h => h⟩
    · have h1 := ready_mono hj hji
      rw [show Region.ready md ops (listed.setIfInBounds i true) = [] from g3] at h1
      cases h1
  | n + 1, Sum.inl (false, i, t), listed, hg, j, hj => by
    obtain ⟨g1, g2, g3⟩ := hg
    by_cases hji : j = i
    · subst hji
      exact ⟨false, t, g3, fun a w h => h⟩
    · obtain ⟨m, T', h1, h3⟩ := tree_split hsel n t _ g3 j (ready_mono hj hji)
      have hun := (mem_ready.1 g1).1
      obtain ⟨_, oi, hoi, _⟩ := mem_ready.1 g1
      obtain ⟨hjun, oj, hoj, hall⟩ := mem_ready.1 hj
      have hnot : ∀ e ∈ oj.after, Region.binds md e = true → e.on ≠ i := fun e he hb heq => by
        have h1 := hall e he hb
        rw [heq, getD_both hun] at h1
        cases h1
      refine ⟨m, OT.still i T', ⟨ready_mono g1 (Ne.symm hji), free_more g2, ?_⟩, fun a w h => ?_⟩
      · rw [Array.setIfInBounds_comm _ _ hji]
        exact h1
      · obtain ⟨o, ho, hs⟩ := h
        rw [hoi] at ho
        cases ho
        unfold stepOp at hs
        rw [if_neg (by simp)] at hs
        obtain ⟨v, hy, hk⟩ := hs
        obtain ⟨o', ho', hs'⟩ := h3 _ _ hk
        rw [hoj] at ho'
        cases ho'
        refine ⟨oj, hoj, stepOp_mono (fun a' w' h' => ?_) (still_late (fun cs b => Region.noSelect_spec hsel i oi cs b hoi) (fun cs b => Region.noSelect_spec hsel j oj cs b hoj) (Region.free_spec hoi g2 j oj hoj hji hjun hnot) hy hs')⟩
        refine ⟨oi, hoi, ?_⟩
        unfold stepOp
        rw [if_neg (by simp)]
        exact ⟨v, h'.1, h'.2⟩

theorem good_ready {md : Region.Mode} {n : Nat} {listed : Array Bool} : ∀ (T : OT (n + 1)), GoodT md ops (n + 1) listed T → Region.ready md ops listed ≠ []
  | Sum.inl (false, i, t), hg => List.ne_nil_of_mem hg.1
  | Sum.inl (true, i, t), hg => by rw [hg.1]; exact List.cons_ne_nil _ _
  | Sum.inr (i, t, j, u), hg => List.ne_nil_of_mem hg.2.2.1

theorem wpAny_of_tree {md : Region.Mode} (hsel : Region.noSelect ops = true) : ∀ (f : Nat) (T : OT f) (listed : Array Bool) (a : Act) (w : World), GoodT md ops f listed T → C w → wpTree P ops C Q f T a w → wpAny P md ops Q f listed a w
  | 0, T, listed, a, w, hg, hw, h => ⟨hg, h⟩
  | f + 1, T, listed, a, w, hg, hw, h => by
    refine ⟨fun h0 => absurd h0 (good_ready T hg), fun j hj => ?_⟩
    obtain ⟨m, T', h1, h3⟩ := tree_split (P := P) (C := C) (Q := Q) hsel _ T listed hg j hj
    obtain ⟨oj, hoj, hs⟩ := h3 a w h
    exact wpOp_of_stepOp hoj hw (fun a' w' hw' hk => wpAny_of_tree hsel f T' _ a' w' h1 hw' hk) hs
end

def goodTB (md : Region.Mode) (ops : Array Oper) : (n : Nat) → Array Bool → OT n → Bool
  | 0, listed, _ => (Region.ready md ops listed).isEmpty
  | n + 1, listed, Sum.inl (false, i, t) => (Region.ready md ops listed).contains i && Region.free md ops listed i && goodTB md ops n (listed.setIfInBounds i true) t
  | n + 1, listed, Sum.inl (true, i, t) => Region.ready md ops listed == [i] && goodTB md ops n (listed.setIfInBounds i true) t
  | n + 1, listed, Sum.inr (i, t, j, u) => i != j && (Region.ready md ops listed).all (fun k => k == i || k == j) && (Region.ready md ops listed).contains i && goodTB md ops n (listed.setIfInBounds i true) t && goodTB md ops n (listed.setIfInBounds j true) u

theorem goodT_of_B {md : Region.Mode} {ops : Array Oper} : ∀ (n : Nat) (T : OT n) (listed : Array Bool), goodTB md ops n listed T = true → GoodT md ops n listed T
  | 0, T, listed, h => by
    simp only [goodTB] at h
    exact List.isEmpty_iff.1 h
  | n + 1, Sum.inl (false, i, t), listed, h => by
    simp only [goodTB, Bool.and_eq_true] at h
    obtain ⟨⟨h2, h3⟩, h4⟩ := h
    exact ⟨by simpa using h2, h3, goodT_of_B n t _ h4⟩
  | n + 1, Sum.inl (true, i, t), listed, h => by
    simp only [goodTB, Bool.and_eq_true, beq_iff_eq] at h
    exact ⟨h.1, goodT_of_B n t _ h.2⟩
  | n + 1, Sum.inr (i, t, j, u), listed, h => by
    simp only [goodTB, Bool.and_eq_true, bne_iff_ne, ne_eq, List.all_eq_true, Bool.or_eq_true, beq_iff_eq] at h
    obtain ⟨⟨⟨⟨h2, h3⟩, h4⟩, h5⟩, h6⟩ := h
    exact ⟨h2, h3, by simpa using h4, goodT_of_B n t _ h5, goodT_of_B n u _ h6⟩

def treeB (ops : Array Oper) (n : Nat) (T : OT n) : Bool := Region.noSelect ops && ops.size == n && goodTB .any ops n (Array.replicate ops.size false) T

/-- A region that draws, walked along a tree. -/
theorem wp_region_tree {P : Program} {C : World → Prop} {Q : Exit → Act → World → Prop} {id : Nat} {a : Act} {w : World} {l : List Oper} {n : Nat} (T : OT n) (hm : P.follows .mixedOrders = true) (hB : treeB l.toArray n T = true) (hC : C w.drew)
    (h : wpTree P l.toArray C Q n T a w.drew) : (Code.region id l.toArray true).wp P Q a w := by
  simp only [treeB, Bool.and_eq_true, beq_iff_eq] at hB
  obtain ⟨⟨h1, rfl⟩, h2⟩ := hB
  exact wp_region_any hm (wpAny_of_tree h1 _ _ _ _ _ (goodT_of_B _ T _ h2) hC h)

section
variable {P : Program} {C : World → Prop} {Q : Exit → Act → World → Prop} {a : Act} {w : World} {l : List Oper} {i : Nat} {o : Oper} {n : Nat} {t : OT n}

theorem stepAt_mem {K : Act → World → Prop} (hi : l[i]? = some o) (hw : Region.wanted o (yielded l.toArray a.tmps) = true) (h : o.wp P a w (fun a' w' => C w' ∧ K a' w') noExit) : stepAt P l.toArray C true i K a w := by
  refine ⟨o, by simpa using hi, ?_⟩
  unfold stepOp
  rw [if_pos rfl]
  exact ⟨hw, h⟩
/-- A still step. -/
theorem tree_still (hi : l[i]? = some o) (hp : stillB o = true) (h : wpQuiet P l.toArray C (fun a' => wpTree P l.toArray C Q n t a' w) [o] a) : wpTree P l.toArray C Q (n + 1) (OT.still i t) a w := by
  refine ⟨o, by simpa using hi, ?_⟩
  unfold stepOp
  rw [if_neg (by simp)]
  unfold wpQuiet at h
  by_cases hw : Region.wanted o (yielded l.toArray a.tmps) = true
  · rw [if_pos hw] at h
    obtain ⟨v, h1, h2⟩ := h
    refine ⟨v, .inl ⟨hw, fun w' hw' => ?_⟩, h2⟩
    have h3 := h1 w' hw'
    unfold Oper.quietAt at h3
    cases hr : (execOp a.eval o).run P w' with
    | halt x w2 => rw [hr] at h3; simp only [Oper.quietUpon] at h3
    | ok n w2 =>
      obtain ⟨u, rfl⟩ := still_value hp hr
      rw [hr] at h3
      exact h3
  · rw [if_neg hw] at h
    exact ⟨undef, .inr ⟨by simpa using hw, rfl⟩, h⟩
/-- The one step that is ready turns memory. -/
theorem tree_one (hi : l[i]? = some o) (hw : Region.wanted o (yielded l.toArray a.tmps) = true) (h : o.wp P a w (fun a' w' => C w' ∧ wpTree P l.toArray C Q n t a' w') noExit) : wpTree P l.toArray C Q (n + 1) (OT.one i t) a w := stepAt_mem hi hw h
/-- Two that turn memory are ready. -/
theorem tree_two {j : Nat} {oj : Oper} {u : OT n} (hi : l[i]? = some o) (hj : l[j]? = some oj) (hwi : Region.wanted o (yielded l.toArray a.tmps) = true) (hwj : Region.wanted oj (yielded l.toArray a.tmps) = true)
    (h1 : o.wp P a w (fun a' w' => C w' ∧ wpTree P l.toArray C Q n t a' w') noExit) (h2 : oj.wp P a w (fun a' w' => C w' ∧ wpTree P l.toArray C Q n u a' w') noExit) : wpTree P l.toArray C Q (n + 1) (OT.two i t j u) a w := ⟨stepAt_mem hi hwi h1, stepAt_mem hj hwj h2⟩
theorem tree_done (h : Q .normal a w) : wpTree P l.toArray C Q 0 OT.done a w := h
end
end Go.Proofs.Ytmifionpagpnfaa
