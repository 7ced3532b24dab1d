/-
  A region that draws its order and whose last step is a store. Lists of structs as cells (flat). Rows of structs in memory, whatever the struct: what a slice shows (RowF), one element loaded or stored, append, make, copy. Slices of structs that came in, opened.
-/
import Derived.Test.YthnjbjlhfohpfaaGreatChain
import Derived.Test.YthnjbjlhfohpfaaGreatTurn
import Derived.Deep.MidRow
import Derived.Deep.SlicePairs
import Derived.Deep.Slices
import Derived.OpenShut
import Derived.ProofKit
import Derived.Laws.ResultCell
import Derived.Deep.DeepCutAuto
import Derived.Deep.RegionWith
import Derived.Deep.QuietTactic
import Derived.BigQuiet
import Derived.Test.YthnjbjlhfohpfaaGreatRef
import Derived.Test.YthnjbjlhfohpfaaGreatMvs
namespace Go.Proofs.YthnjbjlhfohpfaaGreat
section
set_option linter.unusedVariables false
set_option linter.unusedSimpArgs false

/-- Does z wait for i? -/
def depB (md : Region.Mode) (ops : Array Oper) (z i : Nat) : Bool := match ops[z]? with
  | some o => o.after.any (fun e => Region.binds md e && e.on == i)
  | none => false

section
variable {P : Program} {ops : Array Oper} {C : World → Prop} {Q : Exit → Act → World → Prop}

theorem dep_not {md : Region.Mode} {listed : Array Bool} {z i : Nat} (h : depB md ops z i = true) (hz : z ∈ Region.ready md ops listed) (hi : i ∈ Region.ready md ops listed) : False := by
  obtain ⟨_, oz, hoz, hall⟩ := mem_ready.1 hz
  have hun := (mem_ready.1 hi).1
  unfold depB at h
  rw [hoz] at h
  obtain ⟨e, he, hb⟩ := Array.any_eq_true'.1 h
  simp only [Bool.and_eq_true, beq_iff_eq] at hb
  have h1 := hall e he hb.1
  rw [hb.2, getD_both hun] at h1
  cases h1

def GoodZ (md : Region.Mode) (ops : Array Oper) (z : Nat) : (n : Nat) → Array Bool → OT n → Prop
  | 0, listed, _ => Region.ready md ops listed = [z] ∧ Region.ready md ops (listed.setIfInBounds z true) = []
  | n + 1, listed, Sum.inl (false, i, t) => i ∈ Region.ready md ops listed ∧ Region.free md ops listed i = true ∧ depB md ops z i = true ∧ GoodZ md ops z n (listed.setIfInBounds i true) t
  | n + 1, listed, Sum.inl (true, i, t) => Region.ready md ops listed = [i] ∧ GoodZ md ops z n (listed.setIfInBounds i true) t
  | n + 1, listed, Sum.inr (i, t, j, u) => i ≠ j ∧ (∀ k ∈ Region.ready md ops listed, k = i ∨ k = j) ∧ i ∈ Region.ready md ops listed ∧ GoodZ md ops z n (listed.setIfInBounds i true) t ∧ GoodZ md ops z n (listed.setIfInBounds j true) u

theorem treeZ_split {md : Region.Mode} {z : Nat} (hsel : Region.noSelect ops = true) : ∀ (n : Nat) (T : OT (n + 1)) (listed : Array Bool), GoodZ md ops z (n + 1) listed T → ∀ j, j ∈ Region.ready md ops listed →
    ∃ (m : Bool) (T' : OT n), GoodZ md ops z n (listed.setIfInBounds j true) T' ∧ ∀ a w, wpTree P ops C Q (n + 1) T a w → stepAt P ops C m j (wpTree P ops C Q n T') a w
  | n, Sum.inl (true, i, t), listed, hg, j, hj => by
    obtain ⟨g1, g2⟩ := hg
    rw [g1] at hj
    simp at hj
    subst hj
    exact ⟨true, t, g2, fun a w h => h⟩
  | n, Sum.inr (i, t, k, u), listed, hg, j, hj => by
    obtain ⟨g1, g2, g3, g4, g5⟩ := hg
    rcases g2 j hj with rfl | rfl
    · exact ⟨true, t, g4, fun a w h => h.1⟩
    · exact ⟨true, u, g5, fun a w h => h.2⟩
  | 0, Sum.inl (false, i, t), listed, hg, j, hj => by
    obtain ⟨g1, g2, gd, g3⟩ := hg
    by_cases hji : j = i
    · subst hji
      exact ⟨false, t, g3, fun a w h => h⟩
    · have h1 := ready_mono hj hji
      rw [g3.1] at h1
      simp at h1
      subst h1
      exact (dep_not gd hj g1).elim
  | n + 1, Sum.inl (false, i, t), listed, hg, j, hj => by
    obtain ⟨g1, g2, gd, g3⟩ := hg
    by_cases hji : j = i
    · subst hji
      exact ⟨false, t, g3, fun a w h => h⟩
    · obtain ⟨m, T', h1, h3⟩ := treeZ_split hsel n t _ g3 j (ready_mono hj hji)
      have hun := (mem_ready.1 g1).1
      obtain ⟨_, oi, hoi, _⟩ := mem_ready.1 g1
      obtain ⟨hjun, oj, hoj, hall⟩ := mem_ready.1 hj
      have hnot : ∀ e ∈ oj.after, Region.binds md e = true → e.on ≠ i := fun e he hb heq => by
        have h1 := hall e he hb
        rw [heq, getD_both hun] at h1
        cases h1
      refine ⟨m, OT.still i T', ⟨ready_mono g1 (Ne.symm hji), free_more g2, gd, ?_⟩, fun a w h => ?_⟩
      · rw [Array.setIfInBounds_comm _ _ hji]
        exact h1
      · obtain ⟨o, ho, hs⟩ := h
        rw [hoi] at ho
        cases ho
        unfold stepOp at hs
        rw [if_neg (by simp)] at hs
        obtain ⟨v, hy, hk⟩ := hs
        obtain ⟨o', ho', hs'⟩ := h3 _ _ hk
        rw [hoj] at ho'
        cases ho'
        refine ⟨oj, hoj, stepOp_mono (fun a' w' h' => ?_) (still_late (fun cs b => Region.noSelect_spec hsel i oi cs b hoi) (fun cs b => Region.noSelect_spec hsel j oj cs b hoj) (Region.free_spec hoi g2 j oj hoj hji hjun hnot) hy hs')⟩
        refine ⟨oi, hoi, ?_⟩
        unfold stepOp
        rw [if_neg (by simp)]
        exact ⟨v, h'.1, h'.2⟩

theorem goodZ_ready {md : Region.Mode} {z n : Nat} {listed : Array Bool} : ∀ (T : OT (n + 1)), GoodZ md ops z (n + 1) listed T → Region.ready md ops listed ≠ []
  | Sum.inl (false, i, t), hg => List.ne_nil_of_mem hg.1
  | Sum.inl (true, i, t), hg => by rw [hg.1]; exact List.cons_ne_nil _ _
  | Sum.inr (i, t, j, u), hg => List.ne_nil_of_mem hg.2.2.1

/-- What is asked at the last step. -/
def lastQ (P : Program) (ops : Array Oper) (Q : Exit → Act → World → Prop) (oz : Oper) : Exit → Act → World → Prop := fun _ a w => Region.wanted oz (yielded ops a.tmps) = true ∧ oz.wp P a w (fun a' w' => Q .normal a' w') noExit

theorem wpAny_of_treeZ {md : Region.Mode} {z : Nat} {oz : Oper} (hz : ops[z]? = some oz) (hsel : Region.noSelect ops = true) : ∀ (f : Nat) (T : OT f) (listed : Array Bool) (a : Act) (w : World), GoodZ md ops z f listed T → C w → wpTree P ops C (lastQ P ops Q oz) f T a w → wpAny P md ops Q (f + 1) listed a w
  | 0, T, listed, a, w, hg, hw, h => by
    refine ⟨fun h0 => ?_, fun j hj => ?_⟩
    · rw [hg.1] at h0
      cases h0
    · rw [hg.1] at hj
      simp at hj
      subst hj
      have h' : lastQ P ops Q oz .normal a w := h
      refine wpOp_of_stepOp (m := true) (C := fun _ => True) (K := fun a' w' => Q .normal a' w') hz trivial (fun a' w' _ hk => ?_) ?_
      · exact ⟨hg.2, hk⟩
      · unfold stepOp
        rw [if_pos rfl]
        exact ⟨h'.1, Oper.wp_mono (fun a' w' hk => ⟨trivial, hk⟩) h'.2⟩
  | f + 1, T, listed, a, w, hg, hw, h => by
    refine ⟨fun h0 => absurd h0 (goodZ_ready T hg), fun j hj => ?_⟩
    obtain ⟨m, T', h1, h3⟩ := treeZ_split (P := P) (C := C) (Q := lastQ P ops Q oz) hsel _ T listed hg j hj
    obtain ⟨oj, hoj, hs⟩ := h3 a w h
    exact wpOp_of_stepOp hoj hw (fun a' w' hw' hk => wpAny_of_treeZ hz hsel f T' _ a' w' h1 hw' hk) hs
end

def goodZB (md : Region.Mode) (ops : Array Oper) (z : Nat) : (n : Nat) → Array Bool → OT n → Bool
  | 0, listed, _ => Region.ready md ops listed == [z] && (Region.ready md ops (listed.setIfInBounds z true)).isEmpty
  | n + 1, listed, Sum.inl (false, i, t) => (Region.ready md ops listed).contains i && Region.free md ops listed i && depB md ops z i && goodZB md ops z n (listed.setIfInBounds i true) t
  | n + 1, listed, Sum.inl (true, i, t) => Region.ready md ops listed == [i] && goodZB md ops z n (listed.setIfInBounds i true) t
  | n + 1, listed, Sum.inr (i, t, j, u) => i != j && (Region.ready md ops listed).all (fun k => k == i || k == j) && (Region.ready md ops listed).contains i && goodZB md ops z n (listed.setIfInBounds i true) t && goodZB md ops z n (listed.setIfInBounds j true) u

theorem goodZ_of_B {md : Region.Mode} {ops : Array Oper} {z : Nat} : ∀ (n : Nat) (T : OT n) (listed : Array Bool), goodZB md ops z n listed T = true → GoodZ md ops z n listed T
  | 0, T, listed, h => by
    simp only [goodZB, Bool.and_eq_true, beq_iff_eq] at h
    exact ⟨h.1, List.isEmpty_iff.1 h.2⟩
  | n + 1, Sum.inl (false, i, t), listed, h => by
    simp only [goodZB, Bool.and_eq_true] at h
    obtain ⟨⟨⟨h2, h3⟩, h5⟩, h4⟩ := h
    exact ⟨by simpa using h2, h3, h5, goodZ_of_B n t _ h4⟩
  | n + 1, Sum.inl (true, i, t), listed, h => by
    simp only [goodZB, Bool.and_eq_true, beq_iff_eq] at h
    exact ⟨h.1, goodZ_of_B n t _ h.2⟩
  | n + 1, Sum.inr (i, t, j, u), listed, h => by
    simp only [goodZB, Bool.and_eq_true, bne_iff_ne, ne_eq, List.all_eq_true, Bool.or_eq_true, beq_iff_eq] at h
    obtain ⟨⟨⟨⟨h2, h3⟩, h4⟩, h5⟩, h6⟩ := h
    exact ⟨h2, h3, by simpa using h4, goodZ_of_B n t _ h5, goodZ_of_B n u _ h6⟩

def treeZB (ops : Array Oper) (z n : Nat) (T : OT n) : Bool := Region.noSelect ops && ops.size == n + 1 && goodZB .any ops z n (Array.replicate ops.size false) T

/-- A region that draws, walked along a tree; the step z is the last one. -/
theorem wp_region_treeZ {P : Program} {C : World → Prop} {Q : Exit → Act → World → Prop} {id : Nat} {a : Act} {w : World} {l : List Oper} {n : Nat} (z : Nat) {oz : Oper} (T : OT n) (hz : l[z]? = some oz) (hm : P.follows .mixedOrders = true) (hB : treeZB l.toArray z n T = true) (hC : C w.drew)
    (h : wpTree P l.toArray C (lastQ P l.toArray Q oz) n T a w.drew) : (Code.region id l.toArray true).wp P Q a w := by
  simp only [treeZB, Bool.and_eq_true, beq_iff_eq] at hB
  obtain ⟨⟨h1, hs⟩, h2⟩ := hB
  have := wpAny_of_treeZ (P := P) (C := C) (Q := Q) (oz := oz) (by simpa using hz) h1 _ T _ _ _ (goodZ_of_B _ T _ h2) hC h
  rw [← hs] at this
  exact wp_region_any hm this
end

section
set_option linter.unusedVariables false
set_option linter.unusedSimpArgs false
set_option synthInstance.maxSize 20000
set_option maxHeartbeats 2000000
set_option maxRecDepth 20000
open Go.RowKit Go.Maps

/-! ### Lists of structs, as cells -/
section
variable {α : Type} {f : α → List Value} {k : Nat}
def flat (f : α → List Value) (l : List α) : List Value := l.flatMap f
theorem flat_nil : flat f [] = [] := rfl
theorem flat_cons (x : α) (l : List α) : flat f (x :: l) = f x ++ flat f l := by simp [flat]
theorem flat_append (a b : List α) : flat f (a ++ b) = flat f a ++ flat f b := by simp [flat]
theorem flat_length (hk : ∀ x, (f x).length = k) (l : List α) : (flat f l).length = l.length * k := by
  induction l with
  | nil => simp [flat]
  | cons x l ih => rw [flat_cons, List.length_append, ih, hk, List.length_cons, Nat.add_mul, Nat.one_mul, Nat.add_comm]
theorem flat_at (hk : ∀ x, (f x).length = k) {l : List α} {i : Nat} {x : α} (h : l[i]? = some x) (j : Nat) (u : Value) (hj : (f x)[j]? = some u) : (flat f l)[i * k + j]? = some u := by
  induction l generalizing i with
  | nil => simp at h
  | cons y l ih =>
    have hjk : j < k := by have := (List.getElem?_eq_some_iff.1 hj).1; rw [hk] at this; exact this
    rw [flat_cons]
    cases i with
    | zero =>
      simp at h
      subst h
      rw [Nat.zero_mul, Nat.zero_add, List.getElem?_append_left (by rw [hk]; exact hjk)]
      exact hj
    | succ i =>
      rw [List.getElem?_append_right (by rw [hk, Nat.add_mul]; omega), hk]
      rw [show (i + 1) * k + j - k = i * k + j by rw [Nat.add_mul]; omega]
      exact ih (by simpa using h)
theorem flat_one {l : List α} (h : ∀ x ∈ l, ∀ u ∈ f x, u.oneCell' = true) : ∀ u ∈ flat f l, u.oneCell' = true := fun u hu => by
  unfold flat at hu
  rw [List.mem_flatMap] at hu
  obtain ⟨x, hx, hu⟩ := hu
  exact h x hx u hu
theorem flat_take (hk : ∀ x, (f x).length = k) (l : List α) (n : Nat) : (flat f l).take (n * k) = flat f (l.take n) := by
  induction l generalizing n with
  | nil => simp [flat]
  | cons y l ih =>
    cases n with
    | zero => simp [flat]
    | succ n =>
      rw [flat_cons, List.take_succ_cons, flat_cons, ← ih n, List.take_append, List.take_of_length_le (by rw [hk, Nat.add_mul]; omega), hk]
      rw [show (n + 1) * k - k = n * k by rw [Nat.add_mul]; omega]
theorem flat_drop (hk : ∀ x, (f x).length = k) (l : List α) (n : Nat) : (flat f l).drop (n * k) = flat f (l.drop n) := by
  induction l generalizing n with
  | nil => simp [flat]
  | cons y l ih =>
    cases n with
    | zero => simp [flat]
    | succ n =>
      rw [flat_cons, List.drop_succ_cons, ← ih n, List.drop_append, List.drop_of_length_le (by rw [hk, Nat.add_mul]; omega), List.nil_append, hk]
      rw [show (n + 1) * k - k = n * k by rw [Nat.add_mul]; omega]
theorem flat_set (hk : ∀ x, (f x).length = k) (l : List α) (i : Nat) (x : α) (hi : i < l.length) : splice (flat f l) (i * k) (f x) = flat f (l.set i x) := by
  unfold splice
  rw [hk, flat_take hk, show i * k + k = (i + 1) * k by rw [Nat.add_mul, Nat.one_mul], flat_drop hk, List.set_eq_take_append_cons_drop, if_pos hi, flat_append, flat_cons]
theorem flat_replicate (hk : ∀ x, (f x).length = k) (n : Nat) (x : α) (j : Nat) (hj : j < n * k) : (flat f (List.replicate n x))[j]? = (f x)[j % k]? := by
  have hk0 : 0 < k := by
    rcases Nat.eq_zero_or_pos k with h | h
    · subst h; simp at hj
    · exact h
  have hlt : j % k < (f x).length := by rw [hk]; exact Nat.mod_lt _ hk0
  have h1 := flat_at (f := f) hk (l := List.replicate n x) (i := j / k) (x := x) (by rw [List.getElem?_replicate, if_pos (Nat.div_lt_of_lt_mul (by rw [Nat.mul_comm]; exact hj))]) (j % k) _ (List.getElem?_eq_getElem hlt)
  rw [show j / k * k + j % k = j by rw [Nat.mul_comm]; exact Nat.div_add_mod j k] at h1
  rw [h1, List.getElem?_eq_getElem hlt]
end

section
variable {P : Program} {w : World} {ops : Array Oper} {rest : List Oper} {o : Oper} {a : Act} {Q : Exit → Act → World → Prop} {v : Value} {w' : World}
theorem wpList_ok (hgd : o.guard = none) (hr : (execOp a.eval o).run P w = .ok (.value v) w') (h : wpList P ops Q rest (a.put o.dst v) w') : wpList P ops Q (o :: rest) a w := by
  refine wpList_plain hgd fun K hK => ?_
  unfold Oper.wp
  rw [hr]
  exact hK _ _ h
theorem wpList_skip (hgd : o.guard = none) (hr : (execOp a.eval o).run P w = .ok .skip w') (h : wpList P ops Q rest (a.put o.dst undef) w') : wpList P ops Q (o :: rest) a w := by
  refine wpList_plain hgd fun K hK => ?_
  unfold Oper.wp
  rw [hr]
  exact hK _ _ h
theorem wp_ok {K : Act → World → Prop} (hr : (execOp a.eval o).run P w = .ok (.value v) w') (h : K (a.put o.dst v) w') : o.wp P a w K Q := by
  unfold Oper.wp
  rw [hr]
  exact h
theorem wp_skip {K : Act → World → Prop} (hr : (execOp a.eval o).run P w = .ok .skip w') (h : K (a.put o.dst undef) w') : o.wp P a w K Q := by
  unfold Oper.wp
  rw [hr]
  exact h
theorem quiet_ok {C : World → Prop} {K : Act → Prop} (hgd : o.guard = none) (hr : ∀ w, C w → (execOp a.eval o).run P w = .ok (.value v) w) (h : K (a.put o.dst v)) : wpQuiet P ops C K [o] a := by
  unfold wpQuiet
  rw [if_pos (by simp only [Region.wanted, hgd])]
  refine ⟨v, fun w hw => ?_, h⟩
  unfold Oper.quietAt
  rw [hr w hw]
  exact ⟨rfl, rfl⟩
end
end
section
set_option linter.unusedVariables false
set_option linter.unusedSimpArgs false
set_option synthInstance.maxSize 20000
set_option maxHeartbeats 2000000
set_option maxRecDepth 20000
open Go.RowKit Go.Maps

/-! ### Many cells stored -/
theorem splice_cons {L : List Value} {o : Nat} {v : Value} {vs : List Value} (h : o < L.length) : splice (L.set o v) (o + 1) vs = splice L o (v :: vs) := by
  unfold splice
  rw [List.take_set, List.drop_set_of_lt (by omega), List.length_cons, List.cons_append, show o + 1 + vs.length = o + (vs.length + 1) by omega]
  rw [List.take_succ_eq_append_getElem h, List.set_append_right _ _ (by simp; omega)]
  simp [Nat.min_eq_left (Nat.le_of_lt h)]
theorem heap_setCells (g : Nat) (e : TypeId) : ∀ (vs : List Value) (off : Nat) (w : World) (L : List Value), w.heap[g]? = some (.cells L.toArray e (0, 0)) → off + vs.length ≤ L.length →
    (w.setCells g off vs).heap[g]? = some (.cells (splice L off vs).toArray e (0, 0))
  | [], off, w, L, h, _ => by
    rw [World.setCells, h]
    simp [splice]
  | v :: vs, off, w, L, h, hl => by
    rw [List.length_cons] at hl
    rw [World.setCells]
    have h1 := heap_setCell_same w g off L.toArray e v h
    have h2 := heap_setCells g e vs (off + 1) (w.setCell ⟨g, off, none⟩ v) (L.set off v) (by rw [h1]; simp) (by rw [List.length_set]; omega)
    rw [h2, splice_cons (by omega)]
theorem grown_setCells (g : Nat) : ∀ (vs : List Value) (off : Nat) (w : World), w.grownBy (w.setCells g off vs) (some g)
  | [], off, w => grown_refl _ _
  | v :: vs, off, w => by
    rw [World.setCells]
    exact grown_trans (grown_setCell w g off v) (grown_setCells g vs (off + 1) _) (fun k hk => .inl hk)
theorem Blk.range {w : World} {b : Nat} {e : TypeId} {vs xs : List Value} (h : Blk w b e vs) (off : Nat) (hx : ∀ j u, xs[j]? = some u → vs[off + j]? = some u) : w.rangeAt b off xs := fun j u hj => h.cell _ _ (hx j u hj)
theorem Blk.range0 {w : World} {b : Nat} {e : TypeId} {vs : List Value} (h : Blk w b e vs) : w.rangeAt b 0 vs := h.range 0 (fun j u hj => by rw [Nat.zero_add]; exact hj)
theorem Blk.there {w : World} {b : Nat} {e : TypeId} {vs : List Value} (h : Blk w b e vs) (off n : Nat) (hl : off + n ≤ vs.length) : w.there b off n := fun j hj =>
  ⟨by rw [h.cell (off + j) _ (List.getElem?_eq_getElem (by omega))]; rfl, h.frozen _⟩
theorem Blk.setCells {w : World} {b : Nat} {e : TypeId} {vs : List Value} (h : Blk w b e vs) (off : Nat) (xs : List Value) (hl : off + xs.length ≤ vs.length) : Blk (w.setCells b off xs) b e (splice vs off xs) := heap_setCells b e xs off w vs h hl
theorem splice_all (vs xs : List Value) (h : xs.length = vs.length) : splice vs 0 xs = xs := by
  unfold splice
  rw [List.take_zero, List.nil_append, Nat.zero_add, h, List.drop_length, List.append_nil]

section
variable {α : Type} {f : α → List Value} {k : Nat} {e : TypeId} {w : World} {g n cap B : Nat} {l : List α}

theorem row_range (hk : ∀ x, (f x).length = k) (h : w.ownsRow B e k (.slice (some ⟨g, 0, none⟩) n cap) n (flat f l)) {i : Nat} {x : α} (hi : l[i]? = some x) : w.rangeAt g (i * k) (f x) := fun j u hj => by
  have := h.cells (g := g) rfl (i * k + j) u (flat_at hk hi j u hj)
  rw [Addr.add_lit] at this
  simpa using this
theorem row_len (hk : ∀ x, (f x).length = k) (hk0 : 0 < k) {v : Value} (h : w.ownsRow B e k v n (flat f l)) : n = l.length := by
  have := h.1
  rw [flat_length hk] at this
  exact (Nat.eq_of_mul_eq_mul_right hk0 this).symm
theorem row_there (hk : ∀ x, (f x).length = k) (h : w.ownsRow B e k (.slice (some ⟨g, 0, none⟩) n cap) n (flat f l)) {i : Nat} (hi : i < l.length) : w.there g (i * k) k := fun j hj => by
  obtain ⟨x, hx⟩ : ∃ x, l[i]? = some x := ⟨_, List.getElem?_eq_getElem hi⟩
  refine ⟨?_, h.frozenAt _⟩
  rw [row_range hk h hx j _ (List.getElem?_eq_getElem (by rw [hk]; exact hj))]
  rfl
theorem row_put (hk : ∀ x, (f x).length = k) (h : w.ownsRow B e k (.slice (some ⟨g, 0, none⟩) n cap) n (flat f l)) {i : Nat} (hi : i < l.length) (hn : n = l.length) (x : α) :
    (w.setCells g (i * k) (f x)).ownsRow B e k (.slice (some ⟨g, 0, none⟩) n cap) n (flat f (l.set i x)) := by
  obtain ⟨h1, h2⟩ := h
  rcases h2 with ⟨e, _⟩ | ⟨g', cap', cur, e, h3, h4, h5, h6, h7, h8⟩
  · cases e
  · cases e
    have hik : i * k + k ≤ n * k := by
      have : (i + 1) * k ≤ n * k := Nat.mul_le_mul_right _ (by omega)
      rw [Nat.add_mul] at this
      omega
    have hnc : n * k ≤ cap * k := Nat.mul_le_mul_right _ h5
    have h9 := heap_setCells g _ (f x) (i * k) w cur.toList (by simpa using h4) (by rw [hk, Array.length_toList, h7]; omega)
    refine ⟨by rw [flat_length hk, List.length_set, hn], .inr ⟨g, cap, _, rfl, h3, h9, h5, h6, ?_, ?_⟩⟩
    · rw [List.size_toArray, length_splice _ _ _ (by rw [hk, Array.length_toList, h7]; omega), Array.length_toList, h7]
    · rw [← flat_set hk l i x hi, ← h8]
      unfold splice
      rw [hk]
      show List.take (n * k) (_ ++ _) = _
      rw [List.take_append, List.take_append, List.take_take, List.length_take, Array.length_toList, h7, Nat.min_eq_right (by omega), Nat.min_eq_left (by omega), hk, List.take_of_length_le (l := f x) (by rw [hk]; omega), List.take_take, Nat.min_eq_left (by omega), List.drop_take]
      rw [show n * k - (i * k + k) = n * k - i * k - k by omega]
theorem row_zero (hk : ∀ x, (f x).length = k) (n : Nat) (x : α) : (madeCells (f x).toArray (n * k)).toList = flat f (List.replicate n x) := by
  apply List.ext_getElem?
  intro j
  by_cases hj : j < n * k
  · rw [flat_replicate hk n x j hj]
    have hk0 : 0 < k := by
      rcases Nat.eq_zero_or_pos k with h | h
      · subst h; simp at hj
      · exact h
    have hlt : j % k < (f x).length := by rw [hk]; exact Nat.mod_lt _ hk0
    rw [List.getElem?_eq_getElem hlt]
    simp [madeCells, hj]
    simp only [hk]
    rw [List.getElem?_eq_getElem hlt]
    rfl
  · rw [List.getElem?_eq_none (by simp [madeCells]; omega), List.getElem?_eq_none (by rw [flat_length hk, List.length_replicate]; omega)]

/-- A slice value that shows structs, wherever they lie. -/
def RowF (f : α → List Value) (w : World) (v : Value) (l : List α) : Prop :=
  ∃ (a : Option Addr) (cap : Nat), v = .slice a l.length cap ∧ l.length ≤ cap ∧ cap ≤ maxLen ∧ (a = none → cap = 0) ∧ (0 < l.length → ∃ b off, a = some ⟨b, off, none⟩ ∧ w.rangeAt b off (flat f l))
theorem rowF_nil (w : World) : RowF f w (.slice none 0 0) [] := ⟨none, 0, rfl, Nat.le_refl _, Nat.zero_le _, fun _ => rfl, fun h => by simp at h⟩
theorem rowF_own (hk : ∀ x, (f x).length = k) {v : Value} (h : w.ownsRow B e k v l.length (flat f l)) : RowF f w v l := by
  have h' := h
  obtain ⟨h1, h2⟩ := h
  rcases h2 with ⟨rfl, hn⟩ | ⟨g, cap, cur, rfl, hb, hg, hn, hc, hs, ht⟩
  · have : l = [] := List.eq_nil_of_length_eq_zero hn
    subst this
    exact rowF_nil w
  · refine ⟨some ⟨g, 0, none⟩, cap, rfl, hn, hc, (fun h => by cases h), fun _ => ⟨g, 0, rfl, fun j u hj => ?_⟩⟩
    have := h'.cells (g := g) rfl j u hj
    rw [Addr.add_lit] at this
    exact this
theorem rangeAt_blocks {w w' : World} {b off : Nat} {xs : List Value} (h : w.rangeAt b off xs) (hb : b < w.heap.size → w'.heap[b]? = w.heap[b]?) : w'.rangeAt b off xs := fun j u hj => by
  have := h j u hj
  rw [World.cell?_of_block (hb (World.block_lt_of_cell? w _ this))]
  exact this
theorem RowF.blocks {w w' : World} {v : Value} (h : RowF f w v l) (hb : ∀ j, v.ownBlock = some j → j < w.heap.size → w'.heap[j]? = w.heap[j]?) : RowF f w' v l := by
  obtain ⟨a, cap, rfl, h1, h2, h3, h4⟩ := h
  refine ⟨a, cap, rfl, h1, h2, h3, fun hp => ?_⟩
  obtain ⟨b, off, rfl, hc⟩ := h4 hp
  exact ⟨b, off, rfl, rangeAt_blocks hc (hb b rfl)⟩
theorem RowF.below {w w' : World} {v : Value} (h : RowF f w v l) (hb : Below w.heap.size w w') : RowF f w' v l := h.blocks fun k _ hk => hb.block k hk
theorem RowF.caps {w : World} {a : Option Addr} {n cap : Nat} (h : RowF f w (.slice a n cap) l) : n = l.length ∧ n ≤ cap ∧ cap ≤ 9223372036854775807 := by
  obtain ⟨a', cap', e, h1, h2, h3, h4⟩ := h
  obtain ⟨rfl, rfl, rfl⟩ : a = a' ∧ n = l.length ∧ cap = cap' := by simpa using e
  exact ⟨rfl, h1, by unfold maxLen at h2; omega⟩
theorem RowF.len {w : World} {v : Value} (h : RowF f w v l) : ∃ a cap, v = .slice a l.length cap := ⟨h.choose, h.choose_spec.choose, h.choose_spec.choose_spec.1⟩
theorem RowF.at (hk : ∀ x, (f x).length = k) {w : World} {a : Option Addr} {n cap : Nat} (h : RowF f w (.slice a n cap) l) {i : Nat} {x : α} (hi : l[i]? = some x) : ∃ b off, a = some ⟨b, off, none⟩ ∧ w.rangeAt b (off + i * k) (f x) := by
  obtain ⟨a', cap', e, h1, h2, h3, h4⟩ := h
  obtain ⟨rfl, _, _⟩ : a = a' ∧ n = l.length ∧ cap = cap' := by simpa using e
  have hlt : i < l.length := (List.getElem?_eq_some_iff.1 hi).1
  obtain ⟨b, off, rfl, hc⟩ := h4 (by omega)
  refine ⟨b, off, rfl, fun j u hj => ?_⟩
  have := hc _ _ (flat_at hk hi j u hj)
  rwa [← Nat.add_assoc] at this
/-- One struct, as a row of its own. -/
theorem rowF_one (w : World) (x : α) (e : TypeId) : RowF f (w.alloc (.cells (f x).toArray e)) (.slice (some ⟨w.heap.size, 0, none⟩) 1 1) [x] := by
  refine ⟨some ⟨w.heap.size, 0, none⟩, 1, rfl, Nat.le_refl _, by unfold maxLen; omega, (fun h => by cases h), fun _ => ⟨w.heap.size, 0, rfl, ?_⟩⟩
  have : flat f [x] = f x := by simp [flat]
  rw [this]
  exact (blk_new w (f x) e).range0
end

/-! ### append, make, copy -/
/-- What a program's table says of a slice of structs. -/
structure RowTy (t e : TypeId) (k by' : Nat) (z : Value) : Prop where
  under : Tryz.prog.underlying t = some (.slice e)
  info : (Tryz.prog.info? e).map (fun i => (i.zero, i.size, i.bytes)) = some (some z, k, by')
  zsize : z.cells.size = k
  pos : 0 < k
section
variable {α : Type} {f : α → List Value} {t e : TypeId} {k by' : Nat} {z : Value} {w : World} {ops : Array Oper} {rest : List Oper} {o : Oper} {a : Act} {Q : Exit → Act → World → Prop}
theorem run_append_rows (hT : RowTy t e k by' z) (hk : ∀ x, (f x).length = k) (ty : TypeId) (v : Value) (ps : List α) (hown : w.ownsRow 0 e k v ps.length (flat f ps)) (y : Value) (qs : List α) (hy : RowF f w y qs) (h1 : ∀ u ∈ flat f qs, u.oneCell' = true) (hlen : ps.length + qs.length ≤ 1000000) (hby : by' ≤ 1000) :
    ∃ v' w', (Builtin.append_ #[t, t] ty #[v, y]).run Tryz.prog w = .ok v' w' ∧ w'.ownsRow 0 e k v' (ps ++ qs).length (flat f (ps ++ qs)) ∧ w.grownBy w' v.ownBlock ∧ (∀ j, v'.ownBlock = some j → v.ownBlock = some j ∨ w.heap.size ≤ j) := by
  obtain ⟨ad, c, rfl, k1, k2, k3, k4⟩ := hy
  obtain ⟨i, hi, hz, hs1, hs2⟩ := info_parts hT.info
  have hmax : ps.length + qs.length ≤ maxLen := by unfold maxLen; omega
  cases ad with
  | none =>
    have h0 := k3 rfl
    subst h0
    have h0 : qs = [] := List.eq_nil_of_length_eq_zero (by omega)
    subst h0
    have hrun := run_append_owned_none (P := Tryz.prog) w 0 t ty e i k hT.under hi v _ _ hown
    exact ⟨v, w, hrun, by simpa using hown, grown_refl _ _, fun k hk => .inl hk⟩
  | some ad =>
    have hcells : ∀ j u, (flat f qs)[j]? = some u → w.cell? (ad.add j) = some u := fun j u hj => by
      have hp : 0 < qs.length := by
        have := (List.getElem?_eq_some_iff.1 hj).1
        rw [flat_length hk] at this
        rcases Nat.eq_zero_or_pos qs.length with h | h
        · rw [h] at this; simp at this
        · exact h
      obtain ⟨b, off, e, hc⟩ := k4 hp
      cases e
      rw [Addr.add_lit]
      exact hc j u hj
    have hbound : (ps.length + qs.length) * by' ≤ 140737488355328 := Nat.le_trans (Nat.mul_le_mul hlen hby) (by omega)
    obtain ⟨v', w', hrun, r1, r2, r3⟩ := run_append_where (P := Tryz.prog) w 0 t ty e i z k by' hT.under hi hz hs1 hs2 hT.zsize hT.pos v ps.length (flat f ps) hown ad qs.length c (flat f qs) (flat_length hk qs) hcells h1 hmax hbound (Nat.zero_le _)
    exact ⟨v', w', hrun, by rw [List.length_append, flat_append]; exact r1, r2, r3⟩
theorem wpList_append_rows (hT : RowTy t e k by' z) (hk : ∀ x, (f x).length = k) (hby : by' ≤ 1000) (hgd : o.guard = none) (s x : Operand) (ho : o.op = .call { callee := .builtin .append, args := #[s, x], argTypes := #[t, t] })
    (v : Value) (ps : List α) (hs : a.eval s = v) (hown : w.ownsRow 0 e k v ps.length (flat f ps)) (y : Value) (qs : List α) (hx : a.eval x = y) (hy : RowF f w y qs) (h1 : ∀ u ∈ flat f qs, u.oneCell' = true) (hlen : ps.length + qs.length ≤ 1000000)
    (h : ∀ v' w', w'.ownsRow 0 e k v' (ps ++ qs).length (flat f (ps ++ qs)) → w.grownBy w' v.ownBlock → (∀ j, v'.ownBlock = some j → v.ownBlock = some j ∨ w.heap.size ≤ j) → wpList Tryz.prog ops Q rest (a.put o.dst v') w') : wpList Tryz.prog ops Q (o :: rest) a w := by
  obtain ⟨v', w', hrun, r1, r2, r3⟩ := run_append_rows hT hk o.type v ps hown y qs hy h1 hlen hby
  refine wpList_plain hgd fun K hK => ?_
  unfold Oper.wp
  simp [execOp, ho, resolve, invoke, builtin, hs, hx, hrun, Result.andThen]
  exact hK _ _ (h v' w' r1 r2 r3)
theorem run_make_rows (hT : RowTy t e k by' z) (hk : ∀ x, (f x).length = k) (x0 : α) (hz : z.cells = (f x0).toArray) (w : World) (n : Nat) (hn : n ≤ 100000) (hby : by' ≤ 1000) :
    (Instr.makeSlice t (.int .i64 (n : Int)) (.int .i64 (n : Int))).run Tryz.prog w = .ok (.slice (some ⟨w.heap.size, 0, none⟩) n n) (w.alloc (.cells (flat f (List.replicate n x0)).toArray e)) := by
  obtain ⟨i, hi, hzz, hs1, hs2⟩ := info_parts hT.info
  have hb : by' * n ≤ 1000 * 100000 := Nat.mul_le_mul hby hn
  have h := run_make (P := Tryz.prog) w t e i _ hT.under hi hzz .i64 .i64 n n (by omega) (Int.le_refl _) (by rw [hs2]; omega) (by omega)
  rw [h, hs1, hz, ← row_zero hk]
  simp
theorem row_made (hk : ∀ x, (f x).length = k) (x0 : α) (w : World) (n : Nat) (hn : n ≤ 100000) : (w.alloc (.cells (flat f (List.replicate n x0)).toArray e)).ownsRow 0 e k (.slice (some ⟨w.heap.size, 0, none⟩) n n) n (flat f (List.replicate n x0)) := by
  refine ⟨by rw [flat_length hk, List.length_replicate], .inr ⟨w.heap.size, n, _, rfl, Nat.zero_le _, heap_alloc_new w _, Nat.le_refl _, by unfold maxLen; omega, ?_, ?_⟩⟩
  · rw [List.size_toArray, flat_length hk, List.length_replicate]
  · rw [List.take_of_length_le (by simp [flat_length hk])]
/-- 'copy(d, s)' of rows of one length. -/
theorem run_copy_rows (hT : RowTy t e k by' z) (hk : ∀ x, (f x).length = k) (w : World) (ty : TypeId) (g n cap : Nat) (ps qs : List α) (hd : w.ownsRow 0 e k (.slice (some ⟨g, 0, none⟩) n cap) n (flat f ps)) (ad : Addr) (c : Nat) (hs : RowF f w (.slice (some ad) n c) qs) (hl : ps.length = n) (hq : qs.length = n) (h1 : ∀ u ∈ flat f qs, u.oneCell' = true) :
    (Builtin.copy_ #[t, t] ty #[.slice (some ⟨g, 0, none⟩) n cap, .slice (some ad) n c]).run Tryz.prog w = .ok (goInt n) (w.setCells g 0 (flat f qs)) := by
  obtain ⟨i, hi, hz, hs1, hs2⟩ := info_parts hT.info
  have hsrc : ∀ j u, (flat f qs)[j]? = some u → w.cell? (ad.add j) = some u := fun j u hj => by
    obtain ⟨a', cap', e', k1, k2, k3, k4⟩ := hs
    have hp : 0 < qs.length := by
      have := (List.getElem?_eq_some_iff.1 hj).1
      rw [flat_length hk] at this
      rcases Nat.eq_zero_or_pos qs.length with h | h
      · rw [h] at this; simp at this
      · exact h
    obtain ⟨b, off, ea, hc⟩ := k4 hp
    obtain ⟨rfl, _, _⟩ : some ad = a' ∧ n = qs.length ∧ c = cap' := by simpa using e'
    cases ea
    rw [Addr.add_lit]
    exact hc j u hj
  have hn : (flat f qs).length = Nat.min n n * i.size := by rw [flat_length hk, hq, hs1]; simp
  have hfc := run_firstCells_some (P := Tryz.prog) w i.size (Nat.min n n) ad n c (flat f qs) hn hsrc
  have hcell : ∀ j, j < (flat f qs).length → (w.cell? ⟨g, 0 + j, none⟩).isSome = true := fun j hj => by
    have h2 : j < (flat f ps).length := by rw [flat_length hk, hl]; rw [flat_length hk, hq] at hj; exact hj
    have := hd.cells (g := g) rfl j _ (List.getElem?_eq_getElem h2)
    rw [Addr.add_lit] at this
    rw [this]
    rfl
  have hst := run_storeCells_cells (P := Tryz.prog) g 0 (flat f qs) 0 w (by simpa using hcell) (fun j hj => hd.frozenAt _) h1
  rw [Nat.add_zero] at hst
  have hmin : Nat.min n n = n := Nat.min_self n
  rw [hmin] at hfc
  simp [Builtin.copy_, run_underlying hT.under, Builtin.lenOf, sizeOf, typeInfo, hi, hfc, hst]
theorem row_copied (hk : ∀ x, (f x).length = k) {w : World} {g n cap : Nat} {ps qs : List α} (hd : w.ownsRow 0 e k (.slice (some ⟨g, 0, none⟩) n cap) n (flat f ps)) (hq : qs.length = n) : (w.setCells g 0 (flat f qs)).ownsRow 0 e k (.slice (some ⟨g, 0, none⟩) n cap) n (flat f qs) := by
  obtain ⟨h1, h2⟩ := hd
  rcases h2 with ⟨e, _⟩ | ⟨g', cap', cur, e, h3, h4, h5, h6, h7, h8⟩
  · cases e
  · cases e
    have hnc : n * k ≤ cap * k := Nat.mul_le_mul_right _ h5
    have hfl : (flat f qs).length = n * k := by rw [flat_length hk, hq]
    have h9 := heap_setCells g _ (flat f qs) 0 w cur.toList (by simpa using h4) (by rw [hfl, Array.length_toList, h7]; omega)
    refine ⟨hfl, .inr ⟨g, cap, _, rfl, h3, h9, h5, h6, ?_, ?_⟩⟩
    · rw [List.size_toArray, length_splice _ _ _ (by rw [hfl, Array.length_toList, h7]; omega), Array.length_toList, h7]
    · unfold splice
      show List.take (n * k) (_ ++ _) = _
      rw [List.take_zero, List.nil_append, ← hfl, List.take_left]
theorem wpList_copy_rows (hT : RowTy t e k by' z) (hk : ∀ x, (f x).length = k) (hgd : o.guard = none) (d s : Operand) (ho : o.op = .call { callee := .builtin .copy, args := #[d, s], argTypes := #[t, t] })
    (g n cap : Nat) (ps qs : List α) (hd : a.eval d = .slice (some ⟨g, 0, none⟩) n cap) (hown : w.ownsRow 0 e k (.slice (some ⟨g, 0, none⟩) n cap) n (flat f ps)) (ad : Addr) (c : Nat) (hs : a.eval s = .slice (some ad) n c) (hy : RowF f w (.slice (some ad) n c) qs) (hl : ps.length = n) (hq : qs.length = n) (h1 : ∀ u ∈ flat f qs, u.oneCell' = true)
    (h : (w.setCells g 0 (flat f qs)).ownsRow 0 e k (.slice (some ⟨g, 0, none⟩) n cap) n (flat f qs) → w.grownBy (w.setCells g 0 (flat f qs)) (some g) → wpList Tryz.prog ops Q rest (a.put o.dst (goInt n)) (w.setCells g 0 (flat f qs))) : wpList Tryz.prog ops Q (o :: rest) a w := by
  have hrun := run_copy_rows hT hk w o.type g n cap ps qs hown ad c hy hl hq h1
  refine wpList_plain hgd fun K hK => ?_
  unfold Oper.wp
  simp [execOp, ho, resolve, invoke, builtin, hd, hs, hrun, Result.andThen]
  exact hK _ _ (h (row_copied hk hown hq) (grown_setCells _ _ _ _))
end
end
section
open Go.ChangeShapes Go.WideShapes Go.ChangeAt Go.RowKit
set_option linter.unusedVariables false
set_option linter.unusedSimpArgs false

/-- A slice of bools. -/
def bc (x : Bool) : List Value := [.bool x]
theorem bc_len (x : Bool) : (bc x).length = 1 := rfl

section
variable {H : Type} {enc : TypeId × Value → H} {w : World} {base : Nat} {held : Bool}
set_option maxRecDepth 100000 in
theorem rows_of {α : Type} [Inhabited α] {f : α → List Value} {k : Nat} (hk : ∀ x, (f x).length = k) (hk0 : 0 < k) {t e : TypeId} (ht : Tryz.prog.underlying t = some (.slice e)) (hc : Tryz.prog.cellsOf e = k) (p : α → Prop)
    (each : ∀ (n : Nat) (cs : List Value) (y : DataW H × List MemPlace), cs.length = k → DataW.trod enc Tryz.prog w base (fun _ => true) held n e cs = some y → ∃ x, cs = f x ∧ p x) {fuel : Nat} {v : Value} {d : DataW H × List MemPlace}
    (hf : DataW.trod enc Tryz.prog w base (fun _ => true) held fuel t [v] = some d) : ∃ l, RowF f w v l ∧ ∀ x ∈ l, p x := by
  rcases Deep.open_slice ht hf with ⟨hcs, _⟩ | ⟨y, len, cap, m, n, D, Pl, hcs, _, hl, hm, hmm, _, hx⟩
  · simp at hcs
    subst hcs
    exact ⟨[], rowF_nil w, fun x hx => by cases hx⟩
  · simp at hcs
    subst hcs
    have hlm : len ≤ m := by rw [hmm]; split <;> omega
    have ea : ∀ i, i < len → ∃ x : α, (∀ j u, (f x)[j]? = some u → w.cell? (y.add (i * k + j)) = some u) ∧ p x := by
      intro i hi
      obtain ⟨cs', h1, h2⟩ := hx i (by omega)
      rw [hc] at h1
      obtain ⟨_, hlen, hcell⟩ := World.cells?_some h1
      obtain ⟨x, rfl, hp⟩ := each _ _ _ hlen h2
      refine ⟨x, fun j u hj => ?_, hp⟩
      have hjk : j < k := by have := (List.getElem?_eq_some_iff.1 hj).1; rw [hk] at this; exact this
      have e1 := hcell j (by omega)
      rw [Deep.add_add] at e1
      rw [e1]
      exact hj
    obtain ⟨z, hz⟩ := Deep.choose_lt ea
    have hget : ∀ i, i < len → ((List.range len).map z)[i]? = some (z i) := fun i hi => by simp [hi]
    refine ⟨(List.range len).map z, ⟨some y, cap, by simp, by simpa using hl, hm, (fun h => by cases h), fun hp => ?_⟩, fun q hq => ?_⟩
    · simp at hp
      obtain ⟨b, off, spot⟩ := y
      have hspot : spot = none := by
        have h1 := (hz 0 hp).1 0 _ (List.getElem?_eq_getElem (by rw [hk]; exact hk0))
        simpa [Addr.add] using World.cell?_spot h1
      subst hspot
      refine ⟨b, off, rfl, fun j u hj => ?_⟩
      have hjl : j < len * k := by
        have := (List.getElem?_eq_some_iff.1 hj).1
        rw [flat_length hk] at this
        simpa using this
      have hlt : j % k < (f (z (j / k))).length := by rw [hk]; exact Nat.mod_lt _ hk0
      have hdiv : j / k < len := Nat.div_lt_of_lt_mul (by rw [Nat.mul_comm]; exact hjl)
      have hdm : j / k * k + j % k = j := by rw [Nat.mul_comm]; exact Nat.div_add_mod j k
      have h1 := flat_at hk (hget (j / k) hdiv) (j % k) _ (List.getElem?_eq_getElem hlt)
      rw [hdm] at h1
      rw [h1] at hj
      have h2 := (hz (j / k) hdiv).1 (j % k) _ (List.getElem?_eq_getElem hlt)
      rw [hdm, Addr.add_lit] at h2
      rw [h2]
      exact hj
    · obtain ⟨i, hi, rfl⟩ := List.mem_map.1 hq
      exact (hz i (List.mem_range.1 hi)).2
end
end
end Go.Proofs.YthnjbjlhfohpfaaGreat
