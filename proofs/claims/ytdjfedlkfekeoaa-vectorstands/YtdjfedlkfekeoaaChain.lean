/-
  A statement whose order is drawn and that holds any number of steps that turn memory, one behind the other: it is walked once, in an order of one's own choice in which each such step comes up only when nothing else can; all else is read with one outcome in every world of a class.
-/
import Derived.Test.YtdjfedlkfekeoaaHeads2
namespace Go.Proofs.Ytdjfedlkfekeoaa
set_option linter.unusedVariables false

/-- Operations that hand back a value and enter nothing. -/
def stillB (o : Oper) : Bool := match o.op with
  | .move _ | .assign _ | .pick _ _ _ | .build _ _ | .load _ _ | .binOp _ _ _ _ _ | .unOp _ _ _ | .convert _ _ _ | .makeInterface _ _ | .slice _ _ _ _ _ | .fieldAddr _ _ _ | .field _ _ _ | .indexAddr _ _ _ | .index _ _ _ | .lookup _ _ _ _ | .extract _ _ => true
  | .call c => match c.callee with
    | .builtin .len | .builtin .cap | .builtin .max | .builtin .min => true
    | _ => false
  | _ => plainB o

theorem still_value {P : Program} {o : Oper} (hp : stillB o = true) {ρ : Operand → Value} {w w' : World} {n : Next} (h : (execOp ρ o).run P w = .ok n w') : ∃ u, n = .value u := by
  unfold stillB at hp
  split at hp
  case h_17 c e =>
    unfold execOp at h
    rw [e] at h
    simp only at h
    split at hp
    case h_5 => cases hp
    all_goals
      rename_i e2
      rw [Sem.run_bind] at h
      obtain ⟨d, w1, hd, h⟩ := andThen_inv h
      simp only [resolve, e2, Sem.run_pure] at hd
      cases hd
      exact value_only h
  case h_18 => exact plain_value hp h
  all_goals
    rename_i e
    unfold execOp at h
    rw [e] at h
    first
      | exact value_only h
      | (simp at h; exact ⟨_, h.1.symm⟩)
      | (simp only [Sem.run_bind] at h; obtain ⟨b, w1, _, h2⟩ := andThen_inv h; simp at h2; exact ⟨_, h2.1.symm⟩)

section
variable {P : Program} {ops : Array Oper} {C : World → Prop} {Q : Exit → Act → World → Prop}

/-- No way out but the next step. -/
def noExit : Exit → Act → World → Prop := fun _ _ _ => False

/-- Operation o yields v, whatever world of the class it is in, which stays as it is; or its guard says no. -/
def YP (P : Program) (ops : Array Oper) (C : World → Prop) (o : Oper) (v : Value) (a : Act) : Prop :=
  (Region.wanted o (yielded ops a.tmps) = true ∧ ∀ w, C w → Oper.quietUpon P (fun w' => w' = w) w v ((execOp a.eval o).run P w)) ∨ (Region.wanted o (yielded ops a.tmps) = false ∧ v = undef)

theorem YP.of_same {o : Oper} {v : Value} {a a' : Act} (hy : YP P ops C o v a) (he : execOp a'.eval o = execOp a.eval o) (hw : Region.wanted o (yielded ops a'.tmps) = Region.wanted o (yielded ops a.tmps)) : YP P ops C o v a' := by
  unfold YP at *
  rw [he, hw]
  exact hy

/-- One step: of one that turns memory, in the world as it is; of one that does not, with one outcome. -/
def stepOp (P : Program) (ops : Array Oper) (C : World → Prop) (mem : Bool) (o : Oper) (K : Act → World → Prop) (a : Act) (w : World) : Prop :=
  if mem = true then Region.wanted o (yielded ops a.tmps) = true ∧ o.wp P a w (fun a' w' => C w' ∧ K a' w') noExit
  else ∃ v, YP P ops C o v a ∧ K (a.put o.dst v) w

/-- The steps in the order that was chosen. -/
def wpOrd (P : Program) (ops : Array Oper) (C : World → Prop) (Q : Exit → Act → World → Prop) : List (Bool × Nat × Oper) → Act → World → Prop
  | [], a, w => Q .normal a w
  | x :: l, a, w => stepOp P ops C x.1 x.2.2 (wpOrd P ops C Q l) a w

theorem stepOp_mono {m : Bool} {o : Oper} {K K' : Act → World → Prop} {a : Act} {w : World} (h : ∀ a w, K a w → K' a w) (hh : stepOp P ops C m o K a w) : stepOp P ops C m o K' a w := by
  unfold stepOp at *
  split
  · rename_i hm
    rw [if_pos hm] at hh
    exact ⟨hh.1, Oper.wp_mono (fun a w ⟨h1, h2⟩ => ⟨h1, h a w h2⟩) hh.2⟩
  · rename_i hm
    rw [if_neg hm] at hh
    obtain ⟨v, h1, h2⟩ := hh
    exact ⟨v, h1, h _ _ h2⟩

theorem noOut : ¬ LetsOut noExit := fun ⟨_, _, h⟩ => h

theorem wp_noExit {o : Oper} {a : Act} {w : World} {K : Act → World → Prop} (hh : o.wp P a w K noExit) : o.wp P a w K Q := by
  unfold Oper.wp at *
  generalize (execOp a.eval o).run P w = r at *
  cases r with
  | ok n w' =>
    cases n <;> simp only [Oper.upon] at hh ⊢ <;>
      first
        | exact hh
        | exact Calls.mono hh (fun e w'' he => by cases e <;> first | exact he | exact False.elim he | exact (noOut he).elim)
  | halt x w' => cases x <;> simp only [Oper.upon] at hh ⊢ <;> exact False.elim hh

theorem put_defers (a : Act) (d : Deferred) (x : Option Tmp) (v : Value) : { a.put x v with defers := d :: (a.put x v).defers } = ({ a with defers := d :: a.defers } : Act).put x v := by
  cases x <;> rfl

theorem wp_put {o : Oper} (hs : ∀ cs b, o.op ≠ .select cs b) {a : Act} {w : World} {K : Act → World → Prop} {d : Option Tmp} {v : Value} (h1 : ∀ x, d = some x → x ∉ o.looksAt ops) (h2 : ∀ x, d = some x → o.dst ≠ some x)
    (hh : o.wp P (a.put d v) w K noExit) : o.wp P a w (fun a' w' => K (a'.put d v) w') noExit := by
  unfold Oper.wp at *
  rw [execOp_put o hs a d v h1] at hh
  generalize (execOp a.eval o).run P w = r at *
  have comm : ∀ u, (a.put d v).put o.dst u = (a.put o.dst u).put d v := fun u => Act.put_comm a v u h2
  cases r with
  | ok n w' =>
    cases n <;> simp only [Oper.upon] at hh ⊢ <;>
      first
        | (rw [← comm]; exact hh)
        | (rw [put_defers] at hh; rw [← Act.put_comm _ _ _ h2]; exact hh)
        | exact Calls.mono hh (fun e w'' he => by cases e <;> first | (simp only at he ⊢; rw [← comm]; exact he) | exact False.elim he | exact (noOut he).elim)
        | exact Rows.mono hh (fun _ _ he => by rw [← comm]; exact he)
        | exact hh
  | halt x w' => cases x <;> simp only [Oper.upon] at hh ⊢ <;> exact False.elim hh

theorem eval_tmps {a b : Act} (h : a.tmps = b.tmps) : a.eval = b.eval := by
  funext x
  cases x <;> simp [Act.eval, h]

/-- Behind a step its own slot alone has turned. -/
theorem wp_frame {o : Oper} {a : Act} {w : World} {K : Act → World → Prop} (hh : o.wp P a w K noExit) : o.wp P a w (fun a' w' => K a' w' ∧ ∃ u, a'.tmps = (a.put o.dst u).tmps) noExit := by
  unfold Oper.wp at *
  generalize (execOp a.eval o).run P w = r at *
  cases r with
  | ok n w' =>
    cases n <;> simp only [Oper.upon] at hh ⊢ <;>
      first
        | exact ⟨hh, _, rfl⟩
        | exact ⟨hh, undef, by cases o.dst <;> rfl⟩
        | exact Calls.mono hh (fun e w'' he => by cases e <;> first | exact ⟨he, _, rfl⟩ | exact False.elim he | exact (noOut he).elim)
        | exact Rows.mono hh (fun _ _ he => ⟨he, _, rfl⟩)
        | exact hh
  | halt x w' => cases x <;> simp only [Oper.upon] at hh ⊢ <;> exact False.elim hh

/-- A step is brought ahead of still ones that have nothing to do with it. -/
theorem step_ahead {m : Bool} {j : Nat} {oj : Oper} {L2 : List (Bool × Nat × Oper)} (hsj : ∀ cs b, oj.op ≠ .select cs b) : ∀ (L1 : List (Bool × Nat × Oper)) (a : Act) (w : World),
    (∀ x ∈ L1, x.1 = false ∧ x.2.2.apart ops oj = true ∧ ∀ cs b, x.2.2.op ≠ .select cs b) → wpOrd P ops C Q (L1 ++ (m, j, oj) :: L2) a w → stepOp P ops C m oj (wpOrd P ops C Q (L1 ++ L2)) a w
  | [], a, w, _, h => h
  | (mi, i, oi) :: L1, a, w, hx, h => by
    obtain ⟨hm, hap, hsi⟩ := hx _ (List.mem_cons_self)
    simp only at hm hap hsi
    subst hm
    obtain ⟨h1, h2, h3⟩ := Oper.apart_spec hap
    obtain ⟨v, hy, hk⟩ : ∃ v, YP P ops C oi v a ∧ wpOrd P ops C Q (L1 ++ (m, j, oj) :: L2) (a.put oi.dst v) w := by
      have : stepOp P ops C false oi (wpOrd P ops C Q (L1 ++ (m, j, oj) :: L2)) a w := h
      unfold stepOp at this
      rwa [if_neg (by simp)] at this
    have ih := step_ahead hsj L1 _ w (fun x hx' => hx x (List.mem_cons_of_mem _ hx')) hk
    have goal : ∀ a' w', (YP P ops C oi v a' ∧ wpOrd P ops C Q (L1 ++ L2) (a'.put oi.dst v) w') → wpOrd P ops C Q ((false, i, oi) :: L1 ++ L2) a' w' := fun a' w' ⟨q1, q2⟩ => by
      show stepOp P ops C false oi (wpOrd P ops C Q (L1 ++ L2)) a' w'
      unfold stepOp
      rw [if_neg (by simp)]
      exact ⟨v, q1, q2⟩
    refine stepOp_mono goal ?_
    unfold stepOp at ih ⊢
    split
    · rename_i hm
      rw [if_pos hm] at ih
      refine ⟨by rw [← wanted_put oj a oi.dst v h1]; exact ih.1, ?_⟩
      have hyj : ∀ u, YP P ops C oi v (a.put oj.dst u) := fun u => hy.of_same (execOp_put oi hsi a oj.dst u h3) (wanted_put oi a oj.dst u h3)
      refine Oper.wp_mono (fun a' w' ⟨⟨q1, q2⟩, u, hu⟩ => ⟨q1, (hyj u).of_same (by rw [eval_tmps hu]) (by rw [hu]), q2⟩) (wp_frame (wp_put (ops := ops) hsj h1 h2 ih.2))
    · rename_i hm
      rw [if_neg hm] at ih
      obtain ⟨u, hu, hk2⟩ := ih
      refine ⟨u, hu.of_same (execOp_put oj hsj a oi.dst v h1).symm (wanted_put oj a oi.dst v h1).symm, hy.of_same (execOp_put oi hsi a oj.dst u h3) (wanted_put oi a oj.dst u h3), ?_⟩
      rw [← Act.put_comm a v u h2]
      exact hk2

/-- What is left, in the order that was chosen: each step is ready, and free of all that is left and does not wait for it; one that turns memory is the only one that is ready. -/
def Good (md : Region.Mode) (ops : Array Oper) : Array Bool → List (Bool × Nat × Oper) → Prop
  | listed, [] => Region.ready md ops listed = []
  | listed, x :: l => ops[x.2.1]? = some x.2.2 ∧ x.2.1 ∈ Region.ready md ops listed ∧ Region.free md ops listed x.2.1 = true ∧ (x.1 = true → Region.ready md ops listed = [x.2.1]) ∧ Good md ops (listed.setIfInBounds x.2.1 true) l

theorem free_more {md : Region.Mode} {listed : Array Bool} {i j : Nat} (h : Region.free md ops listed i = true) : Region.free md ops (listed.setIfInBounds j true) i = true := by
  unfold Region.free at *
  split
  · rename_i e; simp only [e] at h; cases h
  · rename_i oi e
    simp only [e] at h
    rw [List.all_eq_true] at h ⊢
    intro k hk
    have h1 := h k hk
    simp only [Bool.or_eq_true] at h1 ⊢
    rcases h1 with (h1 | h1) | h1
    · exact .inl (.inl h1)
    · refine .inl (.inr ?_)
      by_cases hjk : j = k
      · subst hjk
        rw [Array.getD_eq_getD_getElem?, Array.getElem?_setIfInBounds_self]
        split <;> rfl
      · rw [getD_set_ne true hjk]; exact h1
    · exact .inr h1

theorem good_split {md : Region.Mode} : ∀ (L : List (Bool × Nat × Oper)) (listed : Array Bool), Good md ops listed L → ∀ j, j ∈ Region.ready md ops listed →
    ∃ L1 m oj L2, L = L1 ++ (m, j, oj) :: L2 ∧ ops[j]? = some oj ∧ (∀ x ∈ L1, x.1 = false ∧ x.2.2.apart ops oj = true ∧ ∃ i : Nat, ops[i]? = some x.2.2) ∧ Good md ops (listed.setIfInBounds j true) (L1 ++ L2)
  | [], listed, hg, j, hj => by
    have : Region.ready md ops listed = [] := hg
    rw [this] at hj
    cases hj
  | (m, i, oi) :: L, listed, hg, j, hj => by
    obtain ⟨g1, g2, g3, g4, g5⟩ := hg
    simp only at g1 g2 g3 g4 g5
    by_cases hji : j = i
    · subst hji
      exact ⟨[], m, oi, L, rfl, g1, (fun x hx => by cases hx), g5⟩
    · cases m with
      | true =>
        have := g4 rfl
        rw [this] at hj
        simp at hj
        exact absurd hj hji
      | false =>
        obtain ⟨L1, m', oj, L2, rfl, h1, h2, h3⟩ := good_split L _ g5 j (ready_mono hj hji)
        have hun := (mem_ready.1 g2).1
        obtain ⟨hjun, oj', hoj, hall⟩ := mem_ready.1 hj
        have hnot : ∀ e ∈ oj.after, Region.binds md e = true → e.on ≠ i := fun e he hb heq => by
          rw [h1] at hoj
          cases hoj
          have h1 := hall e he hb
          rw [heq, getD_both hun] at h1
          cases h1
        refine ⟨(false, i, oi) :: L1, m', oj, L2, rfl, h1, fun x hx => ?_, ?_⟩
        · rcases List.mem_cons.1 hx with r | r
          · rw [r]
            exact ⟨rfl, Region.free_spec g1 g3 j oj h1 hji hjun hnot, i, g1⟩
          · exact h2 x r
        · refine ⟨g1, ready_mono g2 (Ne.symm hji), free_more g3, (fun h => by cases h), ?_⟩
          show Good md ops ((listed.setIfInBounds j true).setIfInBounds i true) (L1 ++ L2)
          rw [Array.setIfInBounds_comm _ _ hji]
          exact h3

theorem wpOp_of_stepOp {m : Bool} {j : Nat} {oj : Oper} {K K' : Act → World → Prop} {a : Act} {w : World} (hj : ops[j]? = some oj) (hw : C w) (h : ∀ a' w', C w' → K a' w' → K' a' w') (hh : stepOp P ops C m oj K a w) : wpOp P ops Q j K' a w := by
  unfold wpOp
  simp only [hj]
  unfold stepOp at hh
  split at hh
  · rw [if_pos hh.1]
    exact .inl (wp_noExit (Oper.wp_mono (fun a' w' ⟨q1, q2⟩ => h a' w' q1 q2) hh.2))
  · obtain ⟨v, hy, hk⟩ := hh
    rcases hy with ⟨h1, h2⟩ | ⟨h1, rfl⟩
    · rw [if_pos h1]
      refine .inl ?_
      have h0 := h2 w hw
      unfold Oper.wp
      generalize (execOp a.eval oj).run P w = r at *
      cases r with
      | halt x w' => simp only [Oper.quietUpon] at h0
      | ok n w' =>
        cases n <;> simp only [Oper.quietUpon] at h0 <;> simp only [Oper.upon]
        case value u =>
          obtain ⟨e1, e2⟩ := h0
          rw [e1, e2]
          exact h _ _ hw hk
        case skip =>
          obtain ⟨e1, e2⟩ := h0
          rw [e1, ← e2]
          exact h _ _ hw hk
        case enter f args =>
          obtain ⟨e1, hc'⟩ := h0
          rw [e1]
          exact hc'.mono fun e w'' ⟨he, hw''⟩ => by subst he; rw [hw'']; exact h _ _ hw hk
    · rw [if_neg (by rw [h1]; simp)]
      exact h _ _ hw hk

theorem wpAny_of_ord {md : Region.Mode} (hsel : Region.noSelect ops = true) : ∀ (f : Nat) (L : List (Bool × Nat × Oper)) (listed : Array Bool) (a : Act) (w : World), L.length = f → Good md ops listed L → C w → wpOrd P ops C Q L a w → wpAny P md ops Q f listed a w
  | 0, L, listed, a, w, hl, hg, hw, h => by
    have : L = [] := List.eq_nil_of_length_eq_zero hl
    subst this
    exact ⟨hg, h⟩
  | f + 1, L, listed, a, w, hl, hg, hw, h => by
    refine ⟨fun h0 => ?_, fun j hj => ?_⟩
    · cases L with
      | nil => simp at hl
      | cons x L =>
        have := hg.2.1
        rw [h0] at this
        cases this
    · obtain ⟨L1, m, oj, L2, rfl, h1, h2, h3⟩ := good_split L listed hg j hj
      have h4 := step_ahead (Region.noSelect_spec hsel j oj · · h1) L1 a w (fun x hx => ⟨(h2 x hx).1, (h2 x hx).2.1, fun cs b => by obtain ⟨i, hi⟩ := (h2 x hx).2.2; exact Region.noSelect_spec hsel i _ cs b hi⟩) h
      exact wpOp_of_stepOp h1 hw (fun a' w' hw' hk => wpAny_of_ord hsel f (L1 ++ L2) _ a' w' (by simp at hl ⊢; omega) h3 hw' hk) h4
end

/-- The chosen order, each number with its operation. -/
def pickOrd (l : List Oper) : List (Bool × Nat) → List (Bool × Nat × Oper)
  | [] => []
  | x :: r => match l[x.2]? with
    | some o => (x.1, x.2, o) :: pickOrd l r
    | none => pickOrd l r

/-- The order that was chosen is one. -/
def goodB (md : Region.Mode) (ops : Array Oper) : Array Bool → List (Bool × Nat) → Bool
  | listed, [] => (Region.ready md ops listed).isEmpty
  | listed, x :: l => decide (x.2 < ops.size) && (Region.ready md ops listed).contains x.2 && Region.free md ops listed x.2 && (!x.1 || Region.ready md ops listed == [x.2]) && goodB md ops (listed.setIfInBounds x.2 true) l

theorem good_of_B {md : Region.Mode} {l : List Oper} : ∀ (ord : List (Bool × Nat)) (listed : Array Bool), goodB md l.toArray listed ord = true → Good md l.toArray listed (pickOrd l ord) ∧ (pickOrd l ord).length = ord.length
  | [], listed, h => by
    refine ⟨?_, rfl⟩
    show Region.ready md l.toArray listed = []
    simpa [goodB] using h
  | x :: r, listed, h => by
    simp only [goodB, Bool.and_eq_true, decide_eq_true_eq] at h
    obtain ⟨⟨⟨⟨h1, h2⟩, h3⟩, h4⟩, h5⟩ := h
    obtain ⟨ih1, ih2⟩ := good_of_B r _ h5
    have hlt : x.2 < l.length := by simpa using h1
    have e : pickOrd l (x :: r) = (x.1, x.2, l[x.2]) :: pickOrd l r := by
      rw [pickOrd]
      simp only [List.getElem?_eq_getElem hlt]
    rw [e]
    refine ⟨⟨by simp [hlt], by simpa using h2, h3, fun hx => ?_, ih1⟩, by simp [ih2]⟩
    have hx' : x.1 = true := hx
    rw [hx'] at h4
    simpa using h4

def ordB (ops : Array Oper) (ord : List (Bool × Nat)) : Bool := Region.noSelect ops && decide (ord.length = ops.size) && goodB .any ops (Array.replicate ops.size false) ord

/-- A region that draws, walked in the order that was chosen. -/
theorem wp_region_ord {P : Program} {C : World → Prop} {Q : Exit → Act → World → Prop} {id : Nat} {a : Act} {w : World} {l : List Oper} (ord : List (Bool × Nat)) (hm : P.follows .mixedOrders = true) (hB : ordB l.toArray ord = true) (hC : C w.drew)
    (h : wpOrd P l.toArray C Q (pickOrd l ord) a w.drew) : (Code.region id l.toArray true).wp P Q a w := by
  simp only [ordB, Bool.and_eq_true, decide_eq_true_eq] at hB
  obtain ⟨⟨hsel, hlen⟩, hg⟩ := hB
  obtain ⟨g1, g2⟩ := good_of_B ord _ hg
  refine wp_region_any hm ?_
  exact wpAny_of_ord hsel _ _ _ _ _ (by rw [g2, hlen]) g1 hC h

section
variable {P : Program} {C : World → Prop} {Q : Exit → Act → World → Prop} {a : Act} {w : World} {l : List Oper} {i : Nat} {o : Oper} {r : List (Bool × Nat)}
theorem pickOrd_cons {m : Bool} (hi : l[i]? = some o) : pickOrd l ((m, i) :: r) = (m, i, o) :: pickOrd l r := by
  rw [pickOrd]
  simp only [hi]

/-- A still step. -/
theorem ord_still (hi : l[i]? = some o) (hp : stillB o = true) (h : wpQuiet P l.toArray C (fun a' => wpOrd P l.toArray C Q (pickOrd l r) a' w) [o] a) : wpOrd P l.toArray C Q (pickOrd l ((false, i) :: r)) a w := by
  rw [pickOrd_cons hi]
  show stepOp P l.toArray C false o (wpOrd P l.toArray C Q (pickOrd l r)) a w
  unfold stepOp
  rw [if_neg (by simp)]
  unfold wpQuiet at h
  by_cases hw : Region.wanted o (yielded l.toArray a.tmps) = true
  · rw [if_pos hw] at h
    obtain ⟨v, h1, h2⟩ := h
    refine ⟨v, .inl ⟨hw, fun w' hw' => ?_⟩, h2⟩
    have h3 := h1 w' hw'
    unfold Oper.quietAt at h3
    cases hr : (execOp a.eval o).run P w' with
    | halt x w2 => rw [hr] at h3; simp only [Oper.quietUpon] at h3
    | ok n w2 =>
      obtain ⟨u, rfl⟩ := still_value hp hr
      rw [hr] at h3
      exact h3
  · rw [if_neg hw] at h
    exact ⟨undef, .inr ⟨by simpa using hw, rfl⟩, h⟩

/-- A step that turns memory, in the world as it is. -/
theorem ord_mem (hi : l[i]? = some o) (hw : Region.wanted o (yielded l.toArray a.tmps) = true) (h : o.wp P a w (fun a' w' => C w' ∧ wpOrd P l.toArray C Q (pickOrd l r) a' w') noExit) : wpOrd P l.toArray C Q (pickOrd l ((true, i) :: r)) a w := by
  rw [pickOrd_cons hi]
  show stepOp P l.toArray C true o (wpOrd P l.toArray C Q (pickOrd l r)) a w
  unfold stepOp
  rw [if_pos rfl]
  exact ⟨hw, h⟩
theorem wp_exits {Q Q' : Exit → Act → World → Prop} {K : Act → World → Prop} (hq : ∀ ex a w, ex ≠ .normal → Q ex a w → Q' ex a w) (hh : o.wp P a w K Q) : o.wp P a w K Q' := by
  unfold Oper.wp at *
  generalize (execOp a.eval o).run P w = r at *
  cases r with
  | ok n w' =>
    cases n <;> simp only [Oper.upon] at hh ⊢ <;>
      first
        | exact hh
        | exact Calls.mono hh (fun e w'' he => by cases e <;> first | exact he | exact hq _ _ _ (by simp) he | (obtain ⟨a, w, h⟩ := he; exact ⟨a, w, hq _ _ _ (by simp) h⟩))
  | halt x w' => cases x <;> simp only [Oper.upon] at hh ⊢ <;> first | exact hq _ _ _ (by simp) hh | exact hh
/-- A law of one operation of a list serves here. -/
theorem wp_of_list {K : Act → World → Prop} (hg : o.guard = none) (h : wpList P #[] (fun ex a w => ex = .normal ∧ K a w) [o] a w) : o.wp P a w K noExit := by
  unfold wpList at h
  rw [if_pos (by simp [Region.wanted, hg])] at h
  rcases h with h | ⟨_, _, _, h, _⟩
  · exact wp_exits (fun ex a w hne h => absurd h.1 hne) (Oper.wp_mono (fun a w h => h.2) h)
  · cases h
theorem ord_end (h : Q .normal a w) : wpOrd P l.toArray C Q (pickOrd l []) a w := h
end
end Go.Proofs.Ytdjfedlkfekeoaa
