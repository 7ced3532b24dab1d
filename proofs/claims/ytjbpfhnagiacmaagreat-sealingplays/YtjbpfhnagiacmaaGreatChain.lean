/-
  A statement whose order is drawn and that ends in one call: all ahead of the call is read in whatever order with one outcome, in a class of worlds; then the call; then what only hands values on.
  A statement whose order is drawn and that holds two calls, one behind the other: what is read for either is read in whatever order with one outcome, ahead of the first call or behind it.
  A statement whose order is drawn and that holds any number of steps that turn memory, one behind the other: it is walked once, in an order of one's own choice in which each such step comes up only when nothing else can; all else is read with one outcome in every world of a class.
  A statement whose order is drawn, walked along a tree: where two steps that turn memory are ready at once, both ways are walked; all else comes up in one order that was chosen.
-/
import Derived.StillTailTactics
import Derived.Deep.QuietTactic
import Derived.BigQuiet
namespace Go.Proofs.YtjbpfhnagiacmaaGreat
section
set_option linter.unusedVariables false
structure WIn (D : World → Prop) where
  w : World
  ok : D w
end
section
set_option linter.unusedVariables false
def plainB (o : Oper) : Bool := match o.op with
  | .move _ => true
  | .assign _ => true
  | .load _ _ => true
  | .fieldAddr _ _ _ => true
  | .nilCheck _ => true
  | _ => false
section
variable {P : Program} {ops : Array Oper} {md : Region.Mode} {C0 C1 : World → Prop} {c : Nat}
def callUpon (P : Program) (C : World → Prop) (w : World) (v : Value) : Result Next → Prop
  | .ok (.enter f args) w' => w' = w ∧ Calls P f args w (fun e w'' => e = .returned v ∧ C w'')
  | _ => False
def YS (P : Program) (ops : Array Oper) (C0 C1 : World → Prop) (c i : Nat) (o : Oper) (v : Value) (a : Act) : Prop :=
  (Region.wanted o (yielded ops a.tmps) = true ∧ ((i = c → ∀ w, C0 w → callUpon P C1 w v ((execOp a.eval o).run P w)) ∧ (i ≠ c → ∀ w, C0 w ∨ C1 w → Oper.quietUpon P (fun w' => w' = w) w v ((execOp a.eval o).run P w)))) ∨
  (i ≠ c ∧ Region.wanted o (yielded ops a.tmps) = false ∧ v = undef)
theorem YS.of_same {i : Nat} {o : Oper} {v : Value} {a a' : Act} (hy : YS P ops C0 C1 c i o v a) (he : execOp a'.eval o = execOp a.eval o) (hw : Region.wanted o (yielded ops a'.tmps) = Region.wanted o (yielded ops a.tmps)) : YS P ops C0 C1 c i o v a' := by
  unfold YS at *
  rw [he, hw]
  exact hy
end
theorem value_only {P : Program} {s : Sem Value} {w w' : World} {n : Next} (h : (do pure (Next.value (← s)) : Sem Next).run P w = .ok n w') : ∃ u, n = .value u := by
  rw [Sem.run_bind] at h
  cases hs : s.run P w with
  | halt x w2 => rw [hs] at h; simp [Result.andThen] at h
  | ok u w2 =>
    rw [hs] at h
    simp [Result.andThen] at h
    exact ⟨u, h.1.symm⟩
theorem andThen_inv {α β : Type} {r : Result α} {f : α → World → Result β} {b : β} {w' : World} (h : r.andThen f = .ok b w') : ∃ a w1, r = .ok a w1 ∧ f a w1 = .ok b w' := by
  cases r with
  | ok a w1 => exact ⟨a, w1, rfl, h⟩
  | halt x w1 => cases h
theorem plain_value {P : Program} {o : Oper} (hp : plainB o = true) {ρ : Operand → Value} {w w' : World} {n : Next} (h : (execOp ρ o).run P w = .ok n w') : ∃ u, n = .value u := by
  unfold plainB at hp
  unfold execOp at h
  split at hp
  · rename_i x e
    rw [e] at h
    simp at h
    exact ⟨_, h.1.symm⟩
  · rename_i x e
    rw [e] at h
    simp at h
    exact ⟨_, h.1.symm⟩
  · rename_i x y e
    rw [e] at h
    exact value_only h
  · rename_i x y z e
    rw [e] at h
    exact value_only h
  · rename_i x e
    rw [e] at h
    simp only at h
    split at h
    · simp [runtimePanic] at h
    · simp [runtimePanic] at h
    · simp [runtimePanic] at h
    · split at h
      · simp [runtimePanic] at h
      · simp only [Sem.run_bind] at h
        obtain ⟨p, w1, _, h⟩ := andThen_inv h
        obtain ⟨q, w2, _, h⟩ := andThen_inv h
        split at h
        · simp [unsupported] at h
        · simp at h
          exact ⟨_, h.1.symm⟩
      · simp at h
        exact ⟨_, h.1.symm⟩
    · simp at h
      exact ⟨_, h.1.symm⟩
  · cases hp
end
section
set_option linter.unusedVariables false
def stillB (o : Oper) : Bool := match o.op with
  | .move _ | .assign _ | .pick _ _ _ | .build _ _ | .load _ _ | .binOp _ _ _ _ _ | .unOp _ _ _ | .convert _ _ _ | .makeInterface _ _ | .slice _ _ _ _ _ | .fieldAddr _ _ _ | .field _ _ _ | .indexAddr _ _ _ | .index _ _ _ | .lookup _ _ _ _ | .extract _ _ => true
  | .call c => match c.callee with
    | .builtin .len | .builtin .cap | .builtin .max | .builtin .min => true
    | _ => false
  | _ => plainB o
theorem still_value {P : Program} {o : Oper} (hp : stillB o = true) {ρ : Operand → Value} {w w' : World} {n : Next} (h : (execOp ρ o).run P w = .ok n w') : ∃ u, n = .value u := by
  unfold stillB at hp
  split at hp
  case h_17 c e =>
    unfold execOp at h
    rw [e] at h
    simp only at h
    split at hp
    case h_5 => cases hp
    all_goals
      rename_i e2
      rw [Sem.run_bind] at h
      obtain ⟨d, w1, hd, h⟩ := andThen_inv h
      simp only [resolve, e2, Sem.run_pure] at hd
      cases hd
      exact value_only h
  case h_18 => exact plain_value hp h
  all_goals
    rename_i e
    unfold execOp at h
    rw [e] at h
    first
      | exact value_only h
      | (simp at h; exact ⟨_, h.1.symm⟩)
      | (simp only [Sem.run_bind] at h; obtain ⟨b, w1, _, h2⟩ := andThen_inv h; simp at h2; exact ⟨_, h2.1.symm⟩)
section
variable {P : Program} {ops : Array Oper} {C : World → Prop} {Q : Exit → Act → World → Prop}
def noExit : Exit → Act → World → Prop := fun _ _ _ => False
def YP (P : Program) (ops : Array Oper) (C : World → Prop) (o : Oper) (v : Value) (a : Act) : Prop :=
  (Region.wanted o (yielded ops a.tmps) = true ∧ ∀ w, C w → Oper.quietUpon P (fun w' => w' = w) w v ((execOp a.eval o).run P w)) ∨ (Region.wanted o (yielded ops a.tmps) = false ∧ v = undef)
theorem YP.of_same {o : Oper} {v : Value} {a a' : Act} (hy : YP P ops C o v a) (he : execOp a'.eval o = execOp a.eval o) (hw : Region.wanted o (yielded ops a'.tmps) = Region.wanted o (yielded ops a.tmps)) : YP P ops C o v a' := by
  unfold YP at *
  rw [he, hw]
  exact hy
def stepOp (P : Program) (ops : Array Oper) (C : World → Prop) (mem : Bool) (o : Oper) (K : Act → World → Prop) (a : Act) (w : World) : Prop :=
  if mem = true then Region.wanted o (yielded ops a.tmps) = true ∧ o.wp P a w (fun a' w' => C w' ∧ K a' w') noExit
  else ∃ v, YP P ops C o v a ∧ K (a.put o.dst v) w
def wpOrd (P : Program) (ops : Array Oper) (C : World → Prop) (Q : Exit → Act → World → Prop) : List (Bool × Nat × Oper) → Act → World → Prop
  | [], a, w => Q .normal a w
  | x :: l, a, w => stepOp P ops C x.1 x.2.2 (wpOrd P ops C Q l) a w
theorem stepOp_mono {m : Bool} {o : Oper} {K K' : Act → World → Prop} {a : Act} {w : World} (h : ∀ a w, K a w → K' a w) (hh : stepOp P ops C m o K a w) : stepOp P ops C m o K' a w := by
  unfold stepOp at *
  split
  · rename_i hm
    rw [if_pos hm] at hh
    exact ⟨hh.1, Oper.wp_mono (fun a w ⟨h1, h2⟩ => ⟨h1, h a w h2⟩) hh.2⟩
  · rename_i hm
    rw [if_neg hm] at hh
    obtain ⟨v, h1, h2⟩ := hh
    exact ⟨v, h1, h _ _ h2⟩
theorem noOut : ¬ LetsOut noExit := fun ⟨_, _, h⟩ => h
theorem wp_noExit {o : Oper} {a : Act} {w : World} {K : Act → World → Prop} (hh : o.wp P a w K noExit) : o.wp P a w K Q := by
  unfold Oper.wp at *
  generalize (execOp a.eval o).run P w = r at *
  cases r with
  | ok n w' =>
    cases n <;> simp only [Oper.upon] at hh ⊢ <;>
      first
        | exact hh
        | exact Calls.mono hh (fun e w'' he => by cases e <;> first | exact he | exact False.elim he | exact (noOut he).elim)
  | halt x w' => cases x <;> simp only [Oper.upon] at hh ⊢ <;> exact False.elim hh
theorem put_defers (a : Act) (d : Deferred) (x : Option Tmp) (v : Value) : { a.put x v with defers := d :: (a.put x v).defers } = ({ a with defers := d :: a.defers } : Act).put x v := by
  cases x <;> rfl
theorem wp_put {o : Oper} (hs : ∀ cs b, o.op ≠ .select cs b) {a : Act} {w : World} {K : Act → World → Prop} {d : Option Tmp} {v : Value} (h1 : ∀ x, d = some x → x ∉ o.looksAt ops) (h2 : ∀ x, d = some x → o.dst ≠ some x)
    (hh : o.wp P (a.put d v) w K noExit) : o.wp P a w (fun a' w' => K (a'.put d v) w') noExit := by
  unfold Oper.wp at *
  rw [execOp_put o hs a d v h1] at hh
  generalize (execOp a.eval o).run P w = r at *
  have comm : ∀ u, (a.put d v).put o.dst u = (a.put o.dst u).put d v := fun u => Act.put_comm a v u h2
  cases r with
  | ok n w' =>
    cases n <;> simp only [Oper.upon] at hh ⊢ <;>
      first
        | (rw [← comm]; exact hh)
        | (rw [put_defers] at hh; rw [← Act.put_comm _ _ _ h2]; exact hh)
        | exact Calls.mono hh (fun e w'' he => by cases e <;> first | (simp only at he ⊢; rw [← comm]; exact he) | exact False.elim he | exact (noOut he).elim)
        | exact Rows.mono hh (fun _ _ he => by rw [← comm]; exact he)
        | exact hh
  | halt x w' => cases x <;> simp only [Oper.upon] at hh ⊢ <;> exact False.elim hh
theorem eval_tmps {a b : Act} (h : a.tmps = b.tmps) : a.eval = b.eval := by
  funext x
  cases x <;> simp [Act.eval, h]
theorem wp_frame {o : Oper} {a : Act} {w : World} {K : Act → World → Prop} (hh : o.wp P a w K noExit) : o.wp P a w (fun a' w' => K a' w' ∧ ∃ u, a'.tmps = (a.put o.dst u).tmps) noExit := by
  unfold Oper.wp at *
  generalize (execOp a.eval o).run P w = r at *
  cases r with
  | ok n w' =>
    cases n <;> simp only [Oper.upon] at hh ⊢ <;>
      first
        | exact ⟨hh, _, rfl⟩
        | exact ⟨hh, undef, by cases o.dst <;> rfl⟩
        | exact Calls.mono hh (fun e w'' he => by cases e <;> first | exact ⟨he, _, rfl⟩ | exact False.elim he | exact (noOut he).elim)
        | exact Rows.mono hh (fun _ _ he => ⟨he, _, rfl⟩)
        | exact hh
  | halt x w' => cases x <;> simp only [Oper.upon] at hh ⊢ <;> exact False.elim hh
theorem step_ahead {m : Bool} {j : Nat} {oj : Oper} {L2 : List (Bool × Nat × Oper)} (hsj : ∀ cs b, oj.op ≠ .select cs b) : ∀ (L1 : List (Bool × Nat × Oper)) (a : Act) (w : World),
    (∀ x ∈ L1, x.1 = false ∧ x.2.2.apart ops oj = true ∧ ∀ cs b, x.2.2.op ≠ .select cs b) → wpOrd P ops C Q (L1 ++ (m, j, oj) :: L2) a w → stepOp P ops C m oj (wpOrd P ops C Q (L1 ++ L2)) a w
  | [], a, w, _, h => h
  | (mi, i, oi) :: L1, a, w, hx, h => by
    obtain ⟨hm, hap, hsi⟩ := hx _ (List.mem_cons_self)
    simp only at hm hap hsi
    subst hm
    obtain ⟨h1, h2, h3⟩ := Oper.apart_spec hap
    obtain ⟨v, hy, hk⟩ : ∃ v, YP P ops C oi v a ∧ wpOrd P ops C Q (L1 ++ (m, j, oj) :: L2) (a.put oi.dst v) w := by
      have : stepOp P ops C false oi (wpOrd P ops C Q (L1 ++ (m, j, oj) :: L2)) a w := h
      unfold stepOp at this
      rwa [if_neg (by simp)] at this
    have ih := step_ahead hsj L1 _ w (fun x hx' => hx x (List.mem_cons_of_mem _ hx')) hk
    have goal : ∀ a' w', (YP P ops C oi v a' ∧ wpOrd P ops C Q (L1 ++ L2) (a'.put oi.dst v) w') → wpOrd P ops C Q ((false, i, oi) :: L1 ++ L2) a' w' := fun a' w' ⟨q1, q2⟩ => by
      show stepOp P ops C false oi (wpOrd P ops C Q (L1 ++ L2)) a' w'
      unfold stepOp
      rw [if_neg (by simp)]
      exact ⟨v, q1, q2⟩
    refine stepOp_mono goal ?_
    unfold stepOp at ih ⊢
    split
    · rename_i hm
      rw [if_pos hm] at ih
      refine ⟨by rw [← wanted_put oj a oi.dst v h1]; exact ih.1, ?_⟩
      have hyj : ∀ u, YP P ops C oi v (a.put oj.dst u) := fun u => hy.of_same (execOp_put oi hsi a oj.dst u h3) (wanted_put oi a oj.dst u h3)
      refine Oper.wp_mono (fun a' w' ⟨⟨q1, q2⟩, u, hu⟩ => ⟨q1, (hyj u).of_same (by rw [eval_tmps hu]) (by rw [hu]), q2⟩) (wp_frame (wp_put (ops := ops) hsj h1 h2 ih.2))
    · rename_i hm
      rw [if_neg hm] at ih
      obtain ⟨u, hu, hk2⟩ := ih
      refine ⟨u, hu.of_same (execOp_put oj hsj a oi.dst v h1).symm (wanted_put oj a oi.dst v h1).symm, hy.of_same (execOp_put oi hsi a oj.dst u h3) (wanted_put oi a oj.dst u h3), ?_⟩
      rw [← Act.put_comm a v u h2]
      exact hk2
def Goodo (md : Region.Mode) (ops : Array Oper) : Array Bool → List (Bool × Nat × Oper) → Prop
  | listed, [] => Region.ready md ops listed = []
  | listed, x :: l => ops[x.2.1]? = some x.2.2 ∧ x.2.1 ∈ Region.ready md ops listed ∧ Region.free md ops listed x.2.1 = true ∧ (x.1 = true → Region.ready md ops listed = [x.2.1]) ∧ Goodo md ops (listed.setIfInBounds x.2.1 true) l
theorem free_more {md : Region.Mode} {listed : Array Bool} {i j : Nat} (h : Region.free md ops listed i = true) : Region.free md ops (listed.setIfInBounds j true) i = true := by
  unfold Region.free at *
  split
  · rename_i e; simp only [e] at h; cases h
  · rename_i oi e
    simp only [e] at h
    rw [List.all_eq_true] at h ⊢
    intro k hk
    have h1 := h k hk
    simp only [Bool.or_eq_true] at h1 ⊢
    rcases h1 with (h1 | h1) | h1
    · exact .inl (.inl h1)
    · refine .inl (.inr ?_)
      by_cases hjk : j = k
      · subst hjk
        rw [Array.getD_eq_getD_getElem?, Array.getElem?_setIfInBounds_self]
        split <;> rfl
      · rw [getD_set_ne true hjk]; exact h1
    · exact .inr h1
theorem good_split {md : Region.Mode} : ∀ (L : List (Bool × Nat × Oper)) (listed : Array Bool), Goodo md ops listed L → ∀ j, j ∈ Region.ready md ops listed →
    ∃ L1 m oj L2, L = L1 ++ (m, j, oj) :: L2 ∧ ops[j]? = some oj ∧ (∀ x ∈ L1, x.1 = false ∧ x.2.2.apart ops oj = true ∧ ∃ i : Nat, ops[i]? = some x.2.2) ∧ Goodo md ops (listed.setIfInBounds j true) (L1 ++ L2)
  | [], listed, hg, j, hj => by
    have : Region.ready md ops listed = [] := hg
    rw [this] at hj
    cases hj
  | (m, i, oi) :: L, listed, hg, j, hj => by
    obtain ⟨g1, g2, g3, g4, g5⟩ := hg
    simp only at g1 g2 g3 g4 g5
    by_cases hji : j = i
    · subst hji
      exact ⟨[], m, oi, L, rfl, g1, (fun x hx => by cases hx), g5⟩
    · cases m with
      | true =>
        have := g4 rfl
        rw [this] at hj
        simp at hj
        exact absurd hj hji
      | false =>
        obtain ⟨L1, m', oj, L2, rfl, h1, h2, h3⟩ := good_split L _ g5 j (ready_mono hj hji)
        have hun := (mem_ready.1 g2).1
        obtain ⟨hjun, oj', hoj, hall⟩ := mem_ready.1 hj
        have hnot : ∀ e ∈ oj.after, Region.binds md e = true → e.on ≠ i := fun e he hb heq => by
          rw [h1] at hoj
          cases hoj
          have h1 := hall e he hb
          rw [heq, getD_both hun] at h1
          cases h1
        refine ⟨(false, i, oi) :: L1, m', oj, L2, rfl, h1, fun x hx => ?_, ?_⟩
        · rcases List.mem_cons.1 hx with r | r
          · rw [r]
            exact ⟨rfl, Region.free_spec g1 g3 j oj h1 hji hjun hnot, i, g1⟩
          · exact h2 x r
        · refine ⟨g1, ready_mono g2 (Ne.symm hji), free_more g3, (fun h => by cases h), ?_⟩
          show Goodo md ops ((listed.setIfInBounds j true).setIfInBounds i true) (L1 ++ L2)
          rw [Array.setIfInBounds_comm _ _ hji]
          exact h3
theorem wpOp_of_stepOp {m : Bool} {j : Nat} {oj : Oper} {K K' : Act → World → Prop} {a : Act} {w : World} (hj : ops[j]? = some oj) (hw : C w) (h : ∀ a' w', C w' → K a' w' → K' a' w') (hh : stepOp P ops C m oj K a w) : wpOp P ops Q j K' a w := by
  unfold wpOp
  simp only [hj]
  unfold stepOp at hh
  split at hh
  · rw [if_pos hh.1]
    exact .inl (wp_noExit (Oper.wp_mono (fun a' w' ⟨q1, q2⟩ => h a' w' q1 q2) hh.2))
  · obtain ⟨v, hy, hk⟩ := hh
    rcases hy with ⟨h1, h2⟩ | ⟨h1, rfl⟩
    · rw [if_pos h1]
      refine .inl ?_
      have h0 := h2 w hw
      unfold Oper.wp
      generalize (execOp a.eval oj).run P w = r at *
      cases r with
      | halt x w' => simp only [Oper.quietUpon] at h0
      | ok n w' =>
        cases n <;> simp only [Oper.quietUpon] at h0 <;> simp only [Oper.upon]
        case value u =>
          obtain ⟨e1, e2⟩ := h0
          rw [e1, e2]
          exact h _ _ hw hk
        case skip =>
          obtain ⟨e1, e2⟩ := h0
          rw [e1, ← e2]
          exact h _ _ hw hk
        case enter f args =>
          obtain ⟨e1, hc'⟩ := h0
          rw [e1]
          exact hc'.mono fun e w'' ⟨he, hw''⟩ => by subst he; rw [hw'']; exact h _ _ hw hk
    · rw [if_neg (by rw [h1]; simp)]
      exact h _ _ hw hk
theorem wpAny_of_ord {md : Region.Mode} (hsel : Region.noSelect ops = true) : ∀ (f : Nat) (L : List (Bool × Nat × Oper)) (listed : Array Bool) (a : Act) (w : World), L.length = f → Goodo md ops listed L → C w → wpOrd P ops C Q L a w → wpAny P md ops Q f listed a w
  | 0, L, listed, a, w, hl, hg, hw, h => by
    have : L = [] := List.eq_nil_of_length_eq_zero hl
    subst this
    exact ⟨hg, h⟩
  | f + 1, L, listed, a, w, hl, hg, hw, h => by
    refine ⟨fun h0 => ?_, fun j hj => ?_⟩
    · cases L with
      | nil => simp at hl
      | cons x L =>
        have := hg.2.1
        rw [h0] at this
        cases this
    · obtain ⟨L1, m, oj, L2, rfl, h1, h2, h3⟩ := good_split L listed hg j hj
      have h4 := step_ahead (Region.noSelect_spec hsel j oj · · h1) L1 a w (fun x hx => ⟨(h2 x hx).1, (h2 x hx).2.1, fun cs b => by obtain ⟨i, hi⟩ := (h2 x hx).2.2; exact Region.noSelect_spec hsel i _ cs b hi⟩) h
      exact wpOp_of_stepOp h1 hw (fun a' w' hw' hk => wpAny_of_ord hsel f (L1 ++ L2) _ a' w' (by simp at hl ⊢; omega) h3 hw' hk) h4
end
def pickOrd (l : List Oper) : List (Bool × Nat) → List (Bool × Nat × Oper)
  | [] => []
  | x :: r => match l[x.2]? with
    | some o => (x.1, x.2, o) :: pickOrd l r
    | none => pickOrd l r
def goodB (md : Region.Mode) (ops : Array Oper) : Array Bool → List (Bool × Nat) → Bool
  | listed, [] => (Region.ready md ops listed).isEmpty
  | listed, x :: l => decide (x.2 < ops.size) && (Region.ready md ops listed).contains x.2 && Region.free md ops listed x.2 && (!x.1 || Region.ready md ops listed == [x.2]) && goodB md ops (listed.setIfInBounds x.2 true) l
theorem good_of_B {md : Region.Mode} {l : List Oper} : ∀ (ord : List (Bool × Nat)) (listed : Array Bool), goodB md l.toArray listed ord = true → Goodo md l.toArray listed (pickOrd l ord) ∧ (pickOrd l ord).length = ord.length
  | [], listed, h => by
    refine ⟨?_, rfl⟩
    show Region.ready md l.toArray listed = []
    simpa [goodB] using h
  | x :: r, listed, h => by
    simp only [goodB, Bool.and_eq_true, decide_eq_true_eq] at h
    obtain ⟨⟨⟨⟨h1, h2⟩, h3⟩, h4⟩, h5⟩ := h
    obtain ⟨ih1, ih2⟩ := good_of_B r _ h5
    have hlt : x.2 < l.length := by simpa using h1
    have e : pickOrd l (x :: r) = (x.1, x.2, l[x.2]) :: pickOrd l r := by
      rw [pickOrd]
      simp only [List.getElem?_eq_getElem hlt]
    rw [e]
    refine ⟨⟨by simp [hlt], by simpa using h2, h3, fun hx => ?_, ih1⟩, by simp [ih2]⟩
    have hx' : x.1 = true := hx
    rw [hx'] at h4
    simpa using h4
def ordB (ops : Array Oper) (ord : List (Bool × Nat)) : Bool := Region.noSelect ops && decide (ord.length = ops.size) && goodB .any ops (Array.replicate ops.size false) ord
theorem wp_region_ord {P : Program} {C : World → Prop} {Q : Exit → Act → World → Prop} {id : Nat} {a : Act} {w : World} {l : List Oper} (ord : List (Bool × Nat)) (hm : P.follows .mixedOrders = true) (hB : ordB l.toArray ord = true) (hC : C w.drew)
    (h : wpOrd P l.toArray C Q (pickOrd l ord) a w.drew) : (Code.region id l.toArray true).wp P Q a w := by
  simp only [ordB, Bool.and_eq_true, decide_eq_true_eq] at hB
  obtain ⟨⟨hsel, hlen⟩, hg⟩ := hB
  obtain ⟨g1, g2⟩ := good_of_B ord _ hg
  refine wp_region_any hm ?_
  exact wpAny_of_ord hsel _ _ _ _ _ (by rw [g2, hlen]) g1 hC h
section
variable {P : Program} {C : World → Prop} {Q : Exit → Act → World → Prop} {a : Act} {w : World} {l : List Oper} {i : Nat} {o : Oper} {r : List (Bool × Nat)}
theorem pickOrd_cons {m : Bool} (hi : l[i]? = some o) : pickOrd l ((m, i) :: r) = (m, i, o) :: pickOrd l r := by
  rw [pickOrd]
  simp only [hi]
theorem ord_still (hi : l[i]? = some o) (hp : stillB o = true) (h : wpQuiet P l.toArray C (fun a' => wpOrd P l.toArray C Q (pickOrd l r) a' w) [o] a) : wpOrd P l.toArray C Q (pickOrd l ((false, i) :: r)) a w := by
  rw [pickOrd_cons hi]
  show stepOp P l.toArray C false o (wpOrd P l.toArray C Q (pickOrd l r)) a w
  unfold stepOp
  rw [if_neg (by simp)]
  unfold wpQuiet at h
  by_cases hw : Region.wanted o (yielded l.toArray a.tmps) = true
  · rw [if_pos hw] at h
    obtain ⟨v, h1, h2⟩ := h
    refine ⟨v, .inl ⟨hw, fun w' hw' => ?_⟩, h2⟩
    have h3 := h1 w' hw'
    unfold Oper.quietAt at h3
    cases hr : (execOp a.eval o).run P w' with
    | halt x w2 => rw [hr] at h3; simp only [Oper.quietUpon] at h3
    | ok n w2 =>
      obtain ⟨u, rfl⟩ := still_value hp hr
      rw [hr] at h3
      exact h3
  · rw [if_neg hw] at h
    exact ⟨undef, .inr ⟨by simpa using hw, rfl⟩, h⟩
theorem ord_mem (hi : l[i]? = some o) (hw : Region.wanted o (yielded l.toArray a.tmps) = true) (h : o.wp P a w (fun a' w' => C w' ∧ wpOrd P l.toArray C Q (pickOrd l r) a' w') noExit) : wpOrd P l.toArray C Q (pickOrd l ((true, i) :: r)) a w := by
  rw [pickOrd_cons hi]
  show stepOp P l.toArray C true o (wpOrd P l.toArray C Q (pickOrd l r)) a w
  unfold stepOp
  rw [if_pos rfl]
  exact ⟨hw, h⟩
theorem wp_exits {Q Q' : Exit → Act → World → Prop} {K : Act → World → Prop} (hq : ∀ ex a w, ex ≠ .normal → Q ex a w → Q' ex a w) (hh : o.wp P a w K Q) : o.wp P a w K Q' := by
  unfold Oper.wp at *
  generalize (execOp a.eval o).run P w = r at *
  cases r with
  | ok n w' =>
    cases n <;> simp only [Oper.upon] at hh ⊢ <;>
      first
        | exact hh
        | exact Calls.mono hh (fun e w'' he => by cases e <;> first | exact he | exact hq _ _ _ (by simp) he | (obtain ⟨a, w, h⟩ := he; exact ⟨a, w, hq _ _ _ (by simp) h⟩))
  | halt x w' => cases x <;> simp only [Oper.upon] at hh ⊢ <;> first | exact hq _ _ _ (by simp) hh | exact hh
theorem wp_of_list {K : Act → World → Prop} (hg : o.guard = none) (h : wpList P #[] (fun ex a w => ex = .normal ∧ K a w) [o] a w) : o.wp P a w K noExit := by
  unfold wpList at h
  rw [if_pos (by simp [Region.wanted, hg])] at h
  rcases h with h | ⟨_, _, _, h, _⟩
  · exact wp_exits (fun ex a w hne h => absurd h.1 hne) (Oper.wp_mono (fun a w h => h.2) h)
  · cases h
theorem ord_end (h : Q .normal a w) : wpOrd P l.toArray C Q (pickOrd l []) a w := h
end
end
section
set_option linter.unusedVariables false
def OT : Nat → Type
  | 0 => Unit
  | n + 1 => (Bool × Nat × OT n) ⊕ (Nat × OT n × Nat × OT n)
def OT.done : OT 0 := ()
def OT.still {n : Nat} (i : Nat) (t : OT n) : OT (n + 1) := Sum.inl (false, i, t)
def OT.one {n : Nat} (i : Nat) (t : OT n) : OT (n + 1) := Sum.inl (true, i, t)
def OT.two {n : Nat} (i : Nat) (t : OT n) (j : Nat) (u : OT n) : OT (n + 1) := Sum.inr (i, t, j, u)
section
variable {P : Program} {ops : Array Oper} {C : World → Prop} {Q : Exit → Act → World → Prop}
def stepAt (P : Program) (ops : Array Oper) (C : World → Prop) (mem : Bool) (i : Nat) (K : Act → World → Prop) (a : Act) (w : World) : Prop := ∃ o, ops[i]? = some o ∧ stepOp P ops C mem o K a w
def wpTree (P : Program) (ops : Array Oper) (C : World → Prop) (Q : Exit → Act → World → Prop) : (n : Nat) → OT n → Act → World → Prop
  | 0, _, a, w => Q .normal a w
  | n + 1, Sum.inl (m, i, t), a, w => stepAt P ops C m i (wpTree P ops C Q n t) a w
  | n + 1, Sum.inr (i, t, j, u), a, w => stepAt P ops C true i (wpTree P ops C Q n t) a w ∧ stepAt P ops C true j (wpTree P ops C Q n u) a w
def GoodT (md : Region.Mode) (ops : Array Oper) : (n : Nat) → Array Bool → OT n → Prop
  | 0, listed, _ => Region.ready md ops listed = []
  | n + 1, listed, Sum.inl (false, i, t) => i ∈ Region.ready md ops listed ∧ Region.free md ops listed i = true ∧ GoodT md ops n (listed.setIfInBounds i true) t
  | n + 1, listed, Sum.inl (true, i, t) => Region.ready md ops listed = [i] ∧ GoodT md ops n (listed.setIfInBounds i true) t
  | n + 1, listed, Sum.inr (i, t, j, u) => i ≠ j ∧ (∀ k ∈ Region.ready md ops listed, k = i ∨ k = j) ∧ i ∈ Region.ready md ops listed ∧ GoodT md ops n (listed.setIfInBounds i true) t ∧ GoodT md ops n (listed.setIfInBounds j true) u
theorem still_late {m : Bool} {oi oj : Oper} {K : Act → World → Prop} (hsi : ∀ cs b, oi.op ≠ .select cs b) (hsj : ∀ cs b, oj.op ≠ .select cs b) (hap : oi.apart ops oj = true) {a : Act} {w : World} {v : Value} (hy : YP P ops C oi v a)
    (ih : stepOp P ops C m oj K (a.put oi.dst v) w) : stepOp P ops C m oj (fun a' w' => YP P ops C oi v a' ∧ K (a'.put oi.dst v) w') a w := by
  obtain ⟨h1, h2, h3⟩ := Oper.apart_spec hap
  unfold stepOp at ih ⊢
  split
  · rename_i hm
    rw [if_pos hm] at ih
    refine ⟨by rw [← wanted_put oj a oi.dst v h1]; exact ih.1, ?_⟩
    have hyj : ∀ u, YP P ops C oi v (a.put oj.dst u) := fun u => hy.of_same (execOp_put oi hsi a oj.dst u h3) (wanted_put oi a oj.dst u h3)
    exact Oper.wp_mono (fun a' w' ⟨⟨q1, q2⟩, u, hu⟩ => ⟨q1, (hyj u).of_same (by rw [eval_tmps hu]) (by rw [hu]), q2⟩) (wp_frame (wp_put (ops := ops) hsj h1 h2 ih.2))
  · rename_i hm
    rw [if_neg hm] at ih
    obtain ⟨u, hu, hk2⟩ := ih
    refine ⟨u, hu.of_same (execOp_put oj hsj a oi.dst v h1).symm (wanted_put oj a oi.dst v h1).symm, hy.of_same (execOp_put oi hsi a oj.dst u h3) (wanted_put oi a oj.dst u h3), ?_⟩
    rw [← Act.put_comm a v u h2]
    exact hk2
theorem tree_split {md : Region.Mode} (hsel : Region.noSelect ops = true) : ∀ (n : Nat) (T : OT (n + 1)) (listed : Array Bool), GoodT md ops (n + 1) listed T → ∀ j, j ∈ Region.ready md ops listed →
    ∃ (m : Bool) (T' : OT n), GoodT md ops n (listed.setIfInBounds j true) T' ∧ ∀ a w, wpTree P ops C Q (n + 1) T a w → stepAt P ops C m j (wpTree P ops C Q n T') a w
  | n, Sum.inl (true, i, t), listed, hg, j, hj => by
    obtain ⟨g1, g2⟩ := hg
    rw [g1] at hj
    simp at hj
    subst hj
    exact ⟨true, t, g2, fun a w h => h⟩
  | n, Sum.inr (i, t, k, u), listed, hg, j, hj => by
    obtain ⟨g1, g2, g3, g4, g5⟩ := hg
    rcases g2 j hj with rfl | rfl
    · exact ⟨true, t, g4, fun a w h => h.1⟩
    · exact ⟨true, u, g5, fun a w h => h.2⟩
  | 0, Sum.inl (false, i, t), listed, hg, j, hj => by
    obtain ⟨g1, g2, g3⟩ := hg
    by_cases hji : j = i
    · subst hji
      exact ⟨false, t, g3, fun a w h => h⟩
    · have h1 := ready_mono hj hji
      rw [show Region.ready md ops (listed.setIfInBounds i true) = [] from g3] at h1
      cases h1
  | n + 1, Sum.inl (false, i, t), listed, hg, j, hj => by
    obtain ⟨g1, g2, g3⟩ := hg
    by_cases hji : j = i
    · subst hji
      exact ⟨false, t, g3, fun a w h => h⟩
    · obtain ⟨m, T', h1, h3⟩ := tree_split hsel n t _ g3 j (ready_mono hj hji)
      have hun := (mem_ready.1 g1).1
      obtain ⟨_, oi, hoi, _⟩ := mem_ready.1 g1
      obtain ⟨hjun, oj, hoj, hall⟩ := mem_ready.1 hj
      have hnot : ∀ e ∈ oj.after, Region.binds md e = true → e.on ≠ i := fun e he hb heq => by
        have h1 := hall e he hb
        rw [heq, getD_both hun] at h1
        cases h1
      refine ⟨m, OT.still i T', ⟨ready_mono g1 (Ne.symm hji), free_more g2, ?_⟩, fun a w h => ?_⟩
      · rw [Array.setIfInBounds_comm _ _ hji]
        exact h1
      · obtain ⟨o, ho, hs⟩ := h
        rw [hoi] at ho
        cases ho
        unfold stepOp at hs
        rw [if_neg (by simp)] at hs
        obtain ⟨v, hy, hk⟩ := hs
        obtain ⟨o', ho', hs'⟩ := h3 _ _ hk
        rw [hoj] at ho'
        cases ho'
        refine ⟨oj, hoj, stepOp_mono (fun a' w' h' => ?_) (still_late (fun cs b => Region.noSelect_spec hsel i oi cs b hoi) (fun cs b => Region.noSelect_spec hsel j oj cs b hoj) (Region.free_spec hoi g2 j oj hoj hji hjun hnot) hy hs')⟩
        refine ⟨oi, hoi, ?_⟩
        unfold stepOp
        rw [if_neg (by simp)]
        exact ⟨v, h'.1, h'.2⟩
theorem good_ready {md : Region.Mode} {n : Nat} {listed : Array Bool} : ∀ (T : OT (n + 1)), GoodT md ops (n + 1) listed T → Region.ready md ops listed ≠ []
  | Sum.inl (false, i, t), hg => List.ne_nil_of_mem hg.1
  | Sum.inl (true, i, t), hg => by rw [hg.1]; exact List.cons_ne_nil _ _
  | Sum.inr (i, t, j, u), hg => List.ne_nil_of_mem hg.2.2.1
theorem wpAny_of_tree {md : Region.Mode} (hsel : Region.noSelect ops = true) : ∀ (f : Nat) (T : OT f) (listed : Array Bool) (a : Act) (w : World), GoodT md ops f listed T → C w → wpTree P ops C Q f T a w → wpAny P md ops Q f listed a w
  | 0, T, listed, a, w, hg, hw, h => ⟨hg, h⟩
  | f + 1, T, listed, a, w, hg, hw, h => by
    refine ⟨fun h0 => absurd h0 (good_ready T hg), fun j hj => ?_⟩
    obtain ⟨m, T', h1, h3⟩ := tree_split (P := P) (C := C) (Q := Q) hsel _ T listed hg j hj
    obtain ⟨oj, hoj, hs⟩ := h3 a w h
    exact wpOp_of_stepOp hoj hw (fun a' w' hw' hk => wpAny_of_tree hsel f T' _ a' w' h1 hw' hk) hs
end
def goodTB (md : Region.Mode) (ops : Array Oper) : (n : Nat) → Array Bool → OT n → Bool
  | 0, listed, _ => (Region.ready md ops listed).isEmpty
  | n + 1, listed, Sum.inl (false, i, t) => (Region.ready md ops listed).contains i && Region.free md ops listed i && goodTB md ops n (listed.setIfInBounds i true) t
  | n + 1, listed, Sum.inl (true, i, t) => Region.ready md ops listed == [i] && goodTB md ops n (listed.setIfInBounds i true) t
  | n + 1, listed, Sum.inr (i, t, j, u) => i != j && (Region.ready md ops listed).all (fun k => k == i || k == j) && (Region.ready md ops listed).contains i && goodTB md ops n (listed.setIfInBounds i true) t && goodTB md ops n (listed.setIfInBounds j true) u
theorem goodT_of_B {md : Region.Mode} {ops : Array Oper} : ∀ (n : Nat) (T : OT n) (listed : Array Bool), goodTB md ops n listed T = true → GoodT md ops n listed T
  | 0, T, listed, h => by
    simp only [goodTB] at h
    exact List.isEmpty_iff.1 h
  | n + 1, Sum.inl (false, i, t), listed, h => by
    simp only [goodTB, Bool.and_eq_true] at h
    obtain ⟨⟨h2, h3⟩, h4⟩ := h
    exact ⟨by simpa using h2, h3, goodT_of_B n t _ h4⟩
  | n + 1, Sum.inl (true, i, t), listed, h => by
    simp only [goodTB, Bool.and_eq_true, beq_iff_eq] at h
    exact ⟨h.1, goodT_of_B n t _ h.2⟩
  | n + 1, Sum.inr (i, t, j, u), listed, h => by
    simp only [goodTB, Bool.and_eq_true, bne_iff_ne, ne_eq, List.all_eq_true, Bool.or_eq_true, beq_iff_eq] at h
    obtain ⟨⟨⟨⟨h2, h3⟩, h4⟩, h5⟩, h6⟩ := h
    exact ⟨h2, h3, by simpa using h4, goodT_of_B n t _ h5, goodT_of_B n u _ h6⟩
def treeB (ops : Array Oper) (n : Nat) (T : OT n) : Bool := Region.noSelect ops && ops.size == n && goodTB .any ops n (Array.replicate ops.size false) T
theorem wp_region_tree {P : Program} {C : World → Prop} {Q : Exit → Act → World → Prop} {id : Nat} {a : Act} {w : World} {l : List Oper} {n : Nat} (T : OT n) (hm : P.follows .mixedOrders = true) (hB : treeB l.toArray n T = true) (hC : C w.drew)
    (h : wpTree P l.toArray C Q n T a w.drew) : (Code.region id l.toArray true).wp P Q a w := by
  simp only [treeB, Bool.and_eq_true, beq_iff_eq] at hB
  obtain ⟨⟨h1, rfl⟩, h2⟩ := hB
  exact wp_region_any hm (wpAny_of_tree h1 _ _ _ _ _ (goodT_of_B _ T _ h2) hC h)
section
variable {P : Program} {C : World → Prop} {Q : Exit → Act → World → Prop} {a : Act} {w : World} {l : List Oper} {i : Nat} {o : Oper} {n : Nat} {t : OT n}
theorem stepAt_mem {K : Act → World → Prop} (hi : l[i]? = some o) (hw : Region.wanted o (yielded l.toArray a.tmps) = true) (h : o.wp P a w (fun a' w' => C w' ∧ K a' w') noExit) : stepAt P l.toArray C true i K a w := by
  refine ⟨o, by simpa using hi, ?_⟩
  unfold stepOp
  rw [if_pos rfl]
  exact ⟨hw, h⟩
theorem tree_still (hi : l[i]? = some o) (hp : stillB o = true) (h : wpQuiet P l.toArray C (fun a' => wpTree P l.toArray C Q n t a' w) [o] a) : wpTree P l.toArray C Q (n + 1) (OT.still i t) a w := by
  refine ⟨o, by simpa using hi, ?_⟩
  unfold stepOp
  rw [if_neg (by simp)]
  unfold wpQuiet at h
  by_cases hw : Region.wanted o (yielded l.toArray a.tmps) = true
  · rw [if_pos hw] at h
    obtain ⟨v, h1, h2⟩ := h
    refine ⟨v, .inl ⟨hw, fun w' hw' => ?_⟩, h2⟩
    have h3 := h1 w' hw'
    unfold Oper.quietAt at h3
    cases hr : (execOp a.eval o).run P w' with
    | halt x w2 => rw [hr] at h3; simp only [Oper.quietUpon] at h3
    | ok n w2 =>
      obtain ⟨u, rfl⟩ := still_value hp hr
      rw [hr] at h3
      exact h3
  · rw [if_neg hw] at h
    exact ⟨undef, .inr ⟨by simpa using hw, rfl⟩, h⟩
theorem tree_one (hi : l[i]? = some o) (hw : Region.wanted o (yielded l.toArray a.tmps) = true) (h : o.wp P a w (fun a' w' => C w' ∧ wpTree P l.toArray C Q n t a' w') noExit) : wpTree P l.toArray C Q (n + 1) (OT.one i t) a w := stepAt_mem hi hw h
theorem tree_two {j : Nat} {oj : Oper} {u : OT n} (hi : l[i]? = some o) (hj : l[j]? = some oj) (hwi : Region.wanted o (yielded l.toArray a.tmps) = true) (hwj : Region.wanted oj (yielded l.toArray a.tmps) = true)
    (h1 : o.wp P a w (fun a' w' => C w' ∧ wpTree P l.toArray C Q n t a' w') noExit) (h2 : oj.wp P a w (fun a' w' => C w' ∧ wpTree P l.toArray C Q n u a' w') noExit) : wpTree P l.toArray C Q (n + 1) (OT.two i t j u) a w := ⟨stepAt_mem hi hwi h1, stepAt_mem hj hwj h2⟩
theorem tree_done (h : Q .normal a w) : wpTree P l.toArray C Q 0 OT.done a w := h
end
end
end Go.Proofs.YtjbpfhnagiacmaaGreat
