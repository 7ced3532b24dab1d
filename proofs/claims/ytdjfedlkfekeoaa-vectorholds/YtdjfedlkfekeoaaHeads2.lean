/-
  A statement whose order is drawn and that holds two calls, one behind the other: what is read for either is read in whatever order with one outcome, ahead of the first call or behind it.
-/
import Derived.Test.YtdjfedlkfekeoaaHeads
namespace Go.Proofs.Ytdjfedlkfekeoaa
set_option linter.unusedVariables false

/-- Operations that are no call. -/
def plainB (o : Oper) : Bool := match o.op with
  | .move _ => true
  | .assign _ => true
  | .load _ _ => true
  | .fieldAddr _ _ _ => true
  | .nilCheck _ => true
  | _ => false

section
variable {P : Program} {ops : Array Oper} {md : Region.Mode} {C0 C1 : World → Prop} {c : Nat}

/-- The call hands back v and leaves a world of the second class. -/
def callUpon (P : Program) (C : World → Prop) (w : World) (v : Value) : Result Next → Prop
  | .ok (.enter f args) w' => w' = w ∧ Calls P f args w (fun e w'' => e = .returned v ∧ C w'')
  | _ => False

/-- Operation i yields v: the first call leads from the first class to the second, all else stays where it is, in both. -/
def YS (P : Program) (ops : Array Oper) (C0 C1 : World → Prop) (c i : Nat) (o : Oper) (v : Value) (a : Act) : Prop :=
  (Region.wanted o (yielded ops a.tmps) = true ∧ ((i = c → ∀ w, C0 w → callUpon P C1 w v ((execOp a.eval o).run P w)) ∧ (i ≠ c → ∀ w, C0 w ∨ C1 w → Oper.quietUpon P (fun w' => w' = w) w v ((execOp a.eval o).run P w)))) ∨
  (i ≠ c ∧ Region.wanted o (yielded ops a.tmps) = false ∧ v = undef)

theorem YS.of_same {i : Nat} {o : Oper} {v : Value} {a a' : Act} (hy : YS P ops C0 C1 c i o v a) (he : execOp a'.eval o = execOp a.eval o) (hw : Region.wanted o (yielded ops a'.tmps) = Region.wanted o (yielded ops a.tmps)) : YS P ops C0 C1 c i o v a' := by
  unfold YS at *
  rw [he, hw]
  exact hy

def sOp (P : Program) (ops : Array Oper) (C0 C1 : World → Prop) (c i : Nat) (K : Act → Prop) (a : Act) : Prop :=
  ∃ o, ops[i]? = some o ∧ ∃ v, YS P ops C0 C1 c i o v a ∧ K (a.put o.dst v)

theorem sOp_mono {i : Nat} {a : Act} {K K' : Act → Prop} (h : ∀ a, K a → K' a) (hh : sOp P ops C0 C1 c i K a) : sOp P ops C0 C1 c i K' a := by
  obtain ⟨o, ho, v, hy, hk⟩ := hh
  exact ⟨o, ho, v, hy, h _ hk⟩

theorem sOp_put {i j : Nat} {oi oj : Oper} {v : Value} (hj : ops[j]? = some oj) (hap : oi.apart ops oj = true)
    (hsi : ∀ cs b, oi.op ≠ .select cs b) (hsj : ∀ cs b, oj.op ≠ .select cs b) {K : Act → Prop} {a : Act}
    (hy : YS P ops C0 C1 c i oi v a) (h : sOp P ops C0 C1 c j K (a.put oi.dst v)) : sOp P ops C0 C1 c j (fun a' => YS P ops C0 C1 c i oi v a' ∧ K (a'.put oi.dst v)) a := by
  obtain ⟨h1, h2, h3⟩ := Oper.apart_spec hap
  obtain ⟨o, ho, u, hu, hk⟩ := h
  rw [hj] at ho
  cases ho
  refine ⟨oj, hj, u, hu.of_same (execOp_put oj hsj a oi.dst v h1).symm (wanted_put oj a oi.dst v h1).symm, hy.of_same (execOp_put oi hsi a oj.dst u h3) (wanted_put oi a oj.dst u h3), ?_⟩
  rw [← Act.put_comm a v u h2]
  exact hk

def cls2 (C0 C1 : World → Prop) (d : Bool) (w : World) : Prop := if d then C1 w else C0 w

/-- One operation, from its class into the next. -/
theorem wpOp_of_sOp {i : Nat} {a : Act} {K : Act → Prop} {K' : Act → World → Prop} {Q' : Exit → Act → World → Prop} {w : World} {d d' : Bool} (hw : cls2 C0 C1 d w) (hc : i = c → d = false ∧ d' = true) (hn : i ≠ c → d' = d)
    (h : ∀ a w', cls2 C0 C1 d' w' → K a → K' a w') (hh : sOp P ops C0 C1 c i K a) : wpOp P ops Q' i K' a w := by
  obtain ⟨o, ho, v, hy, hk⟩ := hh
  unfold wpOp
  simp only [ho]
  rcases hy with ⟨h1, h2, h3⟩ | ⟨h1, h2, rfl⟩
  · rw [if_pos h1]
    refine .inl ?_
    unfold Oper.wp
    by_cases e : i = c
    · obtain ⟨e1, e2⟩ := hc e
      have h0 := h2 e w (by unfold cls2 at hw; rw [e1] at hw; exact hw)
      generalize (execOp a.eval o).run P w = r at *
      cases r with
      | halt x w' => simp only [callUpon] at h0
      | ok n w' =>
        cases n <;> simp only [callUpon] at h0 <;> simp only [Oper.upon]
        case enter f args =>
          obtain ⟨q1, q2⟩ := h0
          rw [q1]
          exact q2.mono fun e' w'' ⟨he, hw''⟩ => by subst he; exact h _ _ (by unfold cls2; rw [e2]; exact hw'') hk
    · have h0 := h3 e w (by unfold cls2 at hw; cases d <;> simp at hw <;> simp [hw])
      have hcls : cls2 C0 C1 d' w := by rw [hn e]; exact hw
      generalize (execOp a.eval o).run P w = r at *
      cases r with
      | halt x w' => simp only [Oper.quietUpon] at h0
      | ok n w' =>
        cases n <;> simp only [Oper.quietUpon] at h0 <;> simp only [Oper.upon]
        case value u =>
          obtain ⟨e1, e2⟩ := h0
          rw [e1, e2]
          exact h _ _ hcls hk
        case skip =>
          obtain ⟨e1, e2⟩ := h0
          rw [e1, ← e2]
          exact h _ _ hcls hk
        case enter f args =>
          obtain ⟨e1, hc'⟩ := h0
          rw [e1]
          exact hc'.mono fun e w'' ⟨he, hw''⟩ => by subst he; rw [hw'']; exact h _ _ hcls hk
  · rw [if_neg (by rw [h2]; simp)]
    exact h _ _ (by rw [hn h1]; exact hw) hk

def wpH (P : Program) (md : Region.Mode) (ops : Array Oper) (C0 C1 : World → Prop) (c n : Nat) (L : Array Bool → Act → Prop) : Nat → Array Bool → Act → Prop
  | 0, listed, a => L listed a
  | f + 1, listed, a => Region.ready md ops listed ≠ [] ∧ ∀ i ∈ Region.ready md ops listed, i < n ∧ sOp P ops C0 C1 c i (wpH P md ops C0 C1 c n L f (listed.setIfInBounds i true)) a

theorem wpAny_of_wpH {n g : Nat} {L : Array Bool → Act → Prop} {Q' : Exit → Act → World → Prop} (hL : ∀ listed a w, C1 w → L listed a → wpAny P md ops Q' g listed a w) (hLc : ∀ listed a, L listed a → listed.getD c false = true) :
    ∀ (f : Nat) (listed : Array Bool) (a : Act) (w : World), cls2 C0 C1 (listed.getD c false) w → wpH P md ops C0 C1 c n L f listed a → wpAny P md ops Q' (f + g) listed a w
  | 0, listed, a, w, hw, h => by
    rw [Nat.zero_add]
    exact hL _ _ _ (by unfold cls2 at hw; rw [hLc _ _ h] at hw; exact hw) h
  | f + 1, listed, a, w, hw, h => by
    rw [show f + 1 + g = (f + g) + 1 by omega]
    refine ⟨fun h0 => absurd h0 h.1, fun i hi => ?_⟩
    have hun := (mem_ready.1 hi).1
    refine wpOp_of_sOp (d' := (listed.setIfInBounds i true).getD c false) hw (fun e => ?_) (fun e => getD_set_ne false e) (fun a' w' hw' h' => wpAny_of_wpH hL hLc f _ a' w' hw' h') (h.2 i hi).2
    subst e
    refine ⟨getD_both hun, ?_⟩
    have hlt : i < listed.size := by
      rcases Nat.lt_or_ge i listed.size with h' | h'
      · exact h'
      · simp [Array.getElem?_eq_none h'] at hun
    simp [hlt]

theorem wpH_take {n i : Nat} {oi : Oper} {v : Value} {L : Array Bool → Act → Prop} (hi : ops[i]? = some oi) (hsel : ∀ (j : Nat) (o : Oper) cs b, ops[j]? = some o → o.op ≠ .select cs b)
    (hs : Region.sinkB md ops n = true) (ht : tailB md ops n = true) (hin : i < n) (hdone : ∀ listed a, L listed a → ∀ j ∈ Region.ready md ops listed, n ≤ j) :
    ∀ (f : Nat) (listed : Array Bool) (a : Act), HeadInv md ops n listed →
      (∀ j oj, ops[j]? = some oj → j ≠ i → listed.getD j true = false → (∀ e ∈ oj.after, Region.binds md e = true → e.on ≠ i) → oi.apart ops oj = true) →
      i ∈ Region.ready md ops listed → YS P ops C0 C1 c i oi v a →
      wpH P md ops C0 C1 c n L f (listed.setIfInBounds i true) (a.put oi.dst v) → wpH P md ops C0 C1 c n L (f + 1) listed a := by
  intro f
  induction f with
  | zero =>
    intro listed a inv _ hr hy H
    have hun := (mem_ready.1 hr).1
    refine ⟨fun h => (by rw [h] at hr; cases hr), fun j hj => ?_⟩
    have hjn : j < n := Nat.lt_of_not_le fun h => tail_late hs ht inv hin hun j h hj
    refine ⟨hjn, ?_⟩
    by_cases hji : j = i
    · subst hji; exact ⟨oi, hi, v, hy, H⟩
    · have := hdone _ _ H j (ready_mono hj hji)
      omega
  | succ f ih =>
    intro listed a inv hfree hr hy H
    have hun := (mem_ready.1 hr).1
    refine ⟨fun h => (by rw [h] at hr; cases hr), fun j hj => ?_⟩
    have hjn : j < n := Nat.lt_of_not_le fun h => tail_late hs ht inv hin hun j h hj
    refine ⟨hjn, ?_⟩
    by_cases hji : j = i
    · subst hji; exact ⟨oi, hi, v, hy, H⟩
    · have h1 := (H.2 j (ready_mono hj hji)).2
      obtain ⟨hjun, oj, hoj, hall⟩ := mem_ready.1 hj
      have hnot : ∀ e ∈ oj.after, Region.binds md e = true → e.on ≠ i := fun e he hb heq => by
        have h1 := hall e he hb
        rw [heq, getD_both hun] at h1
        cases h1
      have h2 := sOp_put hoj (hfree j oj hoj hji hjun hnot) (fun cs b => hsel i oi cs b hi) (fun cs b => hsel j oj cs b hoj) hy h1
      refine sOp_mono (fun a' h3 => ih (listed.setIfInBounds j true) a' (inv.set hj hjn) (fun k ok hk hki hun2 hno => hfree k ok hk hki ?_ hno) (ready_mono hr (Ne.symm hji)) h3.1 ?_) h2
      · by_cases hjk : j = k
        · subst hjk; exact hjun
        · rw [getD_set_ne true hjk] at hun2; exact hun2
      · rw [Array.setIfInBounds_comm _ _ hji]
        exact h3.2

/-- The walk in the text's order. -/
def wpLex (P : Program) (ops : Array Oper) (C0 C1 : World → Prop) (c : Nat) (Lq : Act → Prop) : List Oper → Nat → Act → Prop
  | [], _, a => Lq a
  | o :: l, k, a => ∃ v, YS P ops C0 C1 c k o v a ∧ wpLex P ops C0 C1 c Lq l (k + 1) (a.put o.dst v)

theorem wpH_lex {n : Nat} {Lq : Act → Prop} {F : Array Bool} (hsel : Region.noSelect ops = true) (hs : Region.sinkB md ops n = true) (ht : tailB md ops n = true) (hF : ∀ j ∈ Region.ready md ops F, n ≤ j) :
    ∀ (l : List Oper) (k : Nat) (listed : Array Bool) (a : Act), (∀ j, j < l.length → l[j]? = ops[k + j]?) → k + l.length = n → HeadInv md ops n listed → listN l.length k listed = F →
    headB md ops l.length k listed = true → wpLex P ops C0 C1 c Lq l k a → wpH P md ops C0 C1 c n (fun listed' a' => listed' = F ∧ Lq a') l.length listed a
  | [], k, listed, a, _, hk, _, hf, _, h => ⟨hf, h⟩
  | o :: l, k, listed, a, hl, hk, inv, hf, hB, h => by
    have h0 : ops[k]? = some o := by simpa using (hl 0 (by simp)).symm
    simp only [List.length_cons, headB, Bool.and_eq_true] at hB
    obtain ⟨⟨hr, hfr⟩, hB'⟩ := hB
    simp only [List.length_cons] at hk
    have hkn : k < n := by omega
    have hr' : k ∈ Region.ready md ops listed := by simpa using hr
    obtain ⟨v, hy, hK⟩ := h
    exact wpH_take h0 (Region.noSelect_spec hsel) hs ht hkn (fun listed' a' hL => by rw [hL.1]; exact hF) l.length listed a inv (Region.free_spec h0 hfr) hr' hy
      (wpH_lex hsel hs ht hF l (k + 1) _ _ (fun j hj => by have := hl (j + 1) (by simp; omega); simpa [Nat.add_assoc, Nat.add_comm 1 j] using this) (by omega) (inv.set hr' hkn) hf hB' hK)
end

theorem value_only {P : Program} {s : Sem Value} {w w' : World} {n : Next} (h : (do pure (Next.value (← s)) : Sem Next).run P w = .ok n w') : ∃ u, n = .value u := by
  rw [Sem.run_bind] at h
  cases hs : s.run P w with
  | halt x w2 => rw [hs] at h; simp [Result.andThen] at h
  | ok u w2 =>
    rw [hs] at h
    simp [Result.andThen] at h
    exact ⟨u, h.1.symm⟩

theorem andThen_inv {α β : Type} {r : Result α} {f : α → World → Result β} {b : β} {w' : World} (h : r.andThen f = .ok b w') : ∃ a w1, r = .ok a w1 ∧ f a w1 = .ok b w' := by
  cases r with
  | ok a w1 => exact ⟨a, w1, rfl, h⟩
  | halt x w1 => cases h

theorem plain_value {P : Program} {o : Oper} (hp : plainB o = true) {ρ : Operand → Value} {w w' : World} {n : Next} (h : (execOp ρ o).run P w = .ok n w') : ∃ u, n = .value u := by
  unfold plainB at hp
  unfold execOp at h
  split at hp
  · rename_i x e
    rw [e] at h
    simp at h
    exact ⟨_, h.1.symm⟩
  · rename_i x e
    rw [e] at h
    simp at h
    exact ⟨_, h.1.symm⟩
  · rename_i x y e
    rw [e] at h
    exact value_only h
  · rename_i x y z e
    rw [e] at h
    exact value_only h
  · rename_i x e
    rw [e] at h
    simp only at h
    split at h
    · simp [runtimePanic] at h
    · simp [runtimePanic] at h
    · simp [runtimePanic] at h
    · split at h
      · simp [runtimePanic] at h
      · simp only [Sem.run_bind] at h
        obtain ⟨p, w1, _, h⟩ := andThen_inv h
        obtain ⟨q, w2, _, h⟩ := andThen_inv h
        split at h
        · simp [unsupported] at h
        · simp at h
          exact ⟨_, h.1.symm⟩
      · simp at h
        exact ⟨_, h.1.symm⟩
    · simp at h
      exact ⟨_, h.1.symm⟩
  · cases hp

theorem wpQuiet_imp {P : Program} {ops : Array Oper} {C : World → Prop} {Q Q' : Act → Prop} (h : ∀ a, Q a → Q' a) : ∀ (l : List Oper) (a : Act), wpQuiet P ops C Q l a → wpQuiet P ops C Q' l a
  | [], a, hh => h a hh
  | o :: l, a, hh => by
    unfold wpQuiet at hh ⊢
    split
    · rename_i hw
      rw [if_pos hw] at hh
      exact Oper.quiet_mono (fun a' h' => wpQuiet_imp h l a' h') hh
    · rename_i hw
      rw [if_neg hw] at hh
      exact wpQuiet_imp h l _ hh

section
variable {P : Program} {ops : Array Oper} {C0 C1 : World → Prop} {c : Nat}

theorem wpLex_of_quiet {CU : World → Prop} (hU : ∀ w, C0 w ∨ C1 w → CU w) {Lq : Act → Prop} {rest : List Oper} : ∀ (l : List Oper) (k : Nat) (a : Act), (∀ o ∈ l, plainB o = true) → (∀ j, j < l.length → k + j ≠ c) →
    wpQuiet P ops CU (fun a' => wpLex P ops C0 C1 c Lq rest (k + l.length) a') l a → wpLex P ops C0 C1 c Lq (l ++ rest) k a
  | [], k, a, _, _, h => h
  | o :: l, k, a, hp, hc, h => by
    have hpo := hp o (by simp)
    have hck : k ≠ c := by have := hc 0 (by simp); simpa using this
    have ih := fun a' => wpLex_of_quiet hU (Lq := Lq) (rest := rest) l (k + 1) a' (fun o ho => hp o (by simp [ho])) (fun j hj => by have := hc (j + 1) (by simp; omega); omega)
    have hlen : k + (o :: l).length = k + 1 + l.length := by simp; omega
    rw [hlen] at h
    unfold wpQuiet at h
    by_cases hw : Region.wanted o (yielded ops a.tmps) = true
    · rw [if_pos hw] at h
      obtain ⟨v, h1, h2⟩ := h
      refine ⟨v, .inl ⟨hw, fun e => absurd e hck, fun _ w hw' => ?_⟩, ih _ h2⟩
      have h3 := h1 w (hU w hw')
      unfold Oper.quietAt at h3
      cases hr : (execOp a.eval o).run P w with
      | halt x w2 => rw [hr] at h3; simp only [Oper.quietUpon] at h3
      | ok n w2 =>
        obtain ⟨u, rfl⟩ := plain_value hpo hr
        rw [hr] at h3
        exact h3
    · rw [if_neg hw] at h
      exact ⟨undef, .inr ⟨hck, by simpa using hw, rfl⟩, ih _ h⟩

/-- The region's form: c operations that are no calls, a call, more that are none, a second call at n, and what hands values on. -/
def fourB (ops : Array Oper) (c n : Nat) : Bool :=
  Region.noSelect ops && decide (n < ops.size) && Region.sinkB .any ops n && tailB .any ops n && headB .any ops n 0 (Array.replicate ops.size false)
    && decide (Region.ready .any ops (listN n 0 (Array.replicate ops.size false)) = [n])
    && Region.lexFrom .any ops (ops.size - (n + 1)) (n + 1) ((listN n 0 (Array.replicate ops.size false)).setIfInBounds n true)
    && decide (c < n) && (listN n 0 (Array.replicate ops.size false)).getD c false && (ops.toList.take c).all plainB && ((ops.toList.drop (c + 1)).take (n - (c + 1))).all plainB

theorem wp_region_four {id : Nat} {Q : Exit → Act → World → Prop} {a : Act} {w : World} {l : List Oper} {oc o : Oper} {CU : World → Prop} (hU : ∀ w, C0 w ∨ C1 w → CU w) (c n : Nat) (hm : P.follows .mixedOrders = true) (hB : fourB l.toArray c n = true) (hoc : l[c]? = some oc) (hgc : oc.guard = none) (ho : l[n]? = some o) (hg : o.guard = none) (hC : C0 { w with drawn := w.drawn + 1 })
    (h : wpQuiet P l.toArray CU (fun a1 => ∃ v, (∀ w', C0 w' → callUpon P C1 w' v ((execOp a1.eval oc).run P w')) ∧
      wpQuiet P l.toArray CU (fun a2 => ∀ w', C1 w' → o.wp P a2 w' (fun a3 w3 => wpQuiet P l.toArray (fun v => v = w3) (fun a4 => Q .normal a4 w3) (l.drop (n + 1)) a3) Q) ((l.drop (c + 1)).take (n - (c + 1))) (a1.put oc.dst v)) (l.take c) a) : (Code.region id l.toArray true).wp P Q a w := by
  simp only [fourB, Bool.and_eq_true, decide_eq_true_eq, List.all_eq_true] at hB
  obtain ⟨⟨⟨⟨⟨⟨⟨⟨⟨⟨hsel, hn⟩, hs⟩, ht⟩, hh⟩, hr⟩, hlex⟩, hcn⟩, hcl⟩, hp1⟩, hp2⟩ := hB
  have hn' : n < l.length := by simpa using hn
  have htl : (l.take n).length = n := by simp; omega
  have inv0 : HeadInv .any l.toArray n (Array.replicate l.toArray.size false) :=
    ⟨by simp, fun j oj _ hl => (by rw [getD_replicate_false] at hl; cases hl), fun t _ ht => getD_in (by simpa using ht) (getD_replicate_false _ _)⟩
  have hsplit : l.take n = l.take c ++ (oc :: (l.drop (c + 1)).take (n - (c + 1))) := by
    have hc' : c < l.length := by omega
    have hoc' : l[c] = oc := by rw [List.getElem?_eq_getElem hc'] at hoc; injection hoc
    have e1 : l.take n = (l.take n).take c ++ (l.take n).drop c := (List.take_append_drop c _).symm
    rw [e1, List.take_take, Nat.min_eq_left (by omega), List.drop_take]
    congr 1
    rw [List.drop_eq_getElem_cons hc', hoc', show n - c = (n - (c + 1)) + 1 by omega, List.take_succ_cons]
  have hlc : (l.take c).length = c := by simp; omega
  have hlm : ((l.drop (c + 1)).take (n - (c + 1))).length = n - (c + 1) := by simp; omega
  have H0 : wpLex P l.toArray C0 C1 c (fun a2 => ∀ w', C1 w' → o.wp P a2 w' (fun a3 w3 => wpQuiet P l.toArray (fun v => v = w3) (fun a4 => Q .normal a4 w3) (l.drop (n + 1)) a3) Q) (l.take n) 0 a := by
    rw [hsplit]
    refine wpLex_of_quiet hU _ 0 a (fun o ho => hp1 o (by simpa using ho)) (fun j hj => by rw [hlc] at hj; omega) ?_
    refine wpQuiet_imp (fun a1 h1 => ?_) _ _ h
    obtain ⟨v, hv, h2⟩ := h1
    rw [hlc, Nat.zero_add]
    refine ⟨v, .inl ⟨by simp [Region.wanted, hgc], fun _ => hv, fun e => absurd rfl e⟩, ?_⟩
    have := wpLex_of_quiet hU (P := P) (ops := l.toArray) (C0 := C0) (C1 := C1) (c := c) (Lq := fun a2 => ∀ w', C1 w' → o.wp P a2 w' (fun a3 w3 => wpQuiet P l.toArray (fun v => v = w3) (fun a4 => Q .normal a4 w3) (l.drop (n + 1)) a3) Q) (rest := []) ((l.drop (c + 1)).take (n - (c + 1))) (c + 1) (a1.put oc.dst v) (fun o ho => hp2 o (by simpa using ho)) (fun j hj => by omega) h2
    rwa [List.append_nil] at this
  have H := wpH_lex (P := P) (md := .any) (C0 := C0) (C1 := C1) (c := c) (F := listN n 0 (Array.replicate l.toArray.size false)) hsel hs ht (fun j hj => by rw [hr] at hj; simp at hj; omega) (l.take n) 0 _ a (fun j hj => by
    have hj' : j < n := by rw [htl] at hj; exact hj
    simp [hj']) (by simpa using htl) inv0 (by rw [htl]) (by rw [htl]; exact hh) H0
  refine wp_region_any hm ?_
  have := wpAny_of_wpH (P := P) (C0 := C0) (C1 := C1) (c := c) (Q' := Q) (g := l.toArray.size - n) (fun listed a' w' hw' hL => by
    obtain ⟨hL1, hL2⟩ := hL
    have h3 := hL2 w' hw'
    rw [hL1, show l.toArray.size - n = (l.toArray.size - (n + 1)) + 1 by omega]
    refine ⟨fun h0 => (by rw [hr] at h0; cases h0), fun i hi => ?_⟩
    rw [hr] at hi
    have : i = n := by simpa using hi
    subst this
    have ho' : l.toArray[i]? = some o := by simpa using ho
    unfold wpOp
    simp only [ho']
    rw [if_pos (by simp [Region.wanted, hg])]
    refine .inl (Oper.wp_mono (fun a2 w2 h4 => ?_) h3)
    have h5 := wpAnyQ_lex (P := P) (C := fun v => v = w2) (md := .any) (Q := fun a3 => Q .normal a3 w2) hsel (l.drop (i + 1)) (i + 1) ((listN i 0 (Array.replicate l.toArray.size false)).setIfInBounds i true) a2 (fun j => by simp [List.getElem?_drop]) (by
      have : (l.drop (i + 1)).length = l.toArray.size - (i + 1) := by simp
      rw [this]; exact hlex) h4
    have hd : (l.drop (i + 1)).length = l.toArray.size - (i + 1) := by simp
    rw [hd] at h5
    exact wpAny_of_quiet (C := fun v => v = w2) (Q := fun a3 => Q .normal a3 w2) (fun a w hw hq => by cases hw; exact hq) _ _ _ w2 rfl h5) (fun listed a' hL => by rw [hL.1]; exact hcl) _ _ _ _ (by rw [getD_replicate_false]; exact hC) H
  rw [htl, show n + (l.toArray.size - n) = l.toArray.size by omega] at this
  exact this
end
end Go.Proofs.Ytdjfedlkfekeoaa
