/-
  A statement whose order is drawn and that ends in one call: all ahead of the call is read in whatever order with one outcome, in a class of worlds; then the call; then what only hands values on.
  A statement whose order is drawn and that holds two calls, one behind the other: what is read for either is read in whatever order with one outcome, ahead of the first call or behind it.
  A statement whose order is drawn and that holds any number of steps that turn memory, one behind the other: it is walked once, in an order of one's own choice in which each such step comes up only when nothing else can; all else is read with one outcome in every world of a class.
  A statement whose order is drawn, walked along a tree: where two steps that turn memory are ready at once, both ways are walked; all else comes up in one order that was chosen.
-/
import Derived.StillTailTactics
import Derived.Deep.QuietTactic
import Derived.BigQuiet
namespace Go.Proofs.YthnjbjlhfohpfaaGreat
section
set_option linter.unusedVariables false

/-- A world for which D holds. -/
structure WIn (D : World → Prop) where
  w : World
  ok : D w
/-- The class of these worlds, as the quiet walk wants it. -/
def InC (D : World → Prop) (w' : World) : Prop := ∃ x : WIn D, w' = x.w

section
variable {P : Program} {ops : Array Oper} {md : Region.Mode} {C : World → Prop}

/-- Each operation behind number n waits for one from n on. -/
def tailB (md : Region.Mode) (ops : Array Oper) (n : Nat) : Bool :=
  (List.range ops.size).all fun t => decide (t ≤ n) || (List.range t).any fun j => decide (n ≤ j) && Region.waitsFor md ops t j

theorem head_first {n : Nat} {listed : Array Bool} (hs : Region.sinkB md ops n = true) (inv : HeadInv md ops n listed) :
    ∀ (d i : Nat), n - i = d → i < n → listed.getD i true = false → n ∉ Region.ready md ops listed := by
  intro d
  induction d using Nat.strongRecOn with
  | _ d ih =>
    intro i hd hi hun hr
    obtain ⟨_, on, hon, hall⟩ := mem_ready.1 hr
    have hlt : n < ops.size := (Array.getElem?_eq_some_iff.1 hon).1
    obtain ⟨j, hj, hj2⟩ := List.any_eq_true.1 (List.all_eq_true.1 hs i (List.mem_range.2 hi))
    simp only [Bool.and_eq_true, decide_eq_true_eq] at hj2
    obtain ⟨oj, hoj, e, he, hb, heq⟩ := Region.waitsFor_spec hj2.2
    have hjle : j ≤ n := by have := List.mem_range.1 hj; omega
    by_cases hjn : j = n
    · subst hjn
      rw [hon] at hoj
      cases hoj
      have := hall e he hb
      rw [heq, getD_both hun] at this
      cases this
    · cases hl : listed.getD j false with
      | true =>
        have := inv.closed j oj hoj hl e he hb
        rw [heq, getD_both hun] at this
        cases this
      | false => exact ih (n - j) (by omega) j rfl (by omega) (getD_in (by rw [inv.size]; omega) hl) hr

theorem tail_late {n : Nat} {listed : Array Bool} (hs : Region.sinkB md ops n = true) (ht : tailB md ops n = true) (inv : HeadInv md ops n listed) {i : Nat} (hi : i < n) (hun : listed.getD i true = false) :
    ∀ t, n ≤ t → t ∉ Region.ready md ops listed := by
  intro t htn hr
  by_cases e : t = n
  · subst e
    exact head_first hs inv _ i rfl hi hun hr
  · obtain ⟨_, ot, hot, hall⟩ := mem_ready.1 hr
    have hlt : t < ops.size := (Array.getElem?_eq_some_iff.1 hot).1
    have h1 := List.all_eq_true.1 ht t (List.mem_range.2 hlt)
    simp only [Bool.or_eq_true, decide_eq_true_eq] at h1
    rcases h1 with h1 | h1
    · omega
    · obtain ⟨j, hj, hj2⟩ := List.any_eq_true.1 h1
      simp only [Bool.and_eq_true, decide_eq_true_eq] at hj2
      obtain ⟨oj, hoj, e, he, hb, heq⟩ := Region.waitsFor_spec hj2.2
      rw [hot] at hoj
      cases hoj
      have h2 := hall e he hb
      rw [heq, getD_both (inv.tail j hj2.1 (by have := List.mem_range.1 hj; omega))] at h2
      cases h2

/-- Whatever order the first n come up in. -/
def wpHead (P : Program) (md : Region.Mode) (ops : Array Oper) (C : World → Prop) (n : Nat) (L : Array Bool → Act → Prop) : Nat → Array Bool → Act → Prop
  | 0, listed, a => L listed a
  | f + 1, listed, a => Region.ready md ops listed ≠ [] ∧ ∀ i ∈ Region.ready md ops listed, i < n ∧ qOp P ops C i (wpHead P md ops C n L f (listed.setIfInBounds i true)) a

theorem wpAny_of_wpHead {n g : Nat} {L : Array Bool → Act → Prop} {Q' : Exit → Act → World → Prop} (hL : ∀ listed a w, C w → L listed a → wpAny P md ops Q' g listed a w) :
    ∀ (f : Nat) (listed : Array Bool) (a : Act) (w : World), C w → wpHead P md ops C n L f listed a → wpAny P md ops Q' (f + g) listed a w
  | 0, listed, a, w, hw, h => by rw [Nat.zero_add]; exact hL _ _ _ hw h
  | f + 1, listed, a, w, hw, h => by
    rw [show f + 1 + g = (f + g) + 1 by omega]
    exact ⟨fun h0 => absurd h0 h.1, fun i hi => wpOp_of_qOp hw (fun a' w' hw' h' => wpAny_of_wpHead hL f _ a' w' hw' h') (h.2 i hi).2⟩

theorem wpHead_take {n i : Nat} {oi : Oper} {v : Value} {L : Array Bool → Act → Prop} (hi : ops[i]? = some oi) (hsel : ∀ (j : Nat) (o : Oper) cs b, ops[j]? = some o → o.op ≠ .select cs b)
    (hs : Region.sinkB md ops n = true) (ht : tailB md ops n = true) (hin : i < n) (hdone : ∀ listed a, L listed a → ∀ j ∈ Region.ready md ops listed, n ≤ j) :
    ∀ (f : Nat) (listed : Array Bool) (a : Act), HeadInv md ops n listed →
      (∀ j oj, ops[j]? = some oj → j ≠ i → listed.getD j true = false → (∀ e ∈ oj.after, Region.binds md e = true → e.on ≠ i) → oi.apart ops oj = true) →
      i ∈ Region.ready md ops listed → YieldsIn P ops C oi v a →
      wpHead P md ops C n L f (listed.setIfInBounds i true) (a.put oi.dst v) → wpHead P md ops C n L (f + 1) listed a := by
  intro f
  induction f with
  | zero =>
    intro listed a inv _ hr hy H
    have hun := (mem_ready.1 hr).1
    refine ⟨fun h => (by rw [h] at hr; cases hr), fun j hj => ?_⟩
    have hjn : j < n := Nat.lt_of_not_le fun h => tail_late hs ht inv hin hun j h hj
    refine ⟨hjn, ?_⟩
    by_cases hji : j = i
    · subst hji; exact hy.qOp hi H
    · have := hdone _ _ H j (ready_mono hj hji)
      omega
  | succ f ih =>
    intro listed a inv hfree hr hy H
    have hun := (mem_ready.1 hr).1
    refine ⟨fun h => (by rw [h] at hr; cases hr), fun j hj => ?_⟩
    have hjn : j < n := Nat.lt_of_not_le fun h => tail_late hs ht inv hin hun j h hj
    refine ⟨hjn, ?_⟩
    by_cases hji : j = i
    · subst hji; exact hy.qOp hi H
    · have h1 := (H.2 j (ready_mono hj hji)).2
      obtain ⟨hjun, oj, hoj, hall⟩ := mem_ready.1 hj
      have hnot : ∀ e ∈ oj.after, Region.binds md e = true → e.on ≠ i := fun e he hb heq => by
        have h1 := hall e he hb
        rw [heq, getD_both hun] at h1
        cases h1
      have h2 := qOp_put hoj (hfree j oj hoj hji hjun hnot) (fun cs b => hsel i oi cs b hi) (fun cs b => hsel j oj cs b hoj) hy h1
      refine qOp_mono (fun a' h3 => ih (listed.setIfInBounds j true) a' (inv.set hj hjn) (fun k ok hk hki hun2 hno => hfree k ok hk hki ?_ hno) (ready_mono hr (Ne.symm hji)) h3.1 ?_) h2
      · by_cases hjk : j = k
        · subst hjk; exact hjun
        · rw [getD_set_ne true hjk] at hun2; exact hun2
      · rw [Array.setIfInBounds_comm _ _ hji]
        exact h3.2

/-- The first n, in the text's order, listed. -/
def listN : Nat → Nat → Array Bool → Array Bool
  | 0, _, l => l
  | f + 1, k, l => listN f (k + 1) (l.setIfInBounds k true)
/-- .. may come up in that order, each free of what is left. -/
def headB (md : Region.Mode) (ops : Array Oper) : Nat → Nat → Array Bool → Bool
  | 0, _, _ => true
  | f + 1, k, l => (Region.ready md ops l).contains k && Region.free md ops l k && headB md ops f (k + 1) (l.setIfInBounds k true)

theorem wpHead_lex {n : Nat} {Lq : Act → Prop} {F : Array Bool} (hsel : Region.noSelect ops = true) (hs : Region.sinkB md ops n = true) (ht : tailB md ops n = true) (hF : ∀ j ∈ Region.ready md ops F, n ≤ j) :
    ∀ (l : List Oper) (k : Nat) (listed : Array Bool) (a : Act), (∀ j, j < l.length → l[j]? = ops[k + j]?) → k + l.length = n → HeadInv md ops n listed → listN l.length k listed = F →
    headB md ops l.length k listed = true → wpQuiet P ops C Lq l a → wpHead P md ops C n (fun listed' a' => listed' = F ∧ Lq a') l.length listed a
  | [], k, listed, a, _, hk, _, hf, _, h => ⟨hf, h⟩
  | o :: l, k, listed, a, hl, hk, inv, hf, hB, h => by
    have h0 : ops[k]? = some o := by simpa using (hl 0 (by simp)).symm
    simp only [List.length_cons, headB, Bool.and_eq_true] at hB
    obtain ⟨⟨hr, hfr⟩, hB'⟩ := hB
    simp only [List.length_cons] at hk
    have hkn : k < n := by omega
    have hr' : k ∈ Region.ready md ops listed := by simpa using hr
    have hst : qOp P ops C k (wpQuiet P ops C Lq l) a := by unfold qOp; simp only [h0]; exact h
    obtain ⟨v, hy, hK⟩ := yieldsIn_of_qOp h0 hst
    exact wpHead_take h0 (Region.noSelect_spec hsel) hs ht hkn (fun listed' a' hL => by rw [hL.1]; exact hF) l.length listed a inv (Region.free_spec h0 hfr) hr' hy
      (wpHead_lex hsel hs ht hF l (k + 1) _ _ (fun j hj => by have := hl (j + 1) (by simp; omega); simpa [Nat.add_assoc, Nat.add_comm 1 j] using this) (by omega) (inv.set hr' hkn) hf hB' hK)

/-- The region's form: n operations, a call, and what hands values on. -/
def threeB (ops : Array Oper) (n : Nat) : Bool :=
  Region.noSelect ops && decide (n < ops.size) && Region.sinkB .any ops n && tailB .any ops n && headB .any ops n 0 (Array.replicate ops.size false)
    && decide (Region.ready .any ops (listN n 0 (Array.replicate ops.size false)) = [n])
    && Region.lexFrom .any ops (ops.size - (n + 1)) (n + 1) ((listN n 0 (Array.replicate ops.size false)).setIfInBounds n true)

theorem wp_region_three {id : Nat} {Q : Exit → Act → World → Prop} {a : Act} {w : World} {l : List Oper} {o : Oper} (n : Nat) (hm : P.follows .mixedOrders = true) (hB : threeB l.toArray n = true) (ho : l[n]? = some o) (hg : o.guard = none) (hC : C { w with drawn := w.drawn + 1 })
    (h : wpQuiet P l.toArray C (fun a' => ∀ w', C w' → o.wp P a' w' (fun a2 w2 => wpQuiet P l.toArray (fun v => v = w2) (fun a3 => Q .normal a3 w2) (l.drop (n + 1)) a2) Q) (l.take n) a) : (Code.region id l.toArray true).wp P Q a w := by
  simp only [threeB, Bool.and_eq_true, decide_eq_true_eq] at hB
  obtain ⟨⟨⟨⟨⟨⟨hsel, hn⟩, hs⟩, ht⟩, hh⟩, hr⟩, hlex⟩ := hB
  have hn' : n < l.length := by simpa using hn
  have htl : (l.take n).length = n := by simp; omega
  have inv0 : HeadInv .any l.toArray n (Array.replicate l.toArray.size false) :=
    ⟨by simp, fun j oj _ hl => (by rw [getD_replicate_false] at hl; cases hl), fun t _ ht => getD_in (by simpa using ht) (getD_replicate_false _ _)⟩
  have H := wpHead_lex (P := P) (md := .any) (C := C) (F := listN n 0 (Array.replicate l.toArray.size false)) hsel hs ht (fun j hj => by rw [hr] at hj; simp at hj; omega) (l.take n) 0 _ a (fun j hj => by
    have hj' : j < n := by rw [htl] at hj; exact hj
    simp [hj']) (by simpa using htl) inv0 (by rw [htl]) (by rw [htl]; exact hh) h
  refine wp_region_any hm ?_
  have := wpAny_of_wpHead (P := P) (Q' := Q) (g := l.toArray.size - n) (fun listed a' w' hw' hL => by
    obtain ⟨hL1, hL2⟩ := hL
    have h3 := hL2 w' hw'
    rw [hL1, show l.toArray.size - n = (l.toArray.size - (n + 1)) + 1 by omega]
    refine ⟨fun h0 => (by rw [hr] at h0; cases h0), fun i hi => ?_⟩
    rw [hr] at hi
    have : i = n := by simpa using hi
    subst this
    have ho' : l.toArray[i]? = some o := by simpa using ho
    unfold wpOp
    simp only [ho']
    rw [if_pos (by simp [Region.wanted, hg])]
    refine .inl (Oper.wp_mono (fun a2 w2 h4 => ?_) h3)
    have h5 := wpAnyQ_lex (P := P) (C := fun v => v = w2) (md := .any) (Q := fun a3 => Q .normal a3 w2) hsel (l.drop (i + 1)) (i + 1) ((listN i 0 (Array.replicate l.toArray.size false)).setIfInBounds i true) a2 (fun j => by simp [List.getElem?_drop]) (by
      have : (l.drop (i + 1)).length = l.toArray.size - (i + 1) := by simp
      rw [this]; exact hlex) h4
    have hd : (l.drop (i + 1)).length = l.toArray.size - (i + 1) := by simp
    rw [hd] at h5
    exact wpAny_of_quiet (C := fun v => v = w2) (Q := fun a3 => Q .normal a3 w2) (fun a w hw hq => by cases hw; exact hq) _ _ _ w2 rfl h5) _ _ _ _ hC H
  rw [htl, show n + (l.toArray.size - n) = l.toArray.size by omega] at this
  exact this
end
end

section
set_option linter.unusedVariables false

/-- Operations that are no call. -/
def plainB (o : Oper) : Bool := match o.op with
  | .move _ => true
  | .assign _ => true
  | .load _ _ => true
  | .fieldAddr _ _ _ => true
  | .nilCheck _ => true
  | _ => false

section
variable {P : Program} {ops : Array Oper} {md : Region.Mode} {C0 C1 : World → Prop} {c : Nat}

/-- The call hands back v and leaves a world of the second class. -/
def callUpon (P : Program) (C : World → Prop) (w : World) (v : Value) : Result Next → Prop
  | .ok (.enter f args) w' => w' = w ∧ Calls P f args w (fun e w'' => e = .returned v ∧ C w'')
  | _ => False

/-- Operation i yields v: the first call leads from the first class to the second, all else stays where it is, in both. -/
def YS (P : Program) (ops : Array Oper) (C0 C1 : World → Prop) (c i : Nat) (o : Oper) (v : Value) (a : Act) : Prop :=
  (Region.wanted o (yielded ops a.tmps) = true ∧ ((i = c → ∀ w, C0 w → callUpon P C1 w v ((execOp a.eval o).run P w)) ∧ (i ≠ c → ∀ w, C0 w ∨ C1 w → Oper.quietUpon P (fun w' => w' = w) w v ((execOp a.eval o).run P w)))) ∨
  (i ≠ c ∧ Region.wanted o (yielded ops a.tmps) = false ∧ v = undef)

theorem YS.of_same {i : Nat} {o : Oper} {v : Value} {a a' : Act} (hy : YS P ops C0 C1 c i o v a) (he : execOp a'.eval o = execOp a.eval o) (hw : Region.wanted o (yielded ops a'.tmps) = Region.wanted o (yielded ops a.tmps)) : YS P ops C0 C1 c i o v a' := by
  unfold YS at *
  rw [he, hw]
  exact hy

def sOp (P : Program) (ops : Array Oper) (C0 C1 : World → Prop) (c i : Nat) (K : Act → Prop) (a : Act) : Prop :=
  ∃ o, ops[i]? = some o ∧ ∃ v, YS P ops C0 C1 c i o v a ∧ K (a.put o.dst v)

theorem sOp_mono {i : Nat} {a : Act} {K K' : Act → Prop} (h : ∀ a, K a → K' a) (hh : sOp P ops C0 C1 c i K a) : sOp P ops C0 C1 c i K' a := by
  obtain ⟨o, ho, v, hy, hk⟩ := hh
  exact ⟨o, ho, v, hy, h _ hk⟩

theorem sOp_put {i j : Nat} {oi oj : Oper} {v : Value} (hj : ops[j]? = some oj) (hap : oi.apart ops oj = true)
    (hsi : ∀ cs b, oi.op ≠ .select cs b) (hsj : ∀ cs b, oj.op ≠ .select cs b) {K : Act → Prop} {a : Act}
    (hy : YS P ops C0 C1 c i oi v a) (h : sOp P ops C0 C1 c j K (a.put oi.dst v)) : sOp P ops C0 C1 c j (fun a' => YS P ops C0 C1 c i oi v a' ∧ K (a'.put oi.dst v)) a := by
  obtain ⟨h1, h2, h3⟩ := Oper.apart_spec hap
  obtain ⟨o, ho, u, hu, hk⟩ := h
  rw [hj] at ho
  cases ho
  refine ⟨oj, hj, u, hu.of_same (execOp_put oj hsj a oi.dst v h1).symm (wanted_put oj a oi.dst v h1).symm, hy.of_same (execOp_put oi hsi a oj.dst u h3) (wanted_put oi a oj.dst u h3), ?_⟩
  rw [← Act.put_comm a v u h2]
  exact hk

def cls2 (C0 C1 : World → Prop) (d : Bool) (w : World) : Prop := if d then C1 w else C0 w

/-- One operation, from its class into the next. -/
theorem wpOp_of_sOp {i : Nat} {a : Act} {K : Act → Prop} {K' : Act → World → Prop} {Q' : Exit → Act → World → Prop} {w : World} {d d' : Bool} (hw : cls2 C0 C1 d w) (hc : i = c → d = false ∧ d' = true) (hn : i ≠ c → d' = d)
    (h : ∀ a w', cls2 C0 C1 d' w' → K a → K' a w') (hh : sOp P ops C0 C1 c i K a) : wpOp P ops Q' i K' a w := by
  obtain ⟨o, ho, v, hy, hk⟩ := hh
  unfold wpOp
  simp only [ho]
  rcases hy with ⟨h1, h2, h3⟩ | ⟨h1, h2, rfl⟩
  · rw [if_pos h1]
    refine .inl ?_
    unfold Oper.wp
    by_cases e : i = c
    · obtain ⟨e1, e2⟩ := hc e
      have h0 := h2 e w (by unfold cls2 at hw; rw [e1] at hw; exact hw)
      generalize (execOp a.eval o).run P w = r at *
      cases r with
      | halt x w' => simp only [callUpon] at h0
      | ok n w' =>
        cases n <;> simp only [callUpon] at h0 <;> simp only [Oper.upon]
        case enter f args =>
          obtain ⟨q1, q2⟩ := h0
          rw [q1]
          exact q2.mono fun e' w'' ⟨he, hw''⟩ => by subst he; exact h _ _ (by unfold cls2; rw [e2]; exact hw'') hk
    · have h0 := h3 e w (by unfold cls2 at hw; cases d <;> simp at hw <;> simp [hw])
      have hcls : cls2 C0 C1 d' w := by rw [hn e]; exact hw
      generalize (execOp a.eval o).run P w = r at *
      cases r with
      | halt x w' => simp only [Oper.quietUpon] at h0
      | ok n w' =>
        cases n <;> simp only [Oper.quietUpon] at h0 <;> simp only [Oper.upon]
        case value u =>
          obtain ⟨e1, e2⟩ := h0
          rw [e1, e2]
          exact h _ _ hcls hk
        case skip =>
          obtain ⟨e1, e2⟩ := h0
          rw [e1, ← e2]
          exact h _ _ hcls hk
        case enter f args =>
          obtain ⟨e1, hc'⟩ := h0
          rw [e1]
          exact hc'.mono fun e w'' ⟨he, hw''⟩ => by subst he; rw [hw'']; exact h _ _ hcls hk
  · rw [if_neg (by rw [h2]; simp)]
    exact h _ _ (by rw [hn h1]; exact hw) hk

def wpH (P : Program) (md : Region.Mode) (ops : Array Oper) (C0 C1 : World → Prop) (c n : Nat) (L : Array Bool → Act → Prop) : Nat → Array Bool → Act → Prop
  | 0, listed, a => L listed a
  | f + 1, listed, a => Region.ready md ops listed ≠ [] ∧ ∀ i ∈ Region.ready md ops listed, i < n ∧ sOp P ops C0 C1 c i (wpH P md ops C0 C1 c n L f (listed.setIfInBounds i true)) a

theorem wpAny_of_wpH {n g : Nat} {L : Array Bool → Act → Prop} {Q' : Exit → Act → World → Prop} (hL : ∀ listed a w, C1 w → L listed a → wpAny P md ops Q' g listed a w) (hLc : ∀ listed a, L listed a → listed.getD c false = true) :
    ∀ (f : Nat) (listed : Array Bool) (a : Act) (w : World), cls2 C0 C1 (listed.getD c false) w → wpH P md ops C0 C1 c n L f listed a → wpAny P md ops Q' (f + g) listed a w
  | 0, listed, a, w, hw, h => by
    rw [Nat.zero_add]
    exact hL _ _ _ (by unfold cls2 at hw; rw [hLc _ _ h] at hw; exact hw) h
  | f + 1, listed, a, w, hw, h => by
    rw [show f + 1 + g = (f + g) + 1 by omega]
    refine ⟨fun h0 => absurd h0 h.1, fun i hi => ?_⟩
    have hun := (mem_ready.1 hi).1
    refine wpOp_of_sOp (d' := (listed.setIfInBounds i true).getD c false) hw (fun e => ?_) (fun e => getD_set_ne false e) (fun a' w' hw' h' => wpAny_of_wpH hL hLc f _ a' w' hw' h') (h.2 i hi).2
    subst e
    refine ⟨getD_both hun, ?_⟩
    have hlt : i < listed.size := by
      rcases Nat.lt_or_ge i listed.size with h' | h'
      · exact h'
      · simp [Array.getElem?_eq_none h'] at hun
    simp [hlt]

theorem wpH_take {n i : Nat} {oi : Oper} {v : Value} {L : Array Bool → Act → Prop} (hi : ops[i]? = some oi) (hsel : ∀ (j : Nat) (o : Oper) cs b, ops[j]? = some o → o.op ≠ .select cs b)
    (hs : Region.sinkB md ops n = true) (ht : tailB md ops n = true) (hin : i < n) (hdone : ∀ listed a, L listed a → ∀ j ∈ Region.ready md ops listed, n ≤ j) :
    ∀ (f : Nat) (listed : Array Bool) (a : Act), HeadInv md ops n listed →
      (∀ j oj, ops[j]? = some oj → j ≠ i → listed.getD j true = false → (∀ e ∈ oj.after, Region.binds md e = true → e.on ≠ i) → oi.apart ops oj = true) →
      i ∈ Region.ready md ops listed → YS P ops C0 C1 c i oi v a →
      wpH P md ops C0 C1 c n L f (listed.setIfInBounds i true) (a.put oi.dst v) → wpH P md ops C0 C1 c n L (f + 1) listed a := by
  intro f
  induction f with
  | zero =>
    intro listed a inv _ hr hy H
    have hun := (mem_ready.1 hr).1
    refine ⟨fun h => (by rw [h] at hr; cases hr), fun j hj => ?_⟩
    have hjn : j < n := Nat.lt_of_not_le fun h => tail_late hs ht inv hin hun j h hj
    refine ⟨hjn, ?_⟩
    by_cases hji : j = i
    · subst hji; exact ⟨oi, hi, v, hy, H⟩
    · have := hdone _ _ H j (ready_mono hj hji)
      omega
  | succ f ih =>
    intro listed a inv hfree hr hy H
    have hun := (mem_ready.1 hr).1
    refine ⟨fun h => (by rw [h] at hr; cases hr), fun j hj => ?_⟩
    have hjn : j < n := Nat.lt_of_not_le fun h => tail_late hs ht inv hin hun j h hj
    refine ⟨hjn, ?_⟩
    by_cases hji : j = i
    · subst hji; exact ⟨oi, hi, v, hy, H⟩
    · have h1 := (H.2 j (ready_mono hj hji)).2
      obtain ⟨hjun, oj, hoj, hall⟩ := mem_ready.1 hj
      have hnot : ∀ e ∈ oj.after, Region.binds md e = true → e.on ≠ i := fun e he hb heq => by
        have h1 := hall e he hb
        rw [heq, getD_both hun] at h1
        cases h1
      have h2 := sOp_put hoj (hfree j oj hoj hji hjun hnot) (fun cs b => hsel i oi cs b hi) (fun cs b => hsel j oj cs b hoj) hy h1
      refine sOp_mono (fun a' h3 => ih (listed.setIfInBounds j true) a' (inv.set hj hjn) (fun k ok hk hki hun2 hno => hfree k ok hk hki ?_ hno) (ready_mono hr (Ne.symm hji)) h3.1 ?_) h2
      · by_cases hjk : j = k
        · subst hjk; exact hjun
        · rw [getD_set_ne true hjk] at hun2; exact hun2
      · rw [Array.setIfInBounds_comm _ _ hji]
        exact h3.2

/-- The walk in the text's order. -/
def wpLex (P : Program) (ops : Array Oper) (C0 C1 : World → Prop) (c : Nat) (Lq : Act → Prop) : List Oper → Nat → Act → Prop
  | [], _, a => Lq a
  | o :: l, k, a => ∃ v, YS P ops C0 C1 c k o v a ∧ wpLex P ops C0 C1 c Lq l (k + 1) (a.put o.dst v)

theorem wpH_lex {n : Nat} {Lq : Act → Prop} {F : Array Bool} (hsel : Region.noSelect ops = true) (hs : Region.sinkB md ops n = true) (ht : tailB md ops n = true) (hF : ∀ j ∈ Region.ready md ops F, n ≤ j) :
    ∀ (l : List Oper) (k : Nat) (listed : Array Bool) (a : Act), (∀ j, j < l.length → l[j]? = ops[k + j]?) → k + l.length = n → HeadInv md ops n listed → listN l.length k listed = F →
    headB md ops l.length k listed = true → wpLex P ops C0 C1 c Lq l k a → wpH P md ops C0 C1 c n (fun listed' a' => listed' = F ∧ Lq a') l.length listed a
  | [], k, listed, a, _, hk, _, hf, _, h => ⟨hf, h⟩
  | o :: l, k, listed, a, hl, hk, inv, hf, hB, h => by
    have h0 : ops[k]? = some o := by simpa using (hl 0 (by simp)).symm
    simp only [List.length_cons, headB, Bool.and_eq_true] at hB
    obtain ⟨⟨hr, hfr⟩, hB'⟩ := hB
    simp only [List.length_cons] at hk
    have hkn : k < n := by omega
    have hr' : k ∈ Region.ready md ops listed := by simpa using hr
    obtain ⟨v, hy, hK⟩ := h
    exact wpH_take h0 (Region.noSelect_spec hsel) hs ht hkn (fun listed' a' hL => by rw [hL.1]; exact hF) l.length listed a inv (Region.free_spec h0 hfr) hr' hy
      (wpH_lex hsel hs ht hF l (k + 1) _ _ (fun j hj => by have := hl (j + 1) (by simp; omega); simpa [Nat.add_assoc, Nat.add_comm 1 j] using this) (by omega) (inv.set hr' hkn) hf hB' hK)
end

theorem value_only {P : Program} {s : Sem Value} {w w' : World} {n : Next} (h : (do pure (Next.value (← s)) : Sem Next).run P w = .ok n w') : ∃ u, n = .value u := by
  rw [Sem.run_bind] at h
  cases hs : s.run P w with
  | halt x w2 => rw [hs] at h; simp [Result.andThen] at h
  | ok u w2 =>
    rw [hs] at h
    simp [Result.andThen] at h
    exact ⟨u, h.1.symm⟩

theorem andThen_inv {α β : Type} {r : Result α} {f : α → World → Result β} {b : β} {w' : World} (h : r.andThen f = .ok b w') : ∃ a w1, r = .ok a w1 ∧ f a w1 = .ok b w' := by
  cases r with
  | ok a w1 => exact ⟨a, w1, rfl, h⟩
  | halt x w1 => cases h

theorem plain_value {P : Program} {o : Oper} (hp : plainB o = true) {ρ : Operand → Value} {w w' : World} {n : Next} (h : (execOp ρ o).run P w = .ok n w') : ∃ u, n = .value u := by
  unfold plainB at hp
  unfold execOp at h
  split at hp
  · rename_i x e
    rw [e] at h
    simp at h
    exact ⟨_, h.1.symm⟩
  · rename_i x e
    rw [e] at h
    simp at h
    exact ⟨_, h.1.symm⟩
  · rename_i x y e
    rw [e] at h
    exact value_only h
  · rename_i x y z e
    rw [e] at h
    exact value_only h
  · rename_i x e
    rw [e] at h
    simp only at h
    split at h
    · simp [runtimePanic] at h
    · simp [runtimePanic] at h
    · simp [runtimePanic] at h
    · split at h
      · simp [runtimePanic] at h
      · simp only [Sem.run_bind] at h
        obtain ⟨p, w1, _, h⟩ := andThen_inv h
        obtain ⟨q, w2, _, h⟩ := andThen_inv h
        split at h
        · simp [unsupported] at h
        · simp at h
          exact ⟨_, h.1.symm⟩
      · simp at h
        exact ⟨_, h.1.symm⟩
    · simp at h
      exact ⟨_, h.1.symm⟩
  · cases hp

theorem wpQuiet_imp {P : Program} {ops : Array Oper} {C : World → Prop} {Q Q' : Act → Prop} (h : ∀ a, Q a → Q' a) : ∀ (l : List Oper) (a : Act), wpQuiet P ops C Q l a → wpQuiet P ops C Q' l a
  | [], a, hh => h a hh
  | o :: l, a, hh => by
    unfold wpQuiet at hh ⊢
    split
    · rename_i hw
      rw [if_pos hw] at hh
      exact Oper.quiet_mono (fun a' h' => wpQuiet_imp h l a' h') hh
    · rename_i hw
      rw [if_neg hw] at hh
      exact wpQuiet_imp h l _ hh

section
variable {P : Program} {ops : Array Oper} {C0 C1 : World → Prop} {c : Nat}

theorem wpLex_of_quiet {CU : World → Prop} (hU : ∀ w, C0 w ∨ C1 w → CU w) {Lq : Act → Prop} {rest : List Oper} : ∀ (l : List Oper) (k : Nat) (a : Act), (∀ o ∈ l, plainB o = true) → (∀ j, j < l.length → k + j ≠ c) →
    wpQuiet P ops CU (fun a' => wpLex P ops C0 C1 c Lq rest (k + l.length) a') l a → wpLex P ops C0 C1 c Lq (l ++ rest) k a
  | [], k, a, _, _, h => h
  | o :: l, k, a, hp, hc, h => by
    have hpo := hp o (by simp)
    have hck : k ≠ c := by have := hc 0 (by simp); simpa using this
    have ih := fun a' => wpLex_of_quiet hU (Lq := Lq) (rest := rest) l (k + 1) a' (fun o ho => hp o (by simp [ho])) (fun j hj => by have := hc (j + 1) (by simp; omega); omega)
    have hlen : k + (o :: l).length = k + 1 + l.length := by simp; omega
    rw [hlen] at h
    unfold wpQuiet at h
    by_cases hw : Region.wanted o (yielded ops a.tmps) = true
    · rw [if_pos hw] at h
      obtain ⟨v, h1, h2⟩ := h
      refine ⟨v, .inl ⟨hw, fun e => absurd e hck, fun _ w hw' => ?_⟩, ih _ h2⟩
      have h3 := h1 w (hU w hw')
      unfold Oper.quietAt at h3
      cases hr : (execOp a.eval o).run P w with
      | halt x w2 => rw [hr] at h3; simp only [Oper.quietUpon] at h3
      | ok n w2 =>
        obtain ⟨u, rfl⟩ := plain_value hpo hr
        rw [hr] at h3
        exact h3
    · rw [if_neg hw] at h
      exact ⟨undef, .inr ⟨hck, by simpa using hw, rfl⟩, ih _ h⟩

/-- The region's form: c operations that are no calls, a call, more that are none, a second call at n, and what hands values on. -/
def fourB (ops : Array Oper) (c n : Nat) : Bool :=
  Region.noSelect ops && decide (n < ops.size) && Region.sinkB .any ops n && tailB .any ops n && headB .any ops n 0 (Array.replicate ops.size false)
    && decide (Region.ready .any ops (listN n 0 (Array.replicate ops.size false)) = [n])
    && Region.lexFrom .any ops (ops.size - (n + 1)) (n + 1) ((listN n 0 (Array.replicate ops.size false)).setIfInBounds n true)
    && decide (c < n) && (listN n 0 (Array.replicate ops.size false)).getD c false && (ops.toList.take c).all plainB && ((ops.toList.drop (c + 1)).take (n - (c + 1))).all plainB

theorem wp_region_four {id : Nat} {Q : Exit → Act → World → Prop} {a : Act} {w : World} {l : List Oper} {oc o : Oper} {CU : World → Prop} (hU : ∀ w, C0 w ∨ C1 w → CU w) (c n : Nat) (hm : P.follows .mixedOrders = true) (hB : fourB l.toArray c n = true) (hoc : l[c]? = some oc) (hgc : oc.guard = none) (ho : l[n]? = some o) (hg : o.guard = none) (hC : C0 { w with drawn := w.drawn + 1 })
    (h : wpQuiet P l.toArray CU (fun a1 => ∃ v, (∀ w', C0 w' → callUpon P C1 w' v ((execOp a1.eval oc).run P w')) ∧
      wpQuiet P l.toArray CU (fun a2 => ∀ w', C1 w' → o.wp P a2 w' (fun a3 w3 => wpQuiet P l.toArray (fun v => v = w3) (fun a4 => Q .normal a4 w3) (l.drop (n + 1)) a3) Q) ((l.drop (c + 1)).take (n - (c + 1))) (a1.put oc.dst v)) (l.take c) a) : (Code.region id l.toArray true).wp P Q a w := by
  simp only [fourB, Bool.and_eq_true, decide_eq_true_eq, List.all_eq_true] at hB
  obtain ⟨⟨⟨⟨⟨⟨⟨⟨⟨⟨hsel, hn⟩, hs⟩, ht⟩, hh⟩, hr⟩, hlex⟩, hcn⟩, hcl⟩, hp1⟩, hp2⟩ := hB
  have hn' : n < l.length := by simpa using hn
  have htl : (l.take n).length = n := by simp; omega
  have inv0 : HeadInv .any l.toArray n (Array.replicate l.toArray.size false) :=
    ⟨by simp, fun j oj _ hl => (by rw [getD_replicate_false] at hl; cases hl), fun t _ ht => getD_in (by simpa using ht) (getD_replicate_false _ _)⟩
  have hsplit : l.take n = l.take c ++ (oc :: (l.drop (c + 1)).take (n - (c + 1))) := by
    have hc' : c < l.length := by omega
    have hoc' : l[c] = oc := by rw [List.getElem?_eq_getElem hc'] at hoc; injection hoc
    have e1 : l.take n = (l.take n).take c ++ (l.take n).drop c := (List.take_append_drop c _).symm
    rw [e1, List.take_take, Nat.min_eq_left (by omega), List.drop_take]
    congr 1
    rw [List.drop_eq_getElem_cons hc', hoc', show n - c = (n - (c + 1)) + 1 by omega, List.take_succ_cons]
  have hlc : (l.take c).length = c := by simp; omega
  have hlm : ((l.drop (c + 1)).take (n - (c + 1))).length = n - (c + 1) := by simp; omega
  have H0 : wpLex P l.toArray C0 C1 c (fun a2 => ∀ w', C1 w' → o.wp P a2 w' (fun a3 w3 => wpQuiet P l.toArray (fun v => v = w3) (fun a4 => Q .normal a4 w3) (l.drop (n + 1)) a3) Q) (l.take n) 0 a := by
    rw [hsplit]
    refine wpLex_of_quiet hU _ 0 a (fun o ho => hp1 o (by simpa using ho)) (fun j hj => by rw [hlc] at hj; omega) ?_
    refine wpQuiet_imp (fun a1 h1 => ?_) _ _ h
    obtain ⟨v, hv, h2⟩ := h1
    rw [hlc, Nat.zero_add]
    refine ⟨v, .inl ⟨by simp [Region.wanted, hgc], fun _ => hv, fun e => absurd rfl e⟩, ?_⟩
    have := wpLex_of_quiet hU (P := P) (ops := l.toArray) (C0 := C0) (C1 := C1) (c := c) (Lq := fun a2 => ∀ w', C1 w' → o.wp P a2 w' (fun a3 w3 => wpQuiet P l.toArray (fun v => v = w3) (fun a4 => Q .normal a4 w3) (l.drop (n + 1)) a3) Q) (rest := []) ((l.drop (c + 1)).take (n - (c + 1))) (c + 1) (a1.put oc.dst v) (fun o ho => hp2 o (by simpa using ho)) (fun j hj => by omega) h2
    rwa [List.append_nil] at this
  have H := wpH_lex (P := P) (md := .any) (C0 := C0) (C1 := C1) (c := c) (F := listN n 0 (Array.replicate l.toArray.size false)) hsel hs ht (fun j hj => by rw [hr] at hj; simp at hj; omega) (l.take n) 0 _ a (fun j hj => by
    have hj' : j < n := by rw [htl] at hj; exact hj
    simp [hj']) (by simpa using htl) inv0 (by rw [htl]) (by rw [htl]; exact hh) H0
  refine wp_region_any hm ?_
  have := wpAny_of_wpH (P := P) (C0 := C0) (C1 := C1) (c := c) (Q' := Q) (g := l.toArray.size - n) (fun listed a' w' hw' hL => by
    obtain ⟨hL1, hL2⟩ := hL
    have h3 := hL2 w' hw'
    rw [hL1, show l.toArray.size - n = (l.toArray.size - (n + 1)) + 1 by omega]
    refine ⟨fun h0 => (by rw [hr] at h0; cases h0), fun i hi => ?_⟩
    rw [hr] at hi
    have : i = n := by simpa using hi
    subst this
    have ho' : l.toArray[i]? = some o := by simpa using ho
    unfold wpOp
    simp only [ho']
    rw [if_pos (by simp [Region.wanted, hg])]
    refine .inl (Oper.wp_mono (fun a2 w2 h4 => ?_) h3)
    have h5 := wpAnyQ_lex (P := P) (C := fun v => v = w2) (md := .any) (Q := fun a3 => Q .normal a3 w2) hsel (l.drop (i + 1)) (i + 1) ((listN i 0 (Array.replicate l.toArray.size false)).setIfInBounds i true) a2 (fun j => by simp [List.getElem?_drop]) (by
      have : (l.drop (i + 1)).length = l.toArray.size - (i + 1) := by simp
      rw [this]; exact hlex) h4
    have hd : (l.drop (i + 1)).length = l.toArray.size - (i + 1) := by simp
    rw [hd] at h5
    exact wpAny_of_quiet (C := fun v => v = w2) (Q := fun a3 => Q .normal a3 w2) (fun a w hw hq => by cases hw; exact hq) _ _ _ w2 rfl h5) (fun listed a' hL => by rw [hL.1]; exact hcl) _ _ _ _ (by rw [getD_replicate_false]; exact hC) H
  rw [htl, show n + (l.toArray.size - n) = l.toArray.size by omega] at this
  exact this
end
end

section
set_option linter.unusedVariables false

/-- Operations that hand back a value and enter nothing. -/
def stillB (o : Oper) : Bool := match o.op with
  | .move _ | .assign _ | .pick _ _ _ | .build _ _ | .load _ _ | .binOp _ _ _ _ _ | .unOp _ _ _ | .convert _ _ _ | .makeInterface _ _ | .slice _ _ _ _ _ | .fieldAddr _ _ _ | .field _ _ _ | .indexAddr _ _ _ | .index _ _ _ | .lookup _ _ _ _ | .extract _ _ => true
  | .call c => match c.callee with
    | .builtin .len | .builtin .cap | .builtin .max | .builtin .min => true
    | _ => false
  | _ => plainB o

theorem still_value {P : Program} {o : Oper} (hp : stillB o = true) {ρ : Operand → Value} {w w' : World} {n : Next} (h : (execOp ρ o).run P w = .ok n w') : ∃ u, n = .value u := by
  unfold stillB at hp
  split at hp
  case h_17 c e =>
    unfold execOp at h
    rw [e] at h
    simp only at h
    split at hp
    case h_5 => cases hp
    all_goals
      rename_i e2
      rw [Sem.run_bind] at h
      obtain ⟨d, w1, hd, h⟩ := andThen_inv h
      simp only [resolve, e2, Sem.run_pure] at hd
      cases hd
      exact value_only h
  case h_18 => exact plain_value hp h
  all_goals
    rename_i e
    unfold execOp at h
    rw [e] at h
    first
      | exact value_only h
      | (simp at h; exact ⟨_, h.1.symm⟩)
      | (simp only [Sem.run_bind] at h; obtain ⟨b, w1, _, h2⟩ := andThen_inv h; simp at h2; exact ⟨_, h2.1.symm⟩)

section
variable {P : Program} {ops : Array Oper} {C : World → Prop} {Q : Exit → Act → World → Prop}

/-- No way out but the next step. -/
def noExit : Exit → Act → World → Prop := fun _ _ _ => False

/-- Operation o yields v, whatever world of the class it is in, which stays as it is; or its guard says no. -/
def YP (P : Program) (ops : Array Oper) (C : World → Prop) (o : Oper) (v : Value) (a : Act) : Prop :=
  (Region.wanted o (yielded ops a.tmps) = true ∧ ∀ w, C w → Oper.quietUpon P (fun w' => w' = w) w v ((execOp a.eval o).run P w)) ∨ (Region.wanted o (yielded ops a.tmps) = false ∧ v = undef)

theorem YP.of_same {o : Oper} {v : Value} {a a' : Act} (hy : YP P ops C o v a) (he : execOp a'.eval o = execOp a.eval o) (hw : Region.wanted o (yielded ops a'.tmps) = Region.wanted o (yielded ops a.tmps)) : YP P ops C o v a' := by
  unfold YP at *
  rw [he, hw]
  exact hy

/-- One step: of one that turns memory, in the world as it is; of one that does not, with one outcome. -/
def stepOp (P : Program) (ops : Array Oper) (C : World → Prop) (mem : Bool) (o : Oper) (K : Act → World → Prop) (a : Act) (w : World) : Prop :=
  if mem = true then Region.wanted o (yielded ops a.tmps) = true ∧ o.wp P a w (fun a' w' => C w' ∧ K a' w') noExit
  else ∃ v, YP P ops C o v a ∧ K (a.put o.dst v) w

/-- The steps in the order that was chosen. -/
def wpOrd (P : Program) (ops : Array Oper) (C : World → Prop) (Q : Exit → Act → World → Prop) : List (Bool × Nat × Oper) → Act → World → Prop
  | [], a, w => Q .normal a w
  | x :: l, a, w => stepOp P ops C x.1 x.2.2 (wpOrd P ops C Q l) a w

theorem stepOp_mono {m : Bool} {o : Oper} {K K' : Act → World → Prop} {a : Act} {w : World} (h : ∀ a w, K a w → K' a w) (hh : stepOp P ops C m o K a w) : stepOp P ops C m o K' a w := by
  unfold stepOp at *
  split
  · rename_i hm
    rw [if_pos hm] at hh
    exact ⟨hh.1, Oper.wp_mono (fun a w ⟨h1, h2⟩ => ⟨h1, h a w h2⟩) hh.2⟩
  · rename_i hm
    rw [if_neg hm] at hh
    obtain ⟨v, h1, h2⟩ := hh
    exact ⟨v, h1, h _ _ h2⟩

theorem noOut : ¬ LetsOut noExit := fun ⟨_, _, h⟩ => h

theorem wp_noExit {o : Oper} {a : Act} {w : World} {K : Act → World → Prop} (hh : o.wp P a w K noExit) : o.wp P a w K Q := by
  unfold Oper.wp at *
  generalize (execOp a.eval o).run P w = r at *
  cases r with
  | ok n w' =>
    cases n <;> simp only [Oper.upon] at hh ⊢ <;>
      first
        | exact hh
        | exact Calls.mono hh (fun e w'' he => by cases e <;> first | exact he | exact False.elim he | exact (noOut he).elim)
  | halt x w' => cases x <;> simp only [Oper.upon] at hh ⊢ <;> exact False.elim hh

theorem put_defers (a : Act) (d : Deferred) (x : Option Tmp) (v : Value) : { a.put x v with defers := d :: (a.put x v).defers } = ({ a with defers := d :: a.defers } : Act).put x v := by
  cases x <;> rfl

theorem wp_put {o : Oper} (hs : ∀ cs b, o.op ≠ .select cs b) {a : Act} {w : World} {K : Act → World → Prop} {d : Option Tmp} {v : Value} (h1 : ∀ x, d = some x → x ∉ o.looksAt ops) (h2 : ∀ x, d = some x → o.dst ≠ some x)
    (hh : o.wp P (a.put d v) w K noExit) : o.wp P a w (fun a' w' => K (a'.put d v) w') noExit := by
  unfold Oper.wp at *
  rw [execOp_put o hs a d v h1] at hh
  generalize (execOp a.eval o).run P w = r at *
  have comm : ∀ u, (a.put d v).put o.dst u = (a.put o.dst u).put d v := fun u => Act.put_comm a v u h2
  cases r with
  | ok n w' =>
    cases n <;> simp only [Oper.upon] at hh ⊢ <;>
      first
        | (rw [← comm]; exact hh)
        | (rw [put_defers] at hh; rw [← Act.put_comm _ _ _ h2]; exact hh)
        | exact Calls.mono hh (fun e w'' he => by cases e <;> first | (simp only at he ⊢; rw [← comm]; exact he) | exact False.elim he | exact (noOut he).elim)
        | exact Rows.mono hh (fun _ _ he => by rw [← comm]; exact he)
        | exact hh
  | halt x w' => cases x <;> simp only [Oper.upon] at hh ⊢ <;> exact False.elim hh

theorem eval_tmps {a b : Act} (h : a.tmps = b.tmps) : a.eval = b.eval := by
  funext x
  cases x <;> simp [Act.eval, h]

/-- Behind a step its own slot alone has turned. -/
theorem wp_frame {o : Oper} {a : Act} {w : World} {K : Act → World → Prop} (hh : o.wp P a w K noExit) : o.wp P a w (fun a' w' => K a' w' ∧ ∃ u, a'.tmps = (a.put o.dst u).tmps) noExit := by
  unfold Oper.wp at *
  generalize (execOp a.eval o).run P w = r at *
  cases r with
  | ok n w' =>
    cases n <;> simp only [Oper.upon] at hh ⊢ <;>
      first
        | exact ⟨hh, _, rfl⟩
        | exact ⟨hh, undef, by cases o.dst <;> rfl⟩
        | exact Calls.mono hh (fun e w'' he => by cases e <;> first | exact ⟨he, _, rfl⟩ | exact False.elim he | exact (noOut he).elim)
        | exact Rows.mono hh (fun _ _ he => ⟨he, _, rfl⟩)
        | exact hh
  | halt x w' => cases x <;> simp only [Oper.upon] at hh ⊢ <;> exact False.elim hh

/-- A step is brought ahead of still ones that have nothing to do with it. -/
theorem step_ahead {m : Bool} {j : Nat} {oj : Oper} {L2 : List (Bool × Nat × Oper)} (hsj : ∀ cs b, oj.op ≠ .select cs b) : ∀ (L1 : List (Bool × Nat × Oper)) (a : Act) (w : World),
    (∀ x ∈ L1, x.1 = false ∧ x.2.2.apart ops oj = true ∧ ∀ cs b, x.2.2.op ≠ .select cs b) → wpOrd P ops C Q (L1 ++ (m, j, oj) :: L2) a w → stepOp P ops C m oj (wpOrd P ops C Q (L1 ++ L2)) a w
  | [], a, w, _, h => h
  | (mi, i, oi) :: L1, a, w, hx, h => by
    obtain ⟨hm, hap, hsi⟩ := hx _ (List.mem_cons_self)
    simp only at hm hap hsi
    subst hm
    obtain ⟨h1, h2, h3⟩ := Oper.apart_spec hap
    obtain ⟨v, hy, hk⟩ : ∃ v, YP P ops C oi v a ∧ wpOrd P ops C Q (L1 ++ (m, j, oj) :: L2) (a.put oi.dst v) w := by
      have : stepOp P ops C false oi (wpOrd P ops C Q (L1 ++ (m, j, oj) :: L2)) a w := h
      unfold stepOp at this
      rwa [if_neg (by simp)] at this
    have ih := step_ahead hsj L1 _ w (fun x hx' => hx x (List.mem_cons_of_mem _ hx')) hk
    have goal : ∀ a' w', (YP P ops C oi v a' ∧ wpOrd P ops C Q (L1 ++ L2) (a'.put oi.dst v) w') → wpOrd P ops C Q ((false, i, oi) :: L1 ++ L2) a' w' := fun a' w' ⟨q1, q2⟩ => by
      show stepOp P ops C false oi (wpOrd P ops C Q (L1 ++ L2)) a' w'
      unfold stepOp
      rw [if_neg (by simp)]
      exact ⟨v, q1, q2⟩
    refine stepOp_mono goal ?_
    unfold stepOp at ih ⊢
    split
    · rename_i hm
      rw [if_pos hm] at ih
      refine ⟨by rw [← wanted_put oj a oi.dst v h1]; exact ih.1, ?_⟩
      have hyj : ∀ u, YP P ops C oi v (a.put oj.dst u) := fun u => hy.of_same (execOp_put oi hsi a oj.dst u h3) (wanted_put oi a oj.dst u h3)
      refine Oper.wp_mono (fun a' w' ⟨⟨q1, q2⟩, u, hu⟩ => ⟨q1, (hyj u).of_same (by rw [eval_tmps hu]) (by rw [hu]), q2⟩) (wp_frame (wp_put (ops := ops) hsj h1 h2 ih.2))
    · rename_i hm
      rw [if_neg hm] at ih
      obtain ⟨u, hu, hk2⟩ := ih
      refine ⟨u, hu.of_same (execOp_put oj hsj a oi.dst v h1).symm (wanted_put oj a oi.dst v h1).symm, hy.of_same (execOp_put oi hsi a oj.dst u h3) (wanted_put oi a oj.dst u h3), ?_⟩
      rw [← Act.put_comm a v u h2]
      exact hk2

/-- What is left, in the order that was chosen: each step is ready, and free of all that is left and does not wait for it; one that turns memory is the only one that is ready. -/
def Goodo (md : Region.Mode) (ops : Array Oper) : Array Bool → List (Bool × Nat × Oper) → Prop
  | listed, [] => Region.ready md ops listed = []
  | listed, x :: l => ops[x.2.1]? = some x.2.2 ∧ x.2.1 ∈ Region.ready md ops listed ∧ Region.free md ops listed x.2.1 = true ∧ (x.1 = true → Region.ready md ops listed = [x.2.1]) ∧ Goodo md ops (listed.setIfInBounds x.2.1 true) l

theorem free_more {md : Region.Mode} {listed : Array Bool} {i j : Nat} (h : Region.free md ops listed i = true) : Region.free md ops (listed.setIfInBounds j true) i = true := by
  unfold Region.free at *
  split
  · rename_i e; simp only [e] at h; cases h
  · rename_i oi e
    simp only [e] at h
    rw [List.all_eq_true] at h ⊢
    intro k hk
    have h1 := h k hk
    simp only [Bool.or_eq_true] at h1 ⊢
    rcases h1 with (h1 | h1) | h1
    · exact .inl (.inl h1)
    · refine .inl (.inr ?_)
      by_cases hjk : j = k
      · subst hjk
        rw [Array.getD_eq_getD_getElem?, Array.getElem?_setIfInBounds_self]
        split <;> rfl
      · rw [getD_set_ne true hjk]; exact h1
    · exact .inr h1

theorem good_split {md : Region.Mode} : ∀ (L : List (Bool × Nat × Oper)) (listed : Array Bool), Goodo md ops listed L → ∀ j, j ∈ Region.ready md ops listed →
    ∃ L1 m oj L2, L = L1 ++ (m, j, oj) :: L2 ∧ ops[j]? = some oj ∧ (∀ x ∈ L1, x.1 = false ∧ x.2.2.apart ops oj = true ∧ ∃ i : Nat, ops[i]? = some x.2.2) ∧ Goodo md ops (listed.setIfInBounds j true) (L1 ++ L2)
  | [], listed, hg, j, hj => by
    have : Region.ready md ops listed = [] := hg
    rw [this] at hj
    cases hj
  | (m, i, oi) :: L, listed, hg, j, hj => by
    obtain ⟨g1, g2, g3, g4, g5⟩ := hg
    simp only at g1 g2 g3 g4 g5
    by_cases hji : j = i
    · subst hji
      exact ⟨[], m, oi, L, rfl, g1, (fun x hx => by cases hx), g5⟩
    · cases m with
      | true =>
        have := g4 rfl
        rw [this] at hj
        simp at hj
        exact absurd hj hji
      | false =>
        obtain ⟨L1, m', oj, L2, rfl, h1, h2, h3⟩ := good_split L _ g5 j (ready_mono hj hji)
        have hun := (mem_ready.1 g2).1
        obtain ⟨hjun, oj', hoj, hall⟩ := mem_ready.1 hj
        have hnot : ∀ e ∈ oj.after, Region.binds md e = true → e.on ≠ i := fun e he hb heq => by
          rw [h1] at hoj
          cases hoj
          have h1 := hall e he hb
          rw [heq, getD_both hun] at h1
          cases h1
        refine ⟨(false, i, oi) :: L1, m', oj, L2, rfl, h1, fun x hx => ?_, ?_⟩
        · rcases List.mem_cons.1 hx with r | r
          · rw [r]
            exact ⟨rfl, Region.free_spec g1 g3 j oj h1 hji hjun hnot, i, g1⟩
          · exact h2 x r
        · refine ⟨g1, ready_mono g2 (Ne.symm hji), free_more g3, (fun h => by cases h), ?_⟩
          show Goodo md ops ((listed.setIfInBounds j true).setIfInBounds i true) (L1 ++ L2)
          rw [Array.setIfInBounds_comm _ _ hji]
          exact h3

theorem wpOp_of_stepOp {m : Bool} {j : Nat} {oj : Oper} {K K' : Act → World → Prop} {a : Act} {w : World} (hj : ops[j]? = some oj) (hw : C w) (h : ∀ a' w', C w' → K a' w' → K' a' w') (hh : stepOp P ops C m oj K a w) : wpOp P ops Q j K' a w := by
  unfold wpOp
  simp only [hj]
  unfold stepOp at hh
  split at hh
  · rw [if_pos hh.1]
    exact .inl (wp_noExit (Oper.wp_mono (fun a' w' ⟨q1, q2⟩ => h a' w' q1 q2) hh.2))
  · obtain ⟨v, hy, hk⟩ := hh
    rcases hy with ⟨h1, h2⟩ | ⟨h1, rfl⟩
    · rw [if_pos h1]
      refine .inl ?_
      have h0 := h2 w hw
      unfold Oper.wp
      generalize (execOp a.eval oj).run P w = r at *
      cases r with
      | halt x w' => simp only [Oper.quietUpon] at h0
      | ok n w' =>
        cases n <;> simp only [Oper.quietUpon] at h0 <;> simp only [Oper.upon]
        case value u =>
          obtain ⟨e1, e2⟩ := h0
          rw [e1, e2]
          exact h _ _ hw hk
        case skip =>
          obtain ⟨e1, e2⟩ := h0
          rw [e1, ← e2]
          exact h _ _ hw hk
        case enter f args =>
          obtain ⟨e1, hc'⟩ := h0
          rw [e1]
          exact hc'.mono fun e w'' ⟨he, hw''⟩ => by subst he; rw [hw'']; exact h _ _ hw hk
    · rw [if_neg (by rw [h1]; simp)]
      exact h _ _ hw hk

theorem wpAny_of_ord {md : Region.Mode} (hsel : Region.noSelect ops = true) : ∀ (f : Nat) (L : List (Bool × Nat × Oper)) (listed : Array Bool) (a : Act) (w : World), L.length = f → Goodo md ops listed L → C w → wpOrd P ops C Q L a w → wpAny P md ops Q f listed a w
  | 0, L, listed, a, w, hl, hg, hw, h => by
    have : L = [] := List.eq_nil_of_length_eq_zero hl
    subst this
    exact ⟨hg, h⟩
  | f + 1, L, listed, a, w, hl, hg, hw, h => by
    refine ⟨fun h0 => ?_, fun j hj => ?_⟩
    · cases L with
      | nil => simp at hl
      | cons x L =>
        have := hg.2.1
        rw [h0] at this
        cases this
    · obtain ⟨L1, m, oj, L2, rfl, h1, h2, h3⟩ := good_split L listed hg j hj
      have h4 := step_ahead (Region.noSelect_spec hsel j oj · · h1) L1 a w (fun x hx => ⟨(h2 x hx).1, (h2 x hx).2.1, fun cs b => by obtain ⟨i, hi⟩ := (h2 x hx).2.2; exact Region.noSelect_spec hsel i _ cs b hi⟩) h
      exact wpOp_of_stepOp h1 hw (fun a' w' hw' hk => wpAny_of_ord hsel f (L1 ++ L2) _ a' w' (by simp at hl ⊢; omega) h3 hw' hk) h4
end

/-- The chosen order, each number with its operation. -/
def pickOrd (l : List Oper) : List (Bool × Nat) → List (Bool × Nat × Oper)
  | [] => []
  | x :: r => match l[x.2]? with
    | some o => (x.1, x.2, o) :: pickOrd l r
    | none => pickOrd l r

/-- The order that was chosen is one. -/
def goodB (md : Region.Mode) (ops : Array Oper) : Array Bool → List (Bool × Nat) → Bool
  | listed, [] => (Region.ready md ops listed).isEmpty
  | listed, x :: l => decide (x.2 < ops.size) && (Region.ready md ops listed).contains x.2 && Region.free md ops listed x.2 && (!x.1 || Region.ready md ops listed == [x.2]) && goodB md ops (listed.setIfInBounds x.2 true) l

theorem good_of_B {md : Region.Mode} {l : List Oper} : ∀ (ord : List (Bool × Nat)) (listed : Array Bool), goodB md l.toArray listed ord = true → Goodo md l.toArray listed (pickOrd l ord) ∧ (pickOrd l ord).length = ord.length
  | [], listed, h => by
    refine ⟨?_, rfl⟩
    show Region.ready md l.toArray listed = []
    simpa [goodB] using h
  | x :: r, listed, h => by
    simp only [goodB, Bool.and_eq_true, decide_eq_true_eq] at h
    obtain ⟨⟨⟨⟨h1, h2⟩, h3⟩, h4⟩, h5⟩ := h
    obtain ⟨ih1, ih2⟩ := good_of_B r _ h5
    have hlt : x.2 < l.length := by simpa using h1
    have e : pickOrd l (x :: r) = (x.1, x.2, l[x.2]) :: pickOrd l r := by
      rw [pickOrd]
      simp only [List.getElem?_eq_getElem hlt]
    rw [e]
    refine ⟨⟨by simp [hlt], by simpa using h2, h3, fun hx => ?_, ih1⟩, by simp [ih2]⟩
    have hx' : x.1 = true := hx
    rw [hx'] at h4
    simpa using h4

def ordB (ops : Array Oper) (ord : List (Bool × Nat)) : Bool := Region.noSelect ops && decide (ord.length = ops.size) && goodB .any ops (Array.replicate ops.size false) ord

/-- A region that draws, walked in the order that was chosen. -/
theorem wp_region_ord {P : Program} {C : World → Prop} {Q : Exit → Act → World → Prop} {id : Nat} {a : Act} {w : World} {l : List Oper} (ord : List (Bool × Nat)) (hm : P.follows .mixedOrders = true) (hB : ordB l.toArray ord = true) (hC : C w.drew)
    (h : wpOrd P l.toArray C Q (pickOrd l ord) a w.drew) : (Code.region id l.toArray true).wp P Q a w := by
  simp only [ordB, Bool.and_eq_true, decide_eq_true_eq] at hB
  obtain ⟨⟨hsel, hlen⟩, hg⟩ := hB
  obtain ⟨g1, g2⟩ := good_of_B ord _ hg
  refine wp_region_any hm ?_
  exact wpAny_of_ord hsel _ _ _ _ _ (by rw [g2, hlen]) g1 hC h

section
variable {P : Program} {C : World → Prop} {Q : Exit → Act → World → Prop} {a : Act} {w : World} {l : List Oper} {i : Nat} {o : Oper} {r : List (Bool × Nat)}
theorem pickOrd_cons {m : Bool} (hi : l[i]? = some o) : pickOrd l ((m, i) :: r) = (m, i, o) :: pickOrd l r := by
  rw [pickOrd]
  simp only [hi]

/-- A still step. -/
theorem ord_still (hi : l[i]? = some o) (hp : stillB o = true) (h : wpQuiet P l.toArray C (fun a' => wpOrd P l.toArray C Q (pickOrd l r) a' w) [o] a) : wpOrd P l.toArray C Q (pickOrd l ((false, i) :: r)) a w := by
  rw [pickOrd_cons hi]
  show stepOp P l.toArray C false o (wpOrd P l.toArray C Q (pickOrd l r)) a w
  unfold stepOp
  rw [if_neg (by simp)]
  unfold wpQuiet at h
  by_cases hw : Region.wanted o (yielded l.toArray a.tmps) = true
  · rw [if_pos hw] at h
    obtain ⟨v, h1, h2⟩ := h
    refine ⟨v, .inl ⟨hw, fun w' hw' => ?_⟩, h2⟩
    have h3 := h1 w' hw'
    unfold Oper.quietAt at h3
    cases hr : (execOp a.eval o).run P w' with
    | halt x w2 => rw [hr] at h3; simp only [Oper.quietUpon] at h3
    | ok n w2 =>
      obtain ⟨u, rfl⟩ := still_value hp hr
      rw [hr] at h3
      exact h3
  · rw [if_neg hw] at h
    exact ⟨undef, .inr ⟨by simpa using hw, rfl⟩, h⟩

/-- A step that turns memory, in the world as it is. -/
theorem ord_mem (hi : l[i]? = some o) (hw : Region.wanted o (yielded l.toArray a.tmps) = true) (h : o.wp P a w (fun a' w' => C w' ∧ wpOrd P l.toArray C Q (pickOrd l r) a' w') noExit) : wpOrd P l.toArray C Q (pickOrd l ((true, i) :: r)) a w := by
  rw [pickOrd_cons hi]
  show stepOp P l.toArray C true o (wpOrd P l.toArray C Q (pickOrd l r)) a w
  unfold stepOp
  rw [if_pos rfl]
  exact ⟨hw, h⟩
theorem wp_exits {Q Q' : Exit → Act → World → Prop} {K : Act → World → Prop} (hq : ∀ ex a w, ex ≠ .normal → Q ex a w → Q' ex a w) (hh : o.wp P a w K Q) : o.wp P a w K Q' := by
  unfold Oper.wp at *
  generalize (execOp a.eval o).run P w = r at *
  cases r with
  | ok n w' =>
    cases n <;> simp only [Oper.upon] at hh ⊢ <;>
      first
        | exact hh
        | exact Calls.mono hh (fun e w'' he => by cases e <;> first | exact he | exact hq _ _ _ (by simp) he | (obtain ⟨a, w, h⟩ := he; exact ⟨a, w, hq _ _ _ (by simp) h⟩))
  | halt x w' => cases x <;> simp only [Oper.upon] at hh ⊢ <;> first | exact hq _ _ _ (by simp) hh | exact hh
/-- A law of one operation of a list serves here. -/
theorem wp_of_list {K : Act → World → Prop} (hg : o.guard = none) (h : wpList P #[] (fun ex a w => ex = .normal ∧ K a w) [o] a w) : o.wp P a w K noExit := by
  unfold wpList at h
  rw [if_pos (by simp [Region.wanted, hg])] at h
  rcases h with h | ⟨_, _, _, h, _⟩
  · exact wp_exits (fun ex a w hne h => absurd h.1 hne) (Oper.wp_mono (fun a w h => h.2) h)
  · cases h
theorem ord_end (h : Q .normal a w) : wpOrd P l.toArray C Q (pickOrd l []) a w := h
end
end

section
set_option linter.unusedVariables false

/-- Which step comes next, n of them: a still one (false) or the one step that turns memory that is ready (true); or one of the two that are. -/
def OT : Nat → Type
  | 0 => Unit
  | n + 1 => (Bool × Nat × OT n) ⊕ (Nat × OT n × Nat × OT n)
def OT.done : OT 0 := ()
def OT.still {n : Nat} (i : Nat) (t : OT n) : OT (n + 1) := Sum.inl (false, i, t)
def OT.one {n : Nat} (i : Nat) (t : OT n) : OT (n + 1) := Sum.inl (true, i, t)
def OT.two {n : Nat} (i : Nat) (t : OT n) (j : Nat) (u : OT n) : OT (n + 1) := Sum.inr (i, t, j, u)

section
variable {P : Program} {ops : Array Oper} {C : World → Prop} {Q : Exit → Act → World → Prop}

def stepAt (P : Program) (ops : Array Oper) (C : World → Prop) (mem : Bool) (i : Nat) (K : Act → World → Prop) (a : Act) (w : World) : Prop := ∃ o, ops[i]? = some o ∧ stepOp P ops C mem o K a w

def wpTree (P : Program) (ops : Array Oper) (C : World → Prop) (Q : Exit → Act → World → Prop) : (n : Nat) → OT n → Act → World → Prop
  | 0, _, a, w => Q .normal a w
  | n + 1, Sum.inl (m, i, t), a, w => stepAt P ops C m i (wpTree P ops C Q n t) a w
  | n + 1, Sum.inr (i, t, j, u), a, w => stepAt P ops C true i (wpTree P ops C Q n t) a w ∧ stepAt P ops C true j (wpTree P ops C Q n u) a w

def GoodT (md : Region.Mode) (ops : Array Oper) : (n : Nat) → Array Bool → OT n → Prop
  | 0, listed, _ => Region.ready md ops listed = []
  | n + 1, listed, Sum.inl (false, i, t) => i ∈ Region.ready md ops listed ∧ Region.free md ops listed i = true ∧ GoodT md ops n (listed.setIfInBounds i true) t
  | n + 1, listed, Sum.inl (true, i, t) => Region.ready md ops listed = [i] ∧ GoodT md ops n (listed.setIfInBounds i true) t
  | n + 1, listed, Sum.inr (i, t, j, u) => i ≠ j ∧ (∀ k ∈ Region.ready md ops listed, k = i ∨ k = j) ∧ i ∈ Region.ready md ops listed ∧ GoodT md ops n (listed.setIfInBounds i true) t ∧ GoodT md ops n (listed.setIfInBounds j true) u

/-- Two steps that have nothing to do with each other: the still one may come later. -/
theorem still_late {m : Bool} {oi oj : Oper} {K : Act → World → Prop} (hsi : ∀ cs b, oi.op ≠ .select cs b) (hsj : ∀ cs b, oj.op ≠ .select cs b) (hap : oi.apart ops oj = true) {a : Act} {w : World} {v : Value} (hy : YP P ops C oi v a)
    (ih : stepOp P ops C m oj K (a.put oi.dst v) w) : stepOp P ops C m oj (fun a' w' => YP P ops C oi v a' ∧ K (a'.put oi.dst v) w') a w := by
  obtain ⟨h1, h2, h3⟩ := Oper.apart_spec hap
  unfold stepOp at ih ⊢
  split
  · rename_i hm
    rw [if_pos hm] at ih
    refine ⟨by rw [← wanted_put oj a oi.dst v h1]; exact ih.1, ?_⟩
    have hyj : ∀ u, YP P ops C oi v (a.put oj.dst u) := fun u => hy.of_same (execOp_put oi hsi a oj.dst u h3) (wanted_put oi a oj.dst u h3)
    exact Oper.wp_mono (fun a' w' ⟨⟨q1, q2⟩, u, hu⟩ => ⟨q1, (hyj u).of_same (by rw [eval_tmps hu]) (by rw [hu]), q2⟩) (wp_frame (wp_put (ops := ops) hsj h1 h2 ih.2))
  · rename_i hm
    rw [if_neg hm] at ih
    obtain ⟨u, hu, hk2⟩ := ih
    refine ⟨u, hu.of_same (execOp_put oj hsj a oi.dst v h1).symm (wanted_put oj a oi.dst v h1).symm, hy.of_same (execOp_put oi hsi a oj.dst u h3) (wanted_put oi a oj.dst u h3), ?_⟩
    rw [← Act.put_comm a v u h2]
    exact hk2

/-- Whichever step is ready, the tree has it, and without it is a tree for what is left. -/
theorem tree_split {md : Region.Mode} (hsel : Region.noSelect ops = true) : ∀ (n : Nat) (T : OT (n + 1)) (listed : Array Bool), GoodT md ops (n + 1) listed T → ∀ j, j ∈ Region.ready md ops listed →
    ∃ (m : Bool) (T' : OT n), GoodT md ops n (listed.setIfInBounds j true) T' ∧ ∀ a w, wpTree P ops C Q (n + 1) T a w → stepAt P ops C m j (wpTree P ops C Q n T') a w
  | n, Sum.inl (true, i, t), listed, hg, j, hj => by
    obtain ⟨g1, g2⟩ := hg
    rw [g1] at hj
    simp at hj
    subst hj
    exact ⟨true, t, g2, fun a w h => h⟩
  | n, Sum.inr (i, t, k, u), listed, hg, j, hj => by
    obtain ⟨g1, g2, g3, g4, g5⟩ := hg
    rcases g2 j hj with rfl | rfl
    · exact ⟨true, t, g4, fun a w h => h.1⟩
    · exact ⟨true, u, g5, fun a w h => h.2⟩
  | 0, Sum.inl (false, i, t), listed, hg, j, hj => by
    obtain ⟨g1, g2, g3⟩ := hg
    by_cases hji : j = i
    · subst hji
      exact ⟨false, t, g3, fun a w h => h⟩
    · have h1 := ready_mono hj hji
      rw [show Region.ready md ops (listed.setIfInBounds i true) = [] from g3] at h1
      cases h1
  | n + 1, Sum.inl (false, i, t), listed, hg, j, hj => by
    obtain ⟨g1, g2, g3⟩ := hg
    by_cases hji : j = i
    · subst hji
      exact ⟨false, t, g3, fun a w h => h⟩
    · obtain ⟨m, T', h1, h3⟩ := tree_split hsel n t _ g3 j (ready_mono hj hji)
      have hun := (mem_ready.1 g1).1
      obtain ⟨_, oi, hoi, _⟩ := mem_ready.1 g1
      obtain ⟨hjun, oj, hoj, hall⟩ := mem_ready.1 hj
      have hnot : ∀ e ∈ oj.after, Region.binds md e = true → e.on ≠ i := fun e he hb heq => by
        have h1 := hall e he hb
        rw [heq, getD_both hun] at h1
        cases h1
      refine ⟨m, OT.still i T', ⟨ready_mono g1 (Ne.symm hji), free_more g2, ?_⟩, fun a w h => ?_⟩
      · rw [Array.setIfInBounds_comm _ _ hji]
        exact h1
      · obtain ⟨o, ho, hs⟩ := h
        rw [hoi] at ho
        cases ho
        unfold stepOp at hs
        rw [if_neg (by simp)] at hs
        obtain ⟨v, hy, hk⟩ := hs
        obtain ⟨o', ho', hs'⟩ := h3 _ _ hk
        rw [hoj] at ho'
        cases ho'
        refine ⟨oj, hoj, stepOp_mono (fun a' w' h' => ?_) (still_late (fun cs b => Region.noSelect_spec hsel i oi cs b hoi) (fun cs b => Region.noSelect_spec hsel j oj cs b hoj) (Region.free_spec hoi g2 j oj hoj hji hjun hnot) hy hs')⟩
        refine ⟨oi, hoi, ?_⟩
        unfold stepOp
        rw [if_neg (by simp)]
        exact ⟨v, h'.1, h'.2⟩

theorem good_ready {md : Region.Mode} {n : Nat} {listed : Array Bool} : ∀ (T : OT (n + 1)), GoodT md ops (n + 1) listed T → Region.ready md ops listed ≠ []
  | Sum.inl (false, i, t), hg => List.ne_nil_of_mem hg.1
  | Sum.inl (true, i, t), hg => by rw [hg.1]; exact List.cons_ne_nil _ _
  | Sum.inr (i, t, j, u), hg => List.ne_nil_of_mem hg.2.2.1

theorem wpAny_of_tree {md : Region.Mode} (hsel : Region.noSelect ops = true) : ∀ (f : Nat) (T : OT f) (listed : Array Bool) (a : Act) (w : World), GoodT md ops f listed T → C w → wpTree P ops C Q f T a w → wpAny P md ops Q f listed a w
  | 0, T, listed, a, w, hg, hw, h => ⟨hg, h⟩
  | f + 1, T, listed, a, w, hg, hw, h => by
    refine ⟨fun h0 => absurd h0 (good_ready T hg), fun j hj => ?_⟩
    obtain ⟨m, T', h1, h3⟩ := tree_split (P := P) (C := C) (Q := Q) hsel _ T listed hg j hj
    obtain ⟨oj, hoj, hs⟩ := h3 a w h
    exact wpOp_of_stepOp hoj hw (fun a' w' hw' hk => wpAny_of_tree hsel f T' _ a' w' h1 hw' hk) hs
end

def goodTB (md : Region.Mode) (ops : Array Oper) : (n : Nat) → Array Bool → OT n → Bool
  | 0, listed, _ => (Region.ready md ops listed).isEmpty
  | n + 1, listed, Sum.inl (false, i, t) => (Region.ready md ops listed).contains i && Region.free md ops listed i && goodTB md ops n (listed.setIfInBounds i true) t
  | n + 1, listed, Sum.inl (true, i, t) => Region.ready md ops listed == [i] && goodTB md ops n (listed.setIfInBounds i true) t
  | n + 1, listed, Sum.inr (i, t, j, u) => i != j && (Region.ready md ops listed).all (fun k => k == i || k == j) && (Region.ready md ops listed).contains i && goodTB md ops n (listed.setIfInBounds i true) t && goodTB md ops n (listed.setIfInBounds j true) u

theorem goodT_of_B {md : Region.Mode} {ops : Array Oper} : ∀ (n : Nat) (T : OT n) (listed : Array Bool), goodTB md ops n listed T = true → GoodT md ops n listed T
  | 0, T, listed, h => by
    simp only [goodTB] at h
    exact List.isEmpty_iff.1 h
  | n + 1, Sum.inl (false, i, t), listed, h => by
    simp only [goodTB, Bool.and_eq_true] at h
    obtain ⟨⟨h2, h3⟩, h4⟩ := h
    exact ⟨by simpa using h2, h3, goodT_of_B n t _ h4⟩
  | n + 1, Sum.inl (true, i, t), listed, h => by
    simp only [goodTB, Bool.and_eq_true, beq_iff_eq] at h
    exact ⟨h.1, goodT_of_B n t _ h.2⟩
  | n + 1, Sum.inr (i, t, j, u), listed, h => by
    simp only [goodTB, Bool.and_eq_true, bne_iff_ne, ne_eq, List.all_eq_true, Bool.or_eq_true, beq_iff_eq] at h
    obtain ⟨⟨⟨⟨h2, h3⟩, h4⟩, h5⟩, h6⟩ := h
    exact ⟨h2, h3, by simpa using h4, goodT_of_B n t _ h5, goodT_of_B n u _ h6⟩

def treeB (ops : Array Oper) (n : Nat) (T : OT n) : Bool := Region.noSelect ops && ops.size == n && goodTB .any ops n (Array.replicate ops.size false) T

/-- A region that draws, walked along a tree. -/
theorem wp_region_tree {P : Program} {C : World → Prop} {Q : Exit → Act → World → Prop} {id : Nat} {a : Act} {w : World} {l : List Oper} {n : Nat} (T : OT n) (hm : P.follows .mixedOrders = true) (hB : treeB l.toArray n T = true) (hC : C w.drew)
    (h : wpTree P l.toArray C Q n T a w.drew) : (Code.region id l.toArray true).wp P Q a w := by
  simp only [treeB, Bool.and_eq_true, beq_iff_eq] at hB
  obtain ⟨⟨h1, rfl⟩, h2⟩ := hB
  exact wp_region_any hm (wpAny_of_tree h1 _ _ _ _ _ (goodT_of_B _ T _ h2) hC h)

section
variable {P : Program} {C : World → Prop} {Q : Exit → Act → World → Prop} {a : Act} {w : World} {l : List Oper} {i : Nat} {o : Oper} {n : Nat} {t : OT n}

theorem stepAt_mem {K : Act → World → Prop} (hi : l[i]? = some o) (hw : Region.wanted o (yielded l.toArray a.tmps) = true) (h : o.wp P a w (fun a' w' => C w' ∧ K a' w') noExit) : stepAt P l.toArray C true i K a w := by
  refine ⟨o, by simpa using hi, ?_⟩
  unfold stepOp
  rw [if_pos rfl]
  exact ⟨hw, h⟩
/-- A still step. -/
theorem tree_still (hi : l[i]? = some o) (hp : stillB o = true) (h : wpQuiet P l.toArray C (fun a' => wpTree P l.toArray C Q n t a' w) [o] a) : wpTree P l.toArray C Q (n + 1) (OT.still i t) a w := by
  refine ⟨o, by simpa using hi, ?_⟩
  unfold stepOp
  rw [if_neg (by simp)]
  unfold wpQuiet at h
  by_cases hw : Region.wanted o (yielded l.toArray a.tmps) = true
  · rw [if_pos hw] at h
    obtain ⟨v, h1, h2⟩ := h
    refine ⟨v, .inl ⟨hw, fun w' hw' => ?_⟩, h2⟩
    have h3 := h1 w' hw'
    unfold Oper.quietAt at h3
    cases hr : (execOp a.eval o).run P w' with
    | halt x w2 => rw [hr] at h3; simp only [Oper.quietUpon] at h3
    | ok n w2 =>
      obtain ⟨u, rfl⟩ := still_value hp hr
      rw [hr] at h3
      exact h3
  · rw [if_neg hw] at h
    exact ⟨undef, .inr ⟨by simpa using hw, rfl⟩, h⟩
/-- The one step that is ready turns memory. -/
theorem tree_one (hi : l[i]? = some o) (hw : Region.wanted o (yielded l.toArray a.tmps) = true) (h : o.wp P a w (fun a' w' => C w' ∧ wpTree P l.toArray C Q n t a' w') noExit) : wpTree P l.toArray C Q (n + 1) (OT.one i t) a w := stepAt_mem hi hw h
/-- Two that turn memory are ready. -/
theorem tree_two {j : Nat} {oj : Oper} {u : OT n} (hi : l[i]? = some o) (hj : l[j]? = some oj) (hwi : Region.wanted o (yielded l.toArray a.tmps) = true) (hwj : Region.wanted oj (yielded l.toArray a.tmps) = true)
    (h1 : o.wp P a w (fun a' w' => C w' ∧ wpTree P l.toArray C Q n t a' w') noExit) (h2 : oj.wp P a w (fun a' w' => C w' ∧ wpTree P l.toArray C Q n u a' w') noExit) : wpTree P l.toArray C Q (n + 1) (OT.two i t j u) a w := ⟨stepAt_mem hi hwi h1, stepAt_mem hj hwj h2⟩
theorem tree_done (h : Q .normal a w) : wpTree P l.toArray C Q 0 OT.done a w := h
end
end
end Go.Proofs.YthnjbjlhfohpfaaGreat
