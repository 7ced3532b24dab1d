/-
  Owners of blocks: who may write which block; what a step turns (Mv); bytes that stay (Kp0); the program's oracle as an owner's.
  One writer's log by plain lists: what Check, Accept, Issue answer; logs that are whole; what follows of them.
  Rows of entries in memory, and the program's log: a block of five cells, its entries in a row of its own, their bodies in blocks that stay.
-/
import Derived.Test.YteedjdflojfhmaaBox
import Derived.Test.YteedjdflojfhmaaEnt
import Derived.Test.YteedjdflojfhmaaVerify
import Derived.WalkSmall
namespace Go.Proofs.Yteedjdflojfhmaa
section
set_option linter.unusedVariables false
set_option linter.unusedSimpArgs false
set_option synthInstance.maxSize 20000
open Go.RowKit Go.Maps

/-- From w to w' only blocks of the owners I were written; new blocks have owners, too. Owner 0: what stays. -/
structure Mv (I : List Nat) (w : World) (o : Nat → Nat) (w' : World) (o' : Nat → Nat) : Prop where
  os : w'.os = w.os
  tape : w'.tape = w.tape
  output : w'.output = w.output
  size : w.heap.size ≤ w'.heap.size
  ext : ∀ k, k < w.heap.size → o' k = o k
  block : ∀ k, k < w.heap.size → o k ∉ I → w'.heap[k]? = w.heap[k]?

/-- New blocks have the owners that f tells. -/
def newBy (o : Nat → Nat) (w : World) (f : Nat → Nat) : Nat → Nat := fun k => if k < w.heap.size then o k else f k
theorem newBy_old {o f : Nat → Nat} {w : World} {k : Nat} (h : k < w.heap.size) : newBy o w f k = o k := if_pos h
theorem newBy_new {o f : Nat → Nat} {w : World} {k : Nat} (h : w.heap.size ≤ k) : newBy o w f k = f k := if_neg (by omega)
/-- New blocks are j's. -/
def newTo (o : Nat → Nat) (w : World) (j : Nat) : Nat → Nat := fun k => if k < w.heap.size then o k else j
theorem newTo_old {o : Nat → Nat} {w : World} {j k : Nat} (h : k < w.heap.size) : newTo o w j k = o k := if_pos h
theorem newTo_new {o : Nat → Nat} {w : World} {j k : Nat} (h : w.heap.size ≤ k) : newTo o w j k = j := if_neg (by omega)

theorem Mv.refl (I : List Nat) (w : World) (o : Nat → Nat) : Mv I w o w o := ⟨rfl, rfl, rfl, Nat.le_refl _, fun _ _ => rfl, fun _ _ _ => rfl⟩
theorem Mv.trans {I : List Nat} {w w1 w2 : World} {o o1 o2 : Nat → Nat} (h : Mv I w o w1 o1) (h1 : Mv I w1 o1 w2 o2) : Mv I w o w2 o2 :=
  ⟨h1.os.trans h.os, h1.tape.trans h.tape, h1.output.trans h.output, Nat.le_trans h.size h1.size, fun k hk => (h1.ext k (Nat.lt_of_lt_of_le hk h.size)).trans (h.ext k hk),
    fun k hk hn => (h1.block k (Nat.lt_of_lt_of_le hk h.size) (by rw [h.ext k hk]; exact hn)).trans (h.block k hk hn)⟩
theorem Mv.widen {I J : List Nat} {w w' : World} {o o' : Nat → Nat} (h : Mv I w o w' o') (hIJ : ∀ i ∈ I, i ∈ J) : Mv J w o w' o' := ⟨h.os, h.tape, h.output, h.size, h.ext, fun k hk hn => h.block k hk (fun e => hn (hIJ _ e))⟩
theorem Mv.of_turn' {I ft : List Nat} {w w' : World} {o : Nat → Nat} (f : Nat → Nat) (h : Turn ft w w') (hf : ∀ k ∈ ft, k < w.heap.size → o k ∈ I) : Mv I w o w' (newBy o w f) :=
  ⟨h.os, h.tape, h.output, h.size, fun k hk => newBy_old hk, fun k hk hn => h.block k hk (fun e => hn (hf k e hk))⟩
theorem Mv.of_turn {I ft : List Nat} {w w' : World} {o : Nat → Nat} (j : Nat) (h : Turn ft w w') (hf : ∀ k ∈ ft, k < w.heap.size → o k ∈ I) : Mv I w o w' (newTo o w j) :=
  ⟨h.os, h.tape, h.output, h.size, fun k hk => newTo_old hk, fun k hk hn => h.block k hk (fun e => hn (hf k e hk))⟩
theorem Mv.of_below {I : List Nat} {w w' : World} {o : Nat → Nat} (j : Nat) (h : Below w.heap.size w w') : Mv I w o w' (newTo o w j) := Mv.of_turn (ft := []) j (Turn.of_below h) (fun k hk => by cases hk)
theorem Mv.below {I : List Nat} {w w' : World} {o o' : Nat → Nat} {B : Nat} (h : Mv I w o w' o') (hB : B ≤ w.heap.size) (hI : ∀ k, k < B → o k ∉ I) : Below B w w' :=
  ⟨h.os, h.tape, h.output, h.size, fun k hk => h.block k (by omega) (hI k hk)⟩

/-- The blocks that may have been written. -/
def wr (I : List Nat) (w : World) (o : Nat → Nat) : List Nat := (List.range w.heap.size).filter (fun k => decide (o k ∈ I))
theorem mem_wr {I : List Nat} {w : World} {o : Nat → Nat} {k : Nat} (h : k ∈ wr I w o) : k < w.heap.size ∧ o k ∈ I := by
  unfold wr at h
  rw [List.mem_filter, List.mem_range] at h
  exact ⟨h.1, of_decide_eq_true h.2⟩
theorem Mv.turn {I : List Nat} {w w' : World} {o o' : Nat → Nat} (h : Mv I w o w' o') : Turn (wr I w o) w w' :=
  ⟨h.os, h.tape, h.output, h.size, fun k hk hn => h.block k hk (fun e => hn (by unfold wr; rw [List.mem_filter, List.mem_range]; exact ⟨hk, decide_eq_true e⟩))⟩

/-- Bytes that are read, and stay. -/
def Kp0 (w : World) (o : Nat → Nat) (v : Value) (l : List Int) : Prop := Rd w v l ∧ (l ≠ [] → ∀ k, v.ownBlock = some k → o k = 0)
theorem kp0_nil (w : World) (o : Nat → Nat) : Kp0 w o (.slice none 0 0) [] := ⟨rd_nil w, fun h => absurd rfl h⟩
theorem Rd.blockLt {w : World} {v : Value} {l : List Int} (h : Rd w v l) (hl : l ≠ []) : ∀ k, v.ownBlock = some k → k < w.heap.size := by
  obtain ⟨ho', a, cap, rfl, h1, h2, h3, h4⟩ := h
  have hp : 0 < l.length := by cases l with
    | nil => exact absurd rfl hl
    | cons x l => simp
  obtain ⟨b, off, rfl, hc⟩ := h4 hp
  intro k hk
  have h9 : b < w.heap.size := World.block_lt_of_cell? w _ (hc 0 hp)
  simp [Value.ownBlock] at hk
  omega
theorem Rd.blocks {w w' : World} {v : Value} {l : List Int} (h : Rd w v l) (hb : l ≠ [] → ∀ k, v.ownBlock = some k → k < w.heap.size → w'.heap[k]? = w.heap[k]?) : Rd w' v l := by
  have hlt := h.blockLt
  obtain ⟨ho', a, cap, rfl, h1, h2, h3, h4⟩ := h
  refine ⟨ho', a, cap, rfl, h1, h2, h3, fun hp => ?_⟩
  have hl : l ≠ [] := fun e => by subst e; simp at hp
  obtain ⟨b, off, rfl, hc⟩ := h4 hp
  refine ⟨b, off, rfl, fun j hj => ?_⟩
  rw [World.cell?_of_block (hb hl b rfl (hlt hl b rfl))]
  exact hc j hj
theorem Kp0.mv {I : List Nat} {w w' : World} {o o' : Nat → Nat} {v : Value} {l : List Int} (h : Kp0 w o v l) (m : Mv I w o w' o') (h0 : 0 ∉ I) : Kp0 w' o' v l := by
  refine ⟨h.1.blocks (fun hl k hk hlt => m.block k hlt (by rw [h.2 hl k hk]; exact h0)), fun hl k hk => ?_⟩
  rw [m.ext k (h.1.blockLt hl k hk)]
  exact h.2 hl k hk
/-- New bytes. -/
theorem Kp0.of_new {w w1 w' : World} {o : Nat → Nat} {v : Value} {l : List Int} {B : Nat} (ho : Own B 5 w' v l) (hB : w.heap.size ≤ B) : Kp0 w' (newTo o w 0) v l :=
  ⟨ho.rd, fun _ k hk => newTo_new (Nat.le_trans hB (ho.2.lt k hk).1)⟩

/-- The program's oracle: owner 1. -/
def OrcAt (w : World) (o : Nat → Nat) (b : Nat) (S : St) : Prop := ∃ ft, Rep w b ft S ∧ ∀ k ∈ ft, o k = 1
theorem OrcAt.good {w : World} {o : Nat → Nat} {b : Nat} {S : St} (h : OrcAt w o b S) : Good S := h.choose_spec.1.good
theorem OrcAt.mv {I : List Nat} {w w' : World} {o o' : Nat → Nat} {b : Nat} {S : St} (h : OrcAt w o b S) (m : Mv I w o w' o') (h1 : 1 ∉ I) : OrcAt w' o' b S := by
  obtain ⟨ft, hr, ho⟩ := h
  refine ⟨ft, hr.turn m.turn (fun k hk e => h1 (by rw [← ho k hk]; exact (mem_wr e).2)), fun k hk => ?_⟩
  rw [m.ext k (hr.room k hk)]
  exact ho k hk
theorem OrcAt.left {w w' : World} {o : Nat → Nat} {b : Nat} {S' : St} {ft : List Nat} (ho : ∀ k ∈ ft, o k = 1) (hl : Left w b ft S' w') (hroom : ∀ k ∈ ft, k < w.heap.size) : OrcAt w' (newTo o w 1) b S' ∧ Mv [1] w o w' (newTo o w 1) := by
  obtain ⟨⟨ft', hr, of'⟩, t⟩ := hl
  refine ⟨⟨ft', hr, fun k hk => ?_⟩, Mv.of_turn 1 t (fun k hk _ => by rw [ho k hk]; simp)⟩
  rcases of' k hk with e | e
  · rw [newTo_old (hroom k e)]; exact ho k e
  · exact newTo_new e
theorem OrcAt.leftB {w w' : World} {o : Nat → Nat} {b : Nat} {S' : St} {ft : List Nat} {y : Value} {l : List Int} (ho : ∀ k ∈ ft, o k = 1) (hl : LeftB w b ft S' w' y l) (hroom : ∀ k ∈ ft, k < w.heap.size) :
    ∃ o', OrcAt w' o' b S' ∧ Kp0 w' o' y l ∧ Mv [1] w o w' o' := by
  obtain ⟨rd, ⟨ft', hr, of', out'⟩, t, own'⟩ := hl
  refine ⟨newBy o w (fun k => if y.ownBlock = some k then 0 else 1), ⟨ft', hr, fun k hk => ?_⟩, ⟨rd, fun _ k hk => ?_⟩, Mv.of_turn' _ t (fun k hk _ => by rw [ho k hk]; simp)⟩
  · rcases of' k hk with e | e
    · rw [newBy_old (hroom k e)]; exact ho k e
    · rw [newBy_new e]
      exact if_neg (fun e' => out' k e' hk)
  · rw [newBy_new (own' k hk).1]
    exact if_pos hk
theorem OrcAt.fresh {w w' : World} {o : Nat → Nat} {b : Nat} {S : St} (h : ∃ ft, Rep w' b ft S ∧ ∀ k ∈ ft, w.heap.size ≤ k) : OrcAt w' (newTo o w 1) b S := by
  obtain ⟨ft, hr, hn⟩ := h
  exact ⟨ft, hr, fun k hk => newTo_new (hn k hk)⟩
end

section
set_option linter.unusedVariables false
set_option linter.unusedSimpArgs false
set_option synthInstance.maxSize 20000
open Classical

/-- A log: its entries, and the sum of the last one. -/
structure Lg where
  es : List Ent
  sum : Int

/-- Is e stamped behind the last one? -/
def laterB (es : List Ent) (e : Ent) : Bool := match es.getLast? with
  | none => true
  | some f => decide (ltP (f.t, f.u) (e.t, e.u))

/-- What stands at a place. -/
def metK (es : List Ent) (e : Ent) : Int := match es[e.i.toNat]? with
  | none => 0
  | some f => if sameB e f then 8 else 9
/-- k, but 0 if all is well. -/
def unl (c : Bool) (k : Int) : Int := if c = true then 0 else k
theorem unl_zero {c : Bool} {k : Int} (hk : k ≠ 0) : unl c k = 0 ↔ c = true := by
  unfold unl
  cases c <;> simp [hk]
/-- The answers that are asked for one behind the other. -/
def askK (S : St) (W p : Int) (L : Lg) (e : Ent) : List Int :=
  [unl (rightB e) 1, unl (e.w == W) 20, unl (rightB e && S.verify p (textL e) e.g) 6, metK L.es e, unl (e.i == L.es.length) 7, unl (e.p == L.sum) 5, unl (laterB L.es e) 2]
/-- The first that is not 0. -/
def firstK : List Int → Int
  | [] => 0
  | k :: ks => if k = 0 then firstK ks else k
def checkM (S : St) (W p : Int) (L : Lg) (e : Ent) : Int := firstK (askK S W p L e)

def candE (W : Int) (L : Lg) (t u n : Int) (l : List Int) : Ent := ⟨W, L.es.length, L.sum, t, u, n, l, 0⟩
def issueK (L : Lg) (e : Ent) : Int := if 200 ≤ L.es.length then 3 else firstK [unl (rightB e) 1, unl (laterB L.es e) 2]
/-- The entry that is signed. -/
def signM (S : St) (s : Int) (e : Ent) : Ent × St := ({ e with g := (S.get (.sig s (textL e))).1 }, (S.get (.sig s (textL e))).2)
/-- The log with one more. -/
def addM (S : St) (L : Lg) (e : Ent) : St × Lg := ((S.get (.hash (bytesE e))).2, ⟨L.es ++ [e], (S.get (.hash (bytesE e))).1⟩)
def issueM (S : St) (W s : Int) (L : Lg) (t u n : Int) (l : List Int) : (Ent × Int) × St × Lg :=
  if issueK L (candE W L t u n l) = 0 then (((signM S s (candE W L t u n l)).1, 0), addM (signM S s (candE W L t u n l)).2 L (signM S s (candE W L t u n l)).1)
  else ((zeroE, issueK L (candE W L t u n l)), S, L)
def acceptM (S : St) (W p : Int) (L : Lg) (e : Ent) : Int × St × Lg := if checkM S W p L e = 0 then (0, addM S L e) else (checkM S W p L e, S, L)

theorem firstK_zero : ∀ (l : List Int), firstK l = 0 ↔ ∀ k ∈ l, k = 0
  | [] => by simp [firstK]
  | k :: ks => by
    unfold firstK
    by_cases h : k = 0
    · rw [if_pos h, firstK_zero ks]; simp [h]
    · rw [if_neg h]; simp [h]
/-- Nothing is wrong. -/
theorem check_zero (S : St) (W p : Int) (L : Lg) (e : Ent) : checkM S W p L e = 0 ↔ rightE e ∧ e.w = W ∧ S.verify p (textL e) e.g = true ∧ e.i = L.es.length ∧ e.p = L.sum ∧ laterB L.es e = true := by
  unfold checkM
  rw [firstK_zero]
  unfold askK
  simp only [List.mem_cons, List.not_mem_nil, or_false, forall_eq_or_imp, forall_eq]
  rw [unl_zero (by omega), unl_zero (by omega), unl_zero (by omega), unl_zero (by omega), unl_zero (by omega), unl_zero (by omega)]
  simp only [rightB_iff, beq_iff_eq, Bool.and_eq_true]
  constructor
  · rintro ⟨h1, h2, h3, h4, h5, h6, h7⟩
    exact ⟨h1, h2, h3.2, h5, h6, h7⟩
  · rintro ⟨h1, h2, h3, h4, h5, h6⟩
    refine ⟨h1, h2, ⟨h1, h3⟩, ?_, h4, h5, h6⟩
    unfold metK
    rw [List.getElem?_eq_none (by omega)]
theorem issueK_zero (L : Lg) (e : Ent) : issueK L e = 0 ↔ L.es.length < 200 ∧ rightE e ∧ laterB L.es e = true := by
  unfold issueK
  by_cases h : 200 ≤ L.es.length
  · rw [if_pos h]
    constructor
    · intro q; omega
    · rintro ⟨q, _⟩; omega
  · rw [if_neg h, firstK_zero]
    simp only [List.mem_cons, List.not_mem_nil, or_false, forall_eq_or_imp, forall_eq]
    rw [unl_zero (by omega), unl_zero (by omega)]
    simp only [rightB_iff]
    constructor
    · rintro ⟨h1, h2⟩
      exact ⟨by omega, h1, h2⟩
    · rintro ⟨_, h1, h2⟩
      exact ⟨h1, h2⟩

/-- The sum of the last one. -/
def sumOf (S : St) (es : List Ent) : Int := match es.getLast? with
  | none => 0
  | some f => (S.of (.hash (bytesE f))).getD 0

/-- All that S has handed out, T has, too. -/
structure Sub (S T : St) : Prop where
  of : ∀ x g, S.of x = some g → T.of x = some g
  at' : ∀ x g, S.at g = some x → T.at g = some x
theorem Sub.refl (S : St) : Sub S S := ⟨fun _ _ h => h, fun _ _ h => h⟩
theorem Sub.trans {S T U : St} (h : Sub S T) (k : Sub T U) : Sub S U := ⟨fun x g e => k.of x g (h.of x g e), fun x g e => k.at' x g (h.at' x g e)⟩
theorem sub_get {S : St} (hg : Good S) (hN : S.rows.length < 1000000000) (x : What) : Sub S (S.get x).2 := ⟨fun y g e => get_keeps e, fun y g e => at_get_old hg hN e⟩

/-- A log is whole: each entry is what the log of those ahead would accept. -/
structure Whole (S : St) (W p s : Int) (L : Lg) : Prop where
  pub : S.at p = some (.pub s)
  sum : L.sum = sumOf S L.es
  each : ∀ i e, L.es[i]? = some e → checkM S W p ⟨L.es.take i, sumOf S (L.es.take i)⟩ e = 0 ∧ EOk e ∧ (S.of (.hash (bytesE e))).isSome = true

theorem sumOf_sub {S T : St} (h : Sub S T) {es : List Ent} (hs : ∀ e ∈ es, (S.of (.hash (bytesE e))).isSome = true) : sumOf T es = sumOf S es := by
  unfold sumOf
  cases hl : es.getLast? with
  | none => rfl
  | some f =>
    have hf := hs f (List.mem_of_getLast? hl)
    obtain ⟨g, hg⟩ := Option.isSome_iff_exists.1 hf
    dsimp only
    rw [hg, h.of _ _ hg]
theorem verify_sub {S T : St} (h : Sub S T) {p s : Int} (hp : S.at p = some (.pub s)) {l : List Int} {g : Int} (hv : S.verify p l g = true) : T.verify p l g = true := by
  rw [verify_pub hp] at hv
  rw [verify_pub (h.at' _ _ hp)]
  exact decide_eq_true (h.of _ _ (of_decide_eq_true hv))
theorem Whole.mem {S : St} {W p s : Int} {L : Lg} (h : Whole S W p s L) {e : Ent} (he : e ∈ L.es) : ∃ i : Nat, L.es[i]? = some e := List.mem_iff_getElem?.1 he
theorem Whole.has {S : St} {W p s : Int} {L : Lg} (h : Whole S W p s L) {e : Ent} (he : e ∈ L.es) : (S.of (.hash (bytesE e))).isSome = true := by
  obtain ⟨i, hi⟩ := h.mem he
  exact (h.each i e hi).2.2
theorem Whole.sub {S T : St} {W p s : Int} {L : Lg} (h : Whole S W p s L) (k : Sub S T) : Whole T W p s L := by
  refine ⟨k.at' _ _ h.pub, ?_, fun i e hi => ?_⟩
  · rw [sumOf_sub k (fun e he => h.has he)]; exact h.sum
  · obtain ⟨h1, h2, h3⟩ := h.each i e hi
    refine ⟨?_, h2, ?_⟩
    · rw [check_zero] at h1 ⊢
      obtain ⟨a, b, c, d, f, g⟩ := h1
      refine ⟨a, b, verify_sub k h.pub c, d, ?_, g⟩
      dsimp only at f ⊢
      rw [sumOf_sub k (fun e he => h.has (List.mem_of_mem_take he))]
      exact f
    · obtain ⟨q, hq⟩ := Option.isSome_iff_exists.1 h3
      rw [k.of _ _ hq]
      rfl
theorem whole_nil {S : St} {W p s : Int} (hp : S.at p = some (.pub s)) : Whole S W p s ⟨[], 0⟩ := ⟨hp, rfl, fun i e h => by simp at h⟩

theorem bytes_oct' {e : Ent} (he : EOk e) : Oct (textL e) ∧ Oct (bytesE e) := by
  have h1 : Oct (textL e) := by
    unfold textL putS
    exact ((((((form_oct _).append (form_oct _)).append (form_oct _)).append ((form_oct _).append (form_oct _))).append (form_oct _)).append (form_oct _)).append he.2.2.2.2.2.2.2
  exact ⟨h1, h1.append (form_oct _)⟩

/-- What is accepted makes a whole log. -/
theorem Whole.add {S : St} {W p s : Int} {L : Lg} {e : Ent} (h : Whole S W p s L) (hg : Good S) (hN : S.rows.length < 1000000000) (he : EOk e) (hc : checkM S W p L e = 0) : Whole (addM S L e).1 W p s (addM S L e).2 := by
  have k := sub_get hg hN (.hash (bytesE e))
  have h' := h.sub k
  refine ⟨h'.pub, ?_, fun i f hi => ?_⟩
  · show (S.get (.hash (bytesE e))).1 = sumOf _ (L.es ++ [e])
    unfold sumOf
    rw [List.getLast?_append]
    show _ = (((S.get (.hash (bytesE e))).2).of (.hash (bytesE e))).getD 0
    rw [get_of]
    rfl
  · replace hi : (L.es ++ [e])[i]? = some f := hi
    show checkM (S.get (.hash (bytesE e))).2 W p ⟨(L.es ++ [e]).take i, sumOf (S.get (.hash (bytesE e))).2 ((L.es ++ [e]).take i)⟩ f = 0 ∧ EOk f ∧ ((S.get (.hash (bytesE e))).2.of (.hash (bytesE f))).isSome = true
    by_cases c : i < L.es.length
    · rw [List.getElem?_append_left c] at hi
      rw [List.take_append_of_le_length (by omega)]
      exact h'.each i f hi
    · rw [List.getElem?_append_right (by omega)] at hi
      have hi0 : i - L.es.length = 0 := by
        have := (List.getElem?_eq_some_iff.1 hi).1
        simp at this
        omega
      rw [hi0] at hi
      simp at hi
      subst hi
      have hil : i = L.es.length := by omega
      subst hil
      refine ⟨?_, he, by rw [get_of]; rfl⟩
      rw [List.take_left]
      rw [check_zero] at hc ⊢
      obtain ⟨a, b, c, d, f, g⟩ := hc
      refine ⟨a, b, verify_sub k h.pub c, d, ?_, g⟩
      dsimp only
      rw [← h'.sum]
      exact f
end

section
set_option linter.unusedVariables false
set_option linter.unusedSimpArgs false
set_option synthInstance.maxSize 20000
open Go.RowKit Go.Maps

/-- Entries with their bodies' values, as cells. -/
def flatE (ps : List (Ent × Value)) : List Value := ps.flatMap (fun q => ec q.1 q.2)
theorem flatE_length (ps : List (Ent × Value)) : (flatE ps).length = ps.length * 8 := by
  induction ps with
  | nil => rfl
  | cons q ps ih =>
    unfold flatE at *
    rw [List.flatMap_cons, List.length_append, ih, List.length_cons]
    show 8 + _ = _
    omega
theorem flatE_append (a b : List (Ent × Value)) : flatE (a ++ b) = flatE a ++ flatE b := by simp [flatE]
theorem flatE_take (ps : List (Ent × Value)) (n : Nat) : (flatE ps).take (n * 8) = flatE (ps.take n) := by
  induction ps generalizing n with
  | nil => simp [flatE]
  | cons q ps ih =>
    cases n with
    | zero => simp [flatE]
    | succ n =>
      have := ih n
      unfold flatE at *
      rw [List.flatMap_cons, List.take_succ_cons, List.flatMap_cons, ← this, List.take_append, List.take_of_length_le (by show 8 ≤ _; omega)]
      congr 2
      show (n + 1) * 8 - 8 = _
      omega
theorem flatE_drop (ps : List (Ent × Value)) (n : Nat) : (flatE ps).drop (n * 8) = flatE (ps.drop n) := by
  induction ps generalizing n with
  | nil => simp [flatE]
  | cons q ps ih =>
    cases n with
    | zero => simp [flatE]
    | succ n =>
      have := ih n
      unfold flatE at *
      rw [List.flatMap_cons, List.drop_succ_cons, ← this, List.drop_append, List.drop_of_length_le (by show 8 ≤ _; omega), List.nil_append]
      congr 1
      show (n + 1) * 8 - 8 = _
      omega
theorem flatE_at {ps : List (Ent × Value)} {i : Nat} {q : Ent × Value} (h : ps[i]? = some q) (j : Nat) (u : Value) (hj : (ec q.1 q.2)[j]? = some u) : (flatE ps)[i * 8 + j]? = some u := by
  induction ps generalizing i with
  | nil => simp at h
  | cons p ps ih =>
    have hj8 : j < 8 := (List.getElem?_eq_some_iff.1 hj).1
    unfold flatE
    rw [List.flatMap_cons]
    cases i with
    | zero =>
      simp at h
      subst h
      rw [List.getElem?_append_left (by show _ < 8; omega), Nat.zero_mul, Nat.zero_add]
      exact hj
    | succ i =>
      rw [List.getElem?_append_right (by show 8 ≤ _; omega)]
      have := ih (by simpa using h)
      unfold flatE at this
      rw [show (i + 1) * 8 + j - (ec p.1 p.2).length = i * 8 + j from by show (i + 1) * 8 + j - 8 = _; omega]
      exact this
theorem slice_one {w : World} {x : Value} {l : List Int} (h : Rd w x l) : x.oneCell' = true := by
  obtain ⟨a, c, rfl⟩ := h.len
  rfl
theorem flatE_one {ps : List (Ent × Value)} (h : ∀ q ∈ ps, q.2.oneCell' = true) : ∀ u ∈ flatE ps, u.oneCell' = true := fun u hu => by
  unfold flatE at hu
  rw [List.mem_flatMap] at hu
  obtain ⟨q, hq, hu⟩ := hu
  unfold ec at hu
  simp at hu
  rcases hu with rfl | rfl | rfl | rfl | rfl | rfl | rfl | rfl <;> first | rfl | exact h q hq

/-- Entries whose bodies are read, and stay. -/
def Ents (w : World) (o : Nat → Nat) (ps : List (Ent × Value)) : Prop := ∀ q ∈ ps, EOk q.1 ∧ Kp0 w o q.2 q.1.b
theorem Ents.mv {I : List Nat} {w w' : World} {o o' : Nat → Nat} {ps : List (Ent × Value)} (h : Ents w o ps) (m : Mv I w o w' o') (h0 : 0 ∉ I) : Ents w' o' ps := fun q hq => ⟨(h q hq).1, (h q hq).2.mv m h0⟩
theorem Ents.one {w : World} {o : Nat → Nat} {ps : List (Ent × Value)} (h : Ents w o ps) : ∀ u ∈ flatE ps, u.oneCell' = true := flatE_one fun q hq => slice_one (h q hq).2.1
theorem Ents.nil (w : World) (o : Nat → Nat) : Ents w o [] := fun q hq => by cases hq
theorem Ents.append {w : World} {o : Nat → Nat} {a b : List (Ent × Value)} (h : Ents w o a) (k : Ents w o b) : Ents w o (a ++ b) := fun q hq => by
  rcases List.mem_append.1 hq with r | r
  · exact h q r
  · exact k q r
theorem Ents.take {w : World} {o : Nat → Nat} {a : List (Ent × Value)} (h : Ents w o a) (n : Nat) : Ents w o (a.take n) := fun q hq => h q (List.mem_of_mem_take hq)
theorem Ents.drop {w : World} {o : Nat → Nat} {a : List (Ent × Value)} (h : Ents w o a) (n : Nat) : Ents w o (a.drop n) := fun q hq => h q (List.mem_of_mem_drop hq)
theorem ents_one {w : World} {o : Nat → Nat} {e : Ent} {x : Value} (he : EOk e) (hx : Kp0 w o x e.b) : Ents w o [(e, x)] := fun q hq => by
  simp at hq
  subst hq
  exact ⟨he, hx⟩

/-- A slice value that shows entries, wherever they lie. -/
def RowE (w : World) (v : Value) (ps : List (Ent × Value)) : Prop :=
  ∃ (a : Option Addr) (cap : Nat), v = .slice a ps.length cap ∧ ps.length ≤ cap ∧ cap ≤ maxLen ∧ (a = none → cap = 0) ∧
    (0 < ps.length → ∃ b off, a = some ⟨b, off, none⟩ ∧ ∀ j u, (flatE ps)[j]? = some u → w.cell? ⟨b, off + j, none⟩ = some u)
theorem RowE.len {w : World} {v : Value} {ps : List (Ent × Value)} (h : RowE w v ps) : ∃ a cap, v = .slice a ps.length cap := ⟨h.choose, h.choose_spec.choose, h.choose_spec.choose_spec.1⟩
theorem rowE_nil (w : World) : RowE w (.slice none 0 0) [] := ⟨none, 0, rfl, Nat.le_refl _, Nat.zero_le _, fun _ => rfl, fun h => by simp at h⟩
theorem RowE.blocks {w w' : World} {v : Value} {ps : List (Ent × Value)} (h : RowE w v ps) (hb : ∀ k, v.ownBlock = some k → k < w.heap.size → w'.heap[k]? = w.heap[k]?) : RowE w' v ps := by
  obtain ⟨a, cap, rfl, h1, h2, h3, h4⟩ := h
  refine ⟨a, cap, rfl, h1, h2, h3, fun hp => ?_⟩
  obtain ⟨b, off, rfl, hc⟩ := h4 hp
  refine ⟨b, off, rfl, fun j u hj => ?_⟩
  have := hc j u hj
  rw [World.cell?_of_block (hb b rfl (World.block_lt_of_cell? w _ this))]
  exact this
theorem RowE.below {w w' : World} {v : Value} {ps : List (Ent × Value)} (h : RowE w v ps) (hb : Below w.heap.size w w') : RowE w' v ps := h.blocks fun k _ hk => hb.block k hk
theorem RowE.blockLt {w : World} {v : Value} {ps : List (Ent × Value)} (h : RowE w v ps) (hl : ps ≠ []) : ∀ k, v.ownBlock = some k → k < w.heap.size := by
  obtain ⟨a, cap, rfl, h1, h2, h3, h4⟩ := h
  cases ps with
  | nil => exact absurd rfl hl
  | cons q ps =>
    obtain ⟨b, off, rfl, hc⟩ := h4 (by simp)
    intro k hk
    have h9 : b < w.heap.size := World.block_lt_of_cell? w _ (hc 0 _ (flatE_at (i := 0) (q := q) rfl 0 _ rfl))
    simp [Value.ownBlock] at hk
    omega
theorem RowE.mv {I : List Nat} {w w' : World} {o o' : Nat → Nat} {v : Value} {ps : List (Ent × Value)} (h : RowE w v ps) (m : Mv I w o w' o') (hi : ∀ k, v.ownBlock = some k → o k ∉ I) : RowE w' v ps := h.blocks fun k hk hlt => m.block k hlt (hi k hk)
/-- The cells of one of them. -/
theorem RowE.at {w : World} {a : Option Addr} {n cap : Nat} {ps : List (Ent × Value)} (h : RowE w (.slice a n cap) ps) {i : Nat} {q : Ent × Value} (hi : ps[i]? = some q) :
    ∃ b off, a = some ⟨b, off, none⟩ ∧ ∀ j u, (ec q.1 q.2)[j]? = some u → w.cell? ⟨b, off + i * 8 + j, none⟩ = some u := by
  obtain ⟨a', cap', e, h1, h2, h3, h4⟩ := h
  obtain ⟨rfl, _, _⟩ : a = a' ∧ n = ps.length ∧ cap = cap' := by simpa using e
  have hlt : i < ps.length := (List.getElem?_eq_some_iff.1 hi).1
  obtain ⟨b, off, rfl, hc⟩ := h4 (by omega)
  refine ⟨b, off, rfl, fun j u hj => ?_⟩
  have := hc _ _ (flatE_at hi j u hj)
  rwa [← Nat.add_assoc] at this
theorem RowE.cap {w : World} {a : Option Addr} {n cap : Nat} {ps : List (Ent × Value)} (h : RowE w (.slice a n cap) ps) : n = ps.length ∧ n ≤ cap ∧ cap ≤ 9223372036854775807 := by
  obtain ⟨a', cap', e, h1, h2, h3, h4⟩ := h
  obtain ⟨rfl, rfl, rfl⟩ : a = a' ∧ n = ps.length ∧ cap = cap' := by simpa using e
  exact ⟨rfl, h1, by unfold maxLen at h2; omega⟩
theorem rowE_own {w : World} {B : Nat} {v : Value} {ps : List (Ent × Value)} (h : w.ownsRow B 47 8 v ps.length (flatE ps)) : RowE w v ps := by
  have h' := h
  obtain ⟨h1, h2⟩ := h
  rcases h2 with ⟨rfl, hn⟩ | ⟨g, cap, cur, rfl, hb, hg, hn, hc, hs, ht⟩
  · have : ps = [] := List.eq_nil_of_length_eq_zero hn
    subst this
    exact rowE_nil w
  · refine ⟨some ⟨g, 0, none⟩, cap, rfl, hn, hc, (fun h => by cases h), fun _ => ⟨g, 0, rfl, fun j u hj => ?_⟩⟩
    have := h'.cells (g := g) rfl j u hj
    rw [Addr.add_lit] at this
    exact this

/-- The program's log in block la, of owner j. -/
structure LogAt (w : World) (o : Nat → Nat) (j la b : Nat) (W p : Int) (L : Lg) (v : Value) (ps : List (Ent × Value)) : Prop where
  blk : Blk w la 91 [ptr b, .int .i64 W, .int .u64 p, v, .int .u64 L.sum]
  own : o la = j
  row : w.ownsRow 0 47 8 v ps.length (flatE ps)
  rowOwn : ∀ k, v.ownBlock = some k → o k = j ∧ k ≠ la
  ents : Ents w o ps
  short : ∀ q ∈ ps, q.1.b.length ≤ 1100
  es : ps.map (·.1) = L.es
  few : ps.length ≤ 200
  hsum : U64 L.sum
  hp : U64 p
  hW : I64 W
/-- The same, whatever its values. -/
def LogIs (w : World) (o : Nat → Nat) (j la b : Nat) (W p : Int) (L : Lg) : Prop := ∃ v ps, LogAt w o j la b W p L v ps
theorem LogAt.mv {I : List Nat} {w w' : World} {o o' : Nat → Nat} {j la b : Nat} {W p : Int} {L : Lg} {v : Value} {ps : List (Ent × Value)} (h : LogAt w o j la b W p L v ps) (m : Mv I w o w' o') (h0 : 0 ∉ I) (hj : j ∉ I) : LogAt w' o' j la b W p L v ps :=
  ⟨h.blk.block (m.block la h.blk.lt (by rw [h.own]; exact hj)), by rw [m.ext la h.blk.lt]; exact h.own,
    by
      obtain ⟨h1, h2⟩ := h.row
      refine ⟨h1, ?_⟩
      rcases h2 with h2 | ⟨g, cap, cur, rfl, h3, h4, h5⟩
      · exact .inl h2
      · exact .inr ⟨g, cap, cur, rfl, h3, by rw [m.block g (Array.getElem?_eq_some_iff.1 h4).1 (by rw [(h.rowOwn g rfl).1]; exact hj)]; exact h4, h5⟩,
    fun k hk => ⟨by rw [m.ext k (h.row.lt k hk).2]; exact (h.rowOwn k hk).1, (h.rowOwn k hk).2⟩, h.ents.mv m h0, h.short, h.es, h.few, h.hsum, h.hp, h.hW⟩
theorem LogIs.mv {I : List Nat} {w w' : World} {o o' : Nat → Nat} {j la b : Nat} {W p : Int} {L : Lg} (h : LogIs w o j la b W p L) (m : Mv I w o w' o') (h0 : 0 ∉ I) (hj : j ∉ I) : LogIs w' o' j la b W p L := by
  obtain ⟨v, ps, h⟩ := h
  exact ⟨v, ps, h.mv m h0 hj⟩
theorem LogAt.len {w : World} {o : Nat → Nat} {j la b : Nat} {W p : Int} {L : Lg} {v : Value} {ps : List (Ent × Value)} (h : LogAt w o j la b W p L v ps) : L.es.length = ps.length := by rw [← h.es, List.length_map]
theorem LogAt.rowE {w : World} {o : Nat → Nat} {j la b : Nat} {W p : Int} {L : Lg} {v : Value} {ps : List (Ent × Value)} (h : LogAt w o j la b W p L v ps) : RowE w v ps := rowE_own h.row
theorem LogAt.at {w : World} {o : Nat → Nat} {j la b : Nat} {W p : Int} {L : Lg} {v : Value} {ps : List (Ent × Value)} (h : LogAt w o j la b W p L v ps) (i : Nat) : L.es[i]? = (ps[i]?).map (·.1) := by rw [← h.es, List.getElem?_map]

/-- A candidate: a log, and an entry. -/
def cv (la : Nat) (e : Ent) (x : Value) : Value := .agg #[ptr la, .int .i64 e.w, .int .i64 e.i, .int .u64 e.p, .int .i64 e.t, .int .i64 e.u, .int .i64 e.n, x, .int .u64 e.g]
end
end Go.Proofs.Yteedjdflojfhmaa
