/-
  The program's oracle in memory stands for the oracle by lists (Rep), and what that oracle answers behind a new row.
  The oracle by lists: what holds behind its calls.
  The oracle by lists: signatures and wraps.
-/
import Derived.Test.YteedjdflojfhmaaSigs
namespace Go.Proofs.Yteedjdflojfhmaa
section
set_option linter.unusedVariables false
set_option synthInstance.maxSize 20000
open Classical
open Go.RowKit Go.Maps

def WhatOk : What → Prop
  | Sum.inl (Sum.inl b) => Oct b
  | Sum.inl (Sum.inr false) => True
  | Sum.inl (Sum.inr true) => True
  | Sum.inr (Sum.inl (Sum.inl s)) => U64 s
  | Sum.inr (Sum.inl (Sum.inr (s, b))) => U64 s ∧ Oct b
  | Sum.inr (Sum.inr (Sum.inl (k, b, p))) => U64 k ∧ Oct b ∧ Oct p
  | Sum.inr (Sum.inr (Sum.inr (s, k, p))) => U64 s ∧ U64 k ∧ U64 p

structure Good (S : St) : Prop where
  draws : ∀ d ∈ S.draws, U64 d
  rows : ∀ r ∈ S.rows, U64 r.1 ∧ r.1 ≠ 0 ∧ WhatOk r.2
  apart : S.us.Pairwise (· ≠ ·)

theorem at_some {S : St} {h : Int} {x : What} (e : S.at h = some x) : (h, x) ∈ S.rows := by
  unfold St.at at e
  obtain ⟨r, hr, rfl⟩ := Option.map_eq_some_iff.1 e
  have := List.find?_some hr
  simp at this
  have hm := List.mem_of_find?_eq_some hr
  rw [← this]
  exact hm
theorem of_some {S : St} {h : Int} {x : What} (e : S.of x = some h) : (h, x) ∈ S.rows := by
  unfold St.of at e
  obtain ⟨r, hr, rfl⟩ := Option.map_eq_some_iff.1 e
  have := List.find?_some hr
  simp at this
  have hm := List.mem_of_find?_eq_some hr
  rw [← this]
  exact hm
theorem at_isSome (S : St) (h : Int) : (S.at h).isSome = decide (h ∈ S.us) := by
  unfold St.at St.us
  rw [Option.isSome_map, Bool.eq_iff_iff, List.find?_isSome]
  simp
theorem at_of_mem {S : St} (hg : Good S) {h : Int} {x : What} (hm : (h, x) ∈ S.rows) : S.at h = some x := by
  unfold St.at
  have key : ∀ rows : List (Int × What), (rows.map (·.1)).Pairwise (· ≠ ·) → (h, x) ∈ rows → (rows.find? (fun r => r.1 == h)).map (·.2) = some x := by
    intro rows
    induction rows with
    | nil => intro _ hm; cases hm
    | cons r rs ih =>
      intro hp hm
      rw [List.map_cons, List.pairwise_cons] at hp
      rw [List.find?_cons]
      rcases List.mem_cons.1 hm with rfl | hm
      · simp
      · have : r.1 ≠ h := hp.1 h (List.mem_map.2 ⟨_, hm, rfl⟩)
        simp only [beq_eq_false_iff_ne.2 this]
        exact ih hp.2 hm
  exact key S.rows hg.apart hm
theorem at_ok {S : St} (hg : Good S) {h : Int} {x : What} (e : S.at h = some x) : U64 h ∧ h ≠ 0 ∧ WhatOk x := hg.rows _ (at_some e)
theorem of_ok {S : St} (hg : Good S) {h : Int} {x : What} (e : S.of x = some h) : U64 h ∧ h ≠ 0 ∧ WhatOk x := hg.rows _ (of_some e)
theorem us_length (S : St) : S.us.length = S.rows.length := by simp [St.us]
theorem fresh_ok {S : St} (hg : Good S) (hN : S.rows.length < 1000000000) : S.fresh ≠ 0 ∧ S.fresh ∉ S.us ∧ U64 S.fresh ∧ ∀ d ∈ (freshOf S.us S.draws).2, U64 d := by
  obtain ⟨a, b, c, d, _⟩ := freshOf_spec S.us S.draws hg.draws (by rw [us_length]; omega)
  exact ⟨a, b, c, d⟩

theorem put_us (S : St) (x : What) : (S.put x).us = S.us ++ [S.fresh] := by simp [St.put, St.us]
theorem put_at {S : St} (hg : Good S) (hN : S.rows.length < 1000000000) (x : What) (h : Int) : (S.put x).at h = if h = S.fresh then some x else S.at h := by
  obtain ⟨_, hf, _⟩ := fresh_ok hg hN
  unfold St.at St.put
  simp only [List.find?_append, Option.map_or]
  by_cases e : h = S.fresh
  · rw [if_pos e]
    subst e
    have hn : S.rows.find? (fun r => r.1 == S.fresh) = none := by
      rw [List.find?_eq_none]
      intro r hr
      simp
      exact fun e => hf (List.mem_map.2 ⟨r, hr, e⟩)
    simp [hn]
  · rw [if_neg e]
    have : ([(S.fresh, x)] : List (Int × What)).find? (fun r => r.1 == h) = none := by simp; exact fun e' => e e'.symm
    simp [this]
theorem put_of (S : St) (x y : What) : (S.put x).of y = (S.of y).or (if x = y then some S.fresh else none) := by
  unfold St.of St.put
  simp only [List.find?_append, Option.map_or]
  congr 1
  by_cases e : x = y
  · simp [e]
  · simp [e]
theorem put_good {S : St} (hg : Good S) (hN : S.rows.length < 1000000000) {x : What} (hx : WhatOk x) : Good (S.put x) := by
  obtain ⟨h0, hf, hU, hd⟩ := fresh_ok hg hN
  refine ⟨hd, fun r hr => ?_, ?_⟩
  · rcases List.mem_append.1 hr with hr | hr
    · exact hg.rows r hr
    · simp at hr
      subst hr
      exact ⟨hU, h0, hx⟩
  · rw [put_us, List.pairwise_append]
    refine ⟨hg.apart, by simp, fun a ha c hc => ?_⟩
    simp at hc
    subst hc
    exact fun e => hf (e ▸ ha)

theorem be8_inj {s t : Int} {l m : List Int} (hs : U64 s) (ht : U64 t) (h : be8 s ++ l = be8 t ++ m) : s = t ∧ l = m := by
  have e1 : s = t := by rw [← ofBe8_be8 s l hs, h, ofBe8_be8 t m ht]
  subst e1
  exact ⟨rfl, List.append_cancel_left h⟩

/-- The oracle in block b stands for S. -/
structure Stand (T : Tab) (S : St) : Prop where
  full : T.full
  good : Good S
  draws : T.draws = S.draws
  us : T.us = S.us
  made : ∀ h, T.made h = (S.at h).map thingOf
  hashes : ∀ l, Oct l → T.hashes l = S.of (.hash l)
  signed : ∀ s l, U64 s → Oct l → T.signed (be8 s ++ l) = S.of (.sig s l)

def Rep (w : World) (b : Nat) (ft : List Nat) (S : St) : Prop := ∃ T dv m1 m2 m3, IsO w b ft T dv m1 m2 m3 ∧ Stand T S

theorem Stand.fresh {T : Tab} {S : St} (h : Stand T S) : freshOf T.us T.draws = (S.fresh, (freshOf S.us S.draws).2) := by rw [h.us, h.draws]; rfl

theorem Stand.puts {T : Tab} {S : St} (h : Stand T S) (hN : S.rows.length < 1000000000) {n : Nat} {x : What} (hx : WhatOk x) (hh : ∀ l, x ≠ .hash l) (hs : ∀ s l, x ≠ .sig s l) (hf : (T.puts n (thingOf x)).full) : Stand (T.puts n (thingOf x)) (S.put x) := by
  refine ⟨hf, put_good h.good hN hx, ?_, ?_, fun g => ?_, fun l hl => ?_, fun s l h1 h2 => ?_⟩
  · simp [Tab.puts, h.fresh, St.put]
  · rw [put_us]; show T.us ++ [(freshOf T.us T.draws).1] = _; rw [h.fresh, h.us]
  · rw [put_at h.good hN]
    simp only [Tab.puts, h.fresh]
    split
    · rfl
    · exact h.made g
  · rw [put_of, if_neg (hh l), Option.or_none]; exact h.hashes l hl
  · rw [put_of, if_neg (hs s l), Option.or_none]; exact h.signed s l h1 h2
theorem Stand.hashed {T : Tab} {S : St} (h : Stand T S) (hN : S.rows.length < 1000000000) {n : Nat} {l : List Int} (hx : Oct l) (hnew : S.of (.hash l) = none) (hf : (T.hashed n l).full) : Stand (T.hashed n l) (S.put (.hash l)) := by
  refine ⟨hf, put_good h.good hN hx, ?_, ?_, fun g => ?_, fun m hm => ?_, fun s m h1 h2 => ?_⟩
  · simp [Tab.hashed, Tab.named, h.fresh, St.put]
  · rw [put_us]; show T.us ++ [(freshOf T.us T.draws).1] = _; rw [h.fresh, h.us]
  · rw [put_at h.good hN]
    simp only [Tab.hashed, Tab.named, h.fresh]
    split
    · rfl
    · exact h.made g
  · rw [put_of]
    simp only [Tab.hashed, h.fresh, What.hash.injEq]
    by_cases e : m = l
    · subst e; simp [hnew]
    · rw [if_neg e, if_neg (fun e' => e e'.symm), Option.or_none]; exact h.hashes m hm
  · rw [put_of, if_neg (by simp), Option.or_none]; exact h.signed s m h1 h2
theorem Stand.signs {T : Tab} {S : St} (h : Stand T S) (hN : S.rows.length < 1000000000) {n : Nat} {s : Int} {l : List Int} (hs : U64 s) (hx : Oct l) (hnew : S.of (.sig s l) = none) (hf : (T.signs n (be8 s ++ l)).full) : Stand (T.signs n (be8 s ++ l)) (S.put (.sig s l)) := by
  refine ⟨hf, put_good h.good hN ⟨hs, hx⟩, ?_, ?_, fun g => ?_, fun m hm => ?_, fun t m h1 h2 => ?_⟩
  · simp [Tab.signs, Tab.named, h.fresh, St.put]
  · rw [put_us]; show T.us ++ [(freshOf T.us T.draws).1] = _; rw [h.fresh, h.us]
  · rw [put_at h.good hN]
    simp only [Tab.signs, Tab.named, h.fresh]
    split
    · rfl
    · exact h.made g
  · rw [put_of, if_neg (by simp), Option.or_none]; exact h.hashes m hm
  · rw [put_of]
    simp only [Tab.signs, h.fresh, What.sig.injEq]
    by_cases e : t = s ∧ m = l
    · obtain ⟨rfl, rfl⟩ := e; simp [hnew]
    · rw [if_neg (fun e' => e (be8_inj h1 hs e')), if_neg (fun e' => e ⟨e'.1.symm, e'.2.symm⟩), Option.or_none]; exact h.signed t m h1 h2

theorem Stand.at {T : Tab} {S : St} (h : Stand T S) (g : Int) : T.at g = ((S.at g).map thingOf).getD noThing := by unfold Tab.at; rw [h.made]
theorem thing_oct {S : St} (hg : Good S) (g : Int) : Oct (((S.at g).map thingOf).getD noThing).bound ∧ Oct (((S.at g).map thingOf).getD noThing).plain := by
  cases e : S.at g with
  | none => exact ⟨Oct.nil, Oct.nil⟩
  | some x =>
    have := (at_ok hg e).2.2
    cases x using What.each <;> first | exact ⟨Oct.nil, Oct.nil⟩ | exact ⟨this.2.1, this.2.2⟩
theorem thing_zeros (S : St) (g : Int) : (((S.at g).map thingOf).getD noThing).zeros ≤ 2000 := by
  cases e : S.at g with
  | none => simp [noThing]
  | some x =>
    cases x using What.each <;> simp [thingOf]
    unfold zerosOf sizeI
    split
    · rename_i k b p h
      have h7 : (cls p.length).toNat ≤ 6 := by omega
      have : 2 ^ (cls p.length).toNat ≤ 2 ^ 6 := Nat.pow_le_pow_right (by omega) h7
      omega
    · simp

theorem Rep.turn {w w' : World} {b : Nat} {ft X : List Nat} {S : St} (h : Rep w b ft S) (ht : Turn X w w') (hX : ∀ k ∈ ft, k ∉ X) : Rep w' b ft S := by
  obtain ⟨T, dv, m1, m2, m3, hi, hs⟩ := h
  exact ⟨T, dv, m1, m2, m3, hi.turn ht hX, hs⟩
theorem Rep.below {w w' : World} {b : Nat} {ft : List Nat} {S : St} (h : Rep w b ft S) (hb : Below w.heap.size w w') : Rep w' b ft S := h.turn (X := []) (Turn.of_below hb) (fun _ _ h => by cases h)
theorem Rep.good {w : World} {b : Nat} {ft : List Nat} {S : St} (h : Rep w b ft S) : Good S := h.choose_spec.choose_spec.choose_spec.choose_spec.choose_spec.2.good
theorem Rep.room {w : World} {b : Nat} {ft : List Nat} {S : St} (h : Rep w b ft S) : ∀ k ∈ ft, k < w.heap.size := h.choose_spec.choose_spec.choose_spec.choose_spec.choose_spec.1.room
end

section
set_option linter.unusedVariables false
set_option synthInstance.maxSize 20000
open Classical

theorem get_some {S : St} {x : What} {g : Int} (h : S.of x = some g) : S.get x = (g, S) := by unfold St.get; rw [h]
theorem get_none {S : St} {x : What} (h : S.of x = none) : S.get x = (S.fresh, S.put x) := by unfold St.get; rw [h]
theorem put_len (S : St) (x : What) : (S.put x).rows.length = S.rows.length + 1 := by simp [St.put]
theorem get_len (S : St) (x : What) : (S.get x).2.rows.length ≤ S.rows.length + 1 := by
  cases h : S.of x with
  | none => rw [get_none h]; simp [put_len]
  | some g => rw [get_some h]; simp
theorem get_good {S : St} (hg : Good S) (hN : S.rows.length < 1000000000) {x : What} (hx : WhatOk x) : Good (S.get x).2 := by
  cases h : S.of x with
  | none => rw [get_none h]; exact put_good hg hN hx
  | some g => rw [get_some h]; exact hg
theorem get_of (S : St) (x : What) : (S.get x).2.of x = some (S.get x).1 := by
  cases h : S.of x with
  | none => rw [get_none h, put_of, h]; simp
  | some g => rw [get_some h]; exact h
theorem put_keeps {S : St} {x z : What} {g : Int} (h : S.of z = some g) : (S.put x).of z = some g := by rw [put_of, h]; rfl
theorem get_keeps {S : St} {x z : What} {g : Int} (h : S.of z = some g) : (S.get x).2.of z = some g := by
  cases h2 : S.of x with
  | none => rw [get_none h2]; exact put_keeps h
  | some k => rw [get_some h2]; exact h
theorem of_inj {S : St} (hg : Good S) {x y : What} {g : Int} (h1 : S.of x = some g) (h2 : S.of y = some g) : x = y := by
  have a := at_of_mem hg (of_some h1)
  have b := at_of_mem hg (of_some h2)
  exact Option.some.inj (a.symm.trans b)
theorem at_put_new {S : St} (hg : Good S) (hN : S.rows.length < 1000000000) (x : What) : (S.put x).at S.fresh = some x := by rw [put_at hg hN, if_pos rfl]
theorem at_put_old {S : St} (hg : Good S) (hN : S.rows.length < 1000000000) {x y : What} {g : Int} (h : S.at g = some y) : (S.put x).at g = some y := by
  rw [put_at hg hN, if_neg, h]
  intro e
  have hm : g ∈ S.us := List.mem_map.2 ⟨_, at_some h, rfl⟩
  exact (fresh_ok hg hN).2.1 (e ▸ hm)
theorem at_get_old {S : St} (hg : Good S) (hN : S.rows.length < 1000000000) {x y : What} {g : Int} (h : S.at g = some y) : (S.get x).2.at g = some y := by
  cases h2 : S.of x with
  | none => rw [get_none h2]; exact at_put_old hg hN h
  | some k => rw [get_some h2]; exact h
theorem at_of {S : St} (hg : Good S) {x : What} {g : Int} (h : S.of x = some g) : S.at g = some x := at_of_mem hg (of_some h)
theorem good0 {ds : List Int} (h : ∀ d ∈ ds, U64 d) : Good ⟨ds, []⟩ := ⟨h, by simp, by simp [St.us]⟩
theorem get_ne {S : St} (hg : Good S) (hN : S.rows.length < 1000000000) {x : What} (hx : WhatOk x) : (S.get x).1 ≠ 0 ∧ U64 (S.get x).1 := by
  have := of_ok (get_good hg hN hx) (get_of S x)
  exact ⟨this.2.1, this.1⟩
end

section
set_option linter.unusedVariables false
set_option synthInstance.maxSize 20000
open Classical

/-- Behind a Pair. -/
def St.pair (S : St) : St := (S.put .secret).put (.pub S.fresh)
theorem pair_len (S : St) : S.pair.rows.length = S.rows.length + 2 := by simp [St.pair, put_len]
theorem pair_good {S : St} (hg : Good S) (hN : S.rows.length + 2 < 1000000000) : Good S.pair :=
  put_good (put_good hg (by omega) (x := .secret) trivial) (by rw [put_len]; omega) (fresh_ok hg (by omega)).2.2.1
theorem pair_at {S : St} (hg : Good S) (hN : S.rows.length + 2 < 1000000000) : S.pair.at S.fresh = some .secret ∧ S.pair.at (S.put .secret).fresh = some (.pub S.fresh) := by
  have hg1 : Good (S.put .secret) := put_good hg (by omega) trivial
  exact ⟨at_put_old hg1 (by rw [put_len]; omega) (at_put_new hg (by omega) _), at_put_new hg1 (by rw [put_len]; omega) _⟩
theorem pair_old {S : St} (hg : Good S) (hN : S.rows.length + 2 < 1000000000) {g : Int} {y : What} (h : S.at g = some y) : S.pair.at g = some y :=
  at_put_old (put_good hg (by omega) (x := .secret) trivial) (by rw [put_len]; omega) (at_put_old hg (by omega) h)
theorem pair_new {S : St} (hg : Good S) (hN : S.rows.length + 2 < 1000000000) {g : Int} (h : g ∈ S.us) : g ≠ S.fresh := fun e => (fresh_ok hg (by omega)).2.1 (e ▸ h)
theorem mem_us {S : St} {g : Int} {y : What} (h : S.at g = some y) : g ∈ S.us := List.mem_map.2 ⟨_, at_some h, rfl⟩

/-- What the law of signatures asks. -/
theorem signs_facts {S0 : St} (hg0 : Good S0) (hl0 : S0.rows.length = 0) {la lb : List Int} (ha : Oct la) (hb : Oct lb) :
    ∃ s p t q x P1 P2 Q, S0.fresh = s ∧ (S0.put .secret).fresh = p ∧ (S0.put .secret).put (.pub s) = P1 ∧ P1.fresh = t ∧ (P1.put .secret).fresh = q ∧ (P1.put .secret).put (.pub t) = P2 ∧
      P2.sign s la = ((x, 0), Q) ∧ Q.sign s la = ((x, 0), Q) ∧ Q.sign p la = ((0, 11), Q) ∧ Q.verify p la x = true ∧ Q.verify q la x = false ∧ Q.verify p lb x = decide (la = lb) ∧ (∀ g, Q.verify p la g = decide (x = g)) ∧ s ≠ t ∧
      U64 s ∧ U64 p ∧ U64 q ∧ P1.rows.length = 2 ∧ P2.rows.length = 4 ∧ Q.rows.length ≤ 5 := by
  have hg1 := pair_good hg0 (by omega)
  have hl1 : S0.pair.rows.length = 2 := by rw [pair_len]; omega
  have hg2 := pair_good hg1 (by omega)
  have hl2 : S0.pair.pair.rows.length = 4 := by rw [pair_len]; omega
  obtain ⟨as1, ap1⟩ := pair_at hg0 (by omega)
  obtain ⟨at1, aq1⟩ := pair_at hg1 (by omega)
  have hU1 := (fresh_ok hg0 (by omega)).2.2.1
  have as2 := pair_old hg1 (by omega) as1
  have ap2 := pair_old hg1 (by omega) ap1
  have hst : S0.fresh ≠ S0.pair.fresh := pair_new hg1 (by omega) (mem_us as1)
  have hgQ := get_good hg2 (by omega) (x := .sig S0.fresh la) ⟨hU1, ha⟩
  have hoQ := get_of S0.pair.pair (.sig S0.fresh la)
  have asQ := at_get_old hg2 (by omega) (x := .sig S0.fresh la) as2
  have apQ := at_get_old hg2 (by omega) (x := .sig S0.fresh la) ap2
  have aqQ := at_get_old hg2 (by omega) (x := .sig S0.fresh la) aq1
  have hlQ := get_len S0.pair.pair (.sig S0.fresh la)
  refine ⟨S0.fresh, (S0.put .secret).fresh, S0.pair.fresh, (S0.pair.put .secret).fresh, (S0.pair.pair.get (.sig S0.fresh la)).1, S0.pair, S0.pair.pair, (S0.pair.pair.get (.sig S0.fresh la)).2, rfl, rfl, rfl, rfl, rfl, rfl, ?_, ?_, ?_, ?_, ?_, ?_, ?_, hst, hU1, ?_, ?_, hl1, hl2, by omega⟩
  · unfold St.sign; rw [if_pos as2]
  · unfold St.sign; rw [if_pos asQ, get_some hoQ]
  · unfold St.sign; rw [if_neg (by rw [apQ]; simp)]
  · unfold St.verify; rw [apQ]; simp [hoQ]
  · unfold St.verify
    rw [aqQ]
    simp only [decide_eq_false_iff_not]
    intro e
    have := of_inj hgQ e hoQ
    rw [What.sig.injEq] at this
    exact hst this.1.symm
  · unfold St.verify
    rw [apQ]
    simp only [decide_eq_decide]
    constructor
    · intro e
      have := of_inj hgQ e hoQ
      rw [What.sig.injEq] at this
      exact this.2.symm
    · intro e; subst e; exact hoQ
  · intro g
    unfold St.verify
    rw [apQ]
    simp [hoQ]
  · exact (at_ok hg1 ap1).1
  · exact (at_ok hg2 aq1).1
end
end Go.Proofs.Yteedjdflojfhmaa
