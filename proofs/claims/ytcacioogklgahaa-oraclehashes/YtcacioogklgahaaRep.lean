/-
  The program's oracle in memory stands for the oracle by lists (Rep), and what that oracle answers behind a new row.
-/
import Derived.Test.YtcacioogklgahaaSigs
namespace Go.Proofs.Ytcacioogklgahaa
set_option linter.unusedVariables false
set_option synthInstance.maxSize 20000
open Classical
open Go.RowKit Go.Maps

def WhatOk : What → Prop
  | Sum.inl (Sum.inl b) => Oct b
  | Sum.inl (Sum.inr false) => True
  | Sum.inl (Sum.inr true) => True
  | Sum.inr (Sum.inl (Sum.inl s)) => U64 s
  | Sum.inr (Sum.inl (Sum.inr (s, b))) => U64 s ∧ Oct b
  | Sum.inr (Sum.inr (Sum.inl (k, b, p))) => U64 k ∧ Oct b ∧ Oct p
  | Sum.inr (Sum.inr (Sum.inr (s, k, p))) => U64 s ∧ U64 k ∧ U64 p

structure Good (S : St) : Prop where
  draws : ∀ d ∈ S.draws, U64 d
  rows : ∀ r ∈ S.rows, U64 r.1 ∧ r.1 ≠ 0 ∧ WhatOk r.2
  apart : S.us.Pairwise (· ≠ ·)

theorem at_some {S : St} {h : Int} {x : What} (e : S.at h = some x) : (h, x) ∈ S.rows := by
  unfold St.at at e
  obtain ⟨r, hr, rfl⟩ := Option.map_eq_some_iff.1 e
  have := List.find?_some hr
  simp at this
  have hm := List.mem_of_find?_eq_some hr
  rw [← this]
  exact hm
theorem of_some {S : St} {h : Int} {x : What} (e : S.of x = some h) : (h, x) ∈ S.rows := by
  unfold St.of at e
  obtain ⟨r, hr, rfl⟩ := Option.map_eq_some_iff.1 e
  have := List.find?_some hr
  simp at this
  have hm := List.mem_of_find?_eq_some hr
  rw [← this]
  exact hm
theorem at_isSome (S : St) (h : Int) : (S.at h).isSome = decide (h ∈ S.us) := by
  unfold St.at St.us
  rw [Option.isSome_map, Bool.eq_iff_iff, List.find?_isSome]
  simp
theorem at_of_mem {S : St} (hg : Good S) {h : Int} {x : What} (hm : (h, x) ∈ S.rows) : S.at h = some x := by
  unfold St.at
  have key : ∀ rows : List (Int × What), (rows.map (·.1)).Pairwise (· ≠ ·) → (h, x) ∈ rows → (rows.find? (fun r => r.1 == h)).map (·.2) = some x := by
    intro rows
    induction rows with
    | nil => intro _ hm; cases hm
    | cons r rs ih =>
      intro hp hm
      rw [List.map_cons, List.pairwise_cons] at hp
      rw [List.find?_cons]
      rcases List.mem_cons.1 hm with rfl | hm
      · simp
      · have : r.1 ≠ h := hp.1 h (List.mem_map.2 ⟨_, hm, rfl⟩)
        simp only [beq_eq_false_iff_ne.2 this]
        exact ih hp.2 hm
  exact key S.rows hg.apart hm
theorem at_ok {S : St} (hg : Good S) {h : Int} {x : What} (e : S.at h = some x) : U64 h ∧ h ≠ 0 ∧ WhatOk x := hg.rows _ (at_some e)
theorem of_ok {S : St} (hg : Good S) {h : Int} {x : What} (e : S.of x = some h) : U64 h ∧ h ≠ 0 ∧ WhatOk x := hg.rows _ (of_some e)
theorem us_length (S : St) : S.us.length = S.rows.length := by simp [St.us]
theorem fresh_ok {S : St} (hg : Good S) (hN : S.rows.length < 1000000000) : S.fresh ≠ 0 ∧ S.fresh ∉ S.us ∧ U64 S.fresh ∧ ∀ d ∈ (freshOf S.us S.draws).2, U64 d := by
  obtain ⟨a, b, c, d, _⟩ := freshOf_spec S.us S.draws hg.draws (by rw [us_length]; omega)
  exact ⟨a, b, c, d⟩

theorem put_us (S : St) (x : What) : (S.put x).us = S.us ++ [S.fresh] := by simp [St.put, St.us]
theorem put_at {S : St} (hg : Good S) (hN : S.rows.length < 1000000000) (x : What) (h : Int) : (S.put x).at h = if h = S.fresh then some x else S.at h := by
  obtain ⟨_, hf, _⟩ := fresh_ok hg hN
  unfold St.at St.put
  simp only [List.find?_append, Option.map_or]
  by_cases e : h = S.fresh
  · rw [if_pos e]
    subst e
    have hn : S.rows.find? (fun r => r.1 == S.fresh) = none := by
      rw [List.find?_eq_none]
      intro r hr
      simp
      exact fun e => hf (List.mem_map.2 ⟨r, hr, e⟩)
    simp [hn]
  · rw [if_neg e]
    have : ([(S.fresh, x)] : List (Int × What)).find? (fun r => r.1 == h) = none := by simp; exact fun e' => e e'.symm
    simp [this]
theorem put_of (S : St) (x y : What) : (S.put x).of y = (S.of y).or (if x = y then some S.fresh else none) := by
  unfold St.of St.put
  simp only [List.find?_append, Option.map_or]
  congr 1
  by_cases e : x = y
  · simp [e]
  · simp [e]
theorem put_good {S : St} (hg : Good S) (hN : S.rows.length < 1000000000) {x : What} (hx : WhatOk x) : Good (S.put x) := by
  obtain ⟨h0, hf, hU, hd⟩ := fresh_ok hg hN
  refine ⟨hd, fun r hr => ?_, ?_⟩
  · rcases List.mem_append.1 hr with hr | hr
    · exact hg.rows r hr
    · simp at hr
      subst hr
      exact ⟨hU, h0, hx⟩
  · rw [put_us, List.pairwise_append]
    refine ⟨hg.apart, by simp, fun a ha c hc => ?_⟩
    simp at hc
    subst hc
    exact fun e => hf (e ▸ ha)

theorem be8_inj {s t : Int} {l m : List Int} (hs : U64 s) (ht : U64 t) (h : be8 s ++ l = be8 t ++ m) : s = t ∧ l = m := by
  have e1 : s = t := by rw [← ofBe8_be8 s l hs, h, ofBe8_be8 t m ht]
  subst e1
  exact ⟨rfl, List.append_cancel_left h⟩

/-- The oracle in block b stands for S. -/
structure Stand (T : Tab) (S : St) : Prop where
  full : T.full
  good : Good S
  draws : T.draws = S.draws
  us : T.us = S.us
  made : ∀ h, T.made h = (S.at h).map thingOf
  hashes : ∀ l, Oct l → T.hashes l = S.of (.hash l)
  signed : ∀ s l, U64 s → Oct l → T.signed (be8 s ++ l) = S.of (.sig s l)

def Rep (w : World) (b : Nat) (ft : List Nat) (S : St) : Prop := ∃ T dv m1 m2 m3, IsO w b ft T dv m1 m2 m3 ∧ Stand T S

theorem Stand.fresh {T : Tab} {S : St} (h : Stand T S) : freshOf T.us T.draws = (S.fresh, (freshOf S.us S.draws).2) := by rw [h.us, h.draws]; rfl

theorem Stand.puts {T : Tab} {S : St} (h : Stand T S) (hN : S.rows.length < 1000000000) {n : Nat} {x : What} (hx : WhatOk x) (hh : ∀ l, x ≠ .hash l) (hs : ∀ s l, x ≠ .sig s l) (hf : (T.puts n (thingOf x)).full) : Stand (T.puts n (thingOf x)) (S.put x) := by
  refine ⟨hf, put_good h.good hN hx, ?_, ?_, fun g => ?_, fun l hl => ?_, fun s l h1 h2 => ?_⟩
  · simp [Tab.puts, h.fresh, St.put]
  · rw [put_us]; show T.us ++ [(freshOf T.us T.draws).1] = _; rw [h.fresh, h.us]
  · rw [put_at h.good hN]
    simp only [Tab.puts, h.fresh]
    split
    · rfl
    · exact h.made g
  · rw [put_of, if_neg (hh l), Option.or_none]; exact h.hashes l hl
  · rw [put_of, if_neg (hs s l), Option.or_none]; exact h.signed s l h1 h2
theorem Stand.hashed {T : Tab} {S : St} (h : Stand T S) (hN : S.rows.length < 1000000000) {n : Nat} {l : List Int} (hx : Oct l) (hnew : S.of (.hash l) = none) (hf : (T.hashed n l).full) : Stand (T.hashed n l) (S.put (.hash l)) := by
  refine ⟨hf, put_good h.good hN hx, ?_, ?_, fun g => ?_, fun m hm => ?_, fun s m h1 h2 => ?_⟩
  · simp [Tab.hashed, Tab.named, h.fresh, St.put]
  · rw [put_us]; show T.us ++ [(freshOf T.us T.draws).1] = _; rw [h.fresh, h.us]
  · rw [put_at h.good hN]
    simp only [Tab.hashed, Tab.named, h.fresh]
    split
    · rfl
    · exact h.made g
  · rw [put_of]
    simp only [Tab.hashed, h.fresh, What.hash.injEq]
    by_cases e : m = l
    · subst e; simp [hnew]
    · rw [if_neg e, if_neg (fun e' => e e'.symm), Option.or_none]; exact h.hashes m hm
  · rw [put_of, if_neg (by simp), Option.or_none]; exact h.signed s m h1 h2
theorem Stand.signs {T : Tab} {S : St} (h : Stand T S) (hN : S.rows.length < 1000000000) {n : Nat} {s : Int} {l : List Int} (hs : U64 s) (hx : Oct l) (hnew : S.of (.sig s l) = none) (hf : (T.signs n (be8 s ++ l)).full) : Stand (T.signs n (be8 s ++ l)) (S.put (.sig s l)) := by
  refine ⟨hf, put_good h.good hN ⟨hs, hx⟩, ?_, ?_, fun g => ?_, fun m hm => ?_, fun t m h1 h2 => ?_⟩
  · simp [Tab.signs, Tab.named, h.fresh, St.put]
  · rw [put_us]; show T.us ++ [(freshOf T.us T.draws).1] = _; rw [h.fresh, h.us]
  · rw [put_at h.good hN]
    simp only [Tab.signs, Tab.named, h.fresh]
    split
    · rfl
    · exact h.made g
  · rw [put_of, if_neg (by simp), Option.or_none]; exact h.hashes m hm
  · rw [put_of]
    simp only [Tab.signs, h.fresh, What.sig.injEq]
    by_cases e : t = s ∧ m = l
    · obtain ⟨rfl, rfl⟩ := e; simp [hnew]
    · rw [if_neg (fun e' => e (be8_inj h1 hs e')), if_neg (fun e' => e ⟨e'.1.symm, e'.2.symm⟩), Option.or_none]; exact h.signed t m h1 h2

theorem Stand.at {T : Tab} {S : St} (h : Stand T S) (g : Int) : T.at g = ((S.at g).map thingOf).getD noThing := by unfold Tab.at; rw [h.made]
theorem thing_oct {S : St} (hg : Good S) (g : Int) : Oct (((S.at g).map thingOf).getD noThing).bound ∧ Oct (((S.at g).map thingOf).getD noThing).plain := by
  cases e : S.at g with
  | none => exact ⟨Oct.nil, Oct.nil⟩
  | some x =>
    have := (at_ok hg e).2.2
    cases x using What.each <;> first | exact ⟨Oct.nil, Oct.nil⟩ | exact ⟨this.2.1, this.2.2⟩
theorem thing_zeros (S : St) (g : Int) : (((S.at g).map thingOf).getD noThing).zeros ≤ 2000 := by
  cases e : S.at g with
  | none => simp [noThing]
  | some x =>
    cases x using What.each <;> simp [thingOf]
    unfold zerosOf sizeI
    split
    · rename_i k b p h
      have h7 : (cls p.length).toNat ≤ 6 := by omega
      have : 2 ^ (cls p.length).toNat ≤ 2 ^ 6 := Nat.pow_le_pow_right (by omega) h7
      omega
    · simp

theorem Rep.turn {w w' : World} {b : Nat} {ft X : List Nat} {S : St} (h : Rep w b ft S) (ht : Turn X w w') (hX : ∀ k ∈ ft, k ∉ X) : Rep w' b ft S := by
  obtain ⟨T, dv, m1, m2, m3, hi, hs⟩ := h
  exact ⟨T, dv, m1, m2, m3, hi.turn ht hX, hs⟩
theorem Rep.below {w w' : World} {b : Nat} {ft : List Nat} {S : St} (h : Rep w b ft S) (hb : Below w.heap.size w w') : Rep w' b ft S := h.turn (X := []) (Turn.of_below hb) (fun _ _ h => by cases h)
theorem Rep.good {w : World} {b : Nat} {ft : List Nat} {S : St} (h : Rep w b ft S) : Good S := h.choose_spec.choose_spec.choose_spec.choose_spec.choose_spec.2.good
theorem Rep.room {w : World} {b : Nat} {ft : List Nat} {S : St} (h : Rep w b ft S) : ∀ k ∈ ft, k < w.heap.size := h.choose_spec.choose_spec.choose_spec.choose_spec.choose_spec.1.room
end Go.Proofs.Ytcacioogklgahaa
