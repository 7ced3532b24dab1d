/-
  The program's oracle in memory stands for the oracle by lists (Rep), and what that oracle answers behind a new row.
  The oracle by lists: what holds behind its calls.
  The oracle by lists: signatures and wraps.
  A new oracle.
  The oracle's methods, each by what the oracle by lists answers: Used, Key, Pair, Hash, Sign.
  The oracle: what stands behind sealed bytes (handleAt, find), whether a handle is a key (isKey).
  Bytes of strings, and what stands behind sealed bytes, by the oracle by lists.
  An oracle that a law has made (At): all its blocks are new, what came in is read as ever; the methods over it.
-/
import Derived.Test.YtjbpfhnagiacmaaGreatSigs
import Derived.Lib.ConvBytes
import Derived.Test.YtjbpfhnagiacmaaGreatPut
import Derived.Test.YtjbpfhnagiacmaaGreatRef
import Derived.Lib.SlBytesConst
namespace Go.Proofs.YtjbpfhnagiacmaaGreat
section
section
set_option linter.unusedVariables false
set_option synthInstance.maxSize 20000
open Classical
open Go.RowKit Go.Maps
def WhatOk : What → Prop
  | Sum.inl (Sum.inl b) => Oct b
  | Sum.inl (Sum.inr false) => True
  | Sum.inl (Sum.inr true) => True
  | Sum.inr (Sum.inl (Sum.inl s)) => U64 s
  | Sum.inr (Sum.inl (Sum.inr (s, b))) => U64 s ∧ Oct b
  | Sum.inr (Sum.inr (Sum.inl (k, b, p))) => U64 k ∧ Oct b ∧ Oct p
  | Sum.inr (Sum.inr (Sum.inr (s, k, p))) => U64 s ∧ U64 k ∧ U64 p
structure Good (S : St) : Prop where
  draws : ∀ d ∈ S.draws, U64 d
  rows : ∀ r ∈ S.rows, U64 r.1 ∧ r.1 ≠ 0 ∧ WhatOk r.2
  apart : S.us.Pairwise (· ≠ ·)
theorem at_some {S : St} {h : Int} {x : What} (e : S.at h = some x) : (h, x) ∈ S.rows := by
  unfold St.at at e
  obtain ⟨r, hr, rfl⟩ := Option.map_eq_some_iff.1 e
  have := List.find?_some hr
  simp at this
  have hm := List.mem_of_find?_eq_some hr
  rw [← this]
  exact hm
theorem at_isSome (S : St) (h : Int) : (S.at h).isSome = decide (h ∈ S.us) := by
  unfold St.at St.us
  rw [Option.isSome_map, Bool.eq_iff_iff, List.find?_isSome]
  simp
theorem at_ok {S : St} (hg : Good S) {h : Int} {x : What} (e : S.at h = some x) : U64 h ∧ h ≠ 0 ∧ WhatOk x := hg.rows _ (at_some e)
theorem us_length (S : St) : S.us.length = S.rows.length := by simp [St.us]
theorem fresh_ok {S : St} (hg : Good S) (hN : S.rows.length < 1000000000) : S.fresh ≠ 0 ∧ S.fresh ∉ S.us ∧ U64 S.fresh ∧ ∀ d ∈ (freshOf S.us S.draws).2, U64 d := by
  obtain ⟨a, b, c, d, _⟩ := freshOf_spec S.us S.draws hg.draws (by rw [us_length]; omega)
  exact ⟨a, b, c, d⟩
theorem put_us (S : St) (x : What) : (S.put x).us = S.us ++ [S.fresh] := by simp [St.put, St.us]
theorem put_at {S : St} (hg : Good S) (hN : S.rows.length < 1000000000) (x : What) (h : Int) : (S.put x).at h = if h = S.fresh then some x else S.at h := by
  obtain ⟨_, hf, _⟩ := fresh_ok hg hN
  unfold St.at St.put
  simp only [List.find?_append, Option.map_or]
  by_cases e : h = S.fresh
  · rw [if_pos e]
    subst e
    have hn : S.rows.find? (fun r => r.1 == S.fresh) = none := by
      rw [List.find?_eq_none]
      intro r hr
      simp
      exact fun e => hf (List.mem_map.2 ⟨r, hr, e⟩)
    simp [hn]
  · rw [if_neg e]
    have : ([(S.fresh, x)] : List (Int × What)).find? (fun r => r.1 == h) = none := by simp; exact fun e' => e e'.symm
    simp [this]
theorem put_of (S : St) (x y : What) : (S.put x).of y = (S.of y).or (if x = y then some S.fresh else none) := by
  unfold St.of St.put
  simp only [List.find?_append, Option.map_or]
  congr 1
  by_cases e : x = y
  · simp [e]
  · simp [e]
theorem put_good {S : St} (hg : Good S) (hN : S.rows.length < 1000000000) {x : What} (hx : WhatOk x) : Good (S.put x) := by
  obtain ⟨h0, hf, hU, hd⟩ := fresh_ok hg hN
  refine ⟨hd, fun r hr => ?_, ?_⟩
  · rcases List.mem_append.1 hr with hr | hr
    · exact hg.rows r hr
    · simp at hr
      subst hr
      exact ⟨hU, h0, hx⟩
  · rw [put_us, List.pairwise_append]
    refine ⟨hg.apart, by simp, fun a ha c hc => ?_⟩
    simp at hc
    subst hc
    exact fun e => hf (e ▸ ha)
structure Stand (T : Tab) (S : St) : Prop where
  full : T.full
  good : Good S
  draws : T.draws = S.draws
  us : T.us = S.us
  made : ∀ h, T.made h = (S.at h).map thingOf
  hashes : ∀ l, Oct l → T.hashes l = S.of (.hash l)
  signed : ∀ s l, U64 s → Oct l → T.signed (be8 s ++ l) = S.of (.sig s l)
def Rep (w : World) (b : Nat) (ft : List Nat) (S : St) : Prop := ∃ T dv m1 m2 m3, IsO w b ft T dv m1 m2 m3 ∧ Stand T S
theorem Stand.fresh {T : Tab} {S : St} (h : Stand T S) : freshOf T.us T.draws = (S.fresh, (freshOf S.us S.draws).2) := by rw [h.us, h.draws]; rfl
theorem Stand.puts {T : Tab} {S : St} (h : Stand T S) (hN : S.rows.length < 1000000000) {n : Nat} {x : What} (hx : WhatOk x) (hh : ∀ l, x ≠ .hash l) (hs : ∀ s l, x ≠ .sig s l) (hf : (T.puts n (thingOf x)).full) : Stand (T.puts n (thingOf x)) (S.put x) := by
  refine ⟨hf, put_good h.good hN hx, ?_, ?_, fun g => ?_, fun l hl => ?_, fun s l h1 h2 => ?_⟩
  · simp [Tab.puts, h.fresh, St.put]
  · rw [put_us]; show T.us ++ [(freshOf T.us T.draws).1] = _; rw [h.fresh, h.us]
  · rw [put_at h.good hN]
    simp only [Tab.puts, h.fresh]
    split
    · rfl
    · exact h.made g
  · rw [put_of, if_neg (hh l), Option.or_none]; exact h.hashes l hl
  · rw [put_of, if_neg (hs s l), Option.or_none]; exact h.signed s l h1 h2
theorem Stand.at {T : Tab} {S : St} (h : Stand T S) (g : Int) : T.at g = ((S.at g).map thingOf).getD noThing := by unfold Tab.at; rw [h.made]
theorem thing_oct {S : St} (hg : Good S) (g : Int) : Oct (((S.at g).map thingOf).getD noThing).bound ∧ Oct (((S.at g).map thingOf).getD noThing).plain := by
  cases e : S.at g with
  | none => exact ⟨Oct.nil, Oct.nil⟩
  | some x =>
    have := (at_ok hg e).2.2
    cases x using What.each <;> first | exact ⟨Oct.nil, Oct.nil⟩ | exact ⟨this.2.1, this.2.2⟩
theorem thing_zeros (S : St) (g : Int) : (((S.at g).map thingOf).getD noThing).zeros ≤ 2000 := by
  cases e : S.at g with
  | none => simp [noThing]
  | some x =>
    cases x using What.each <;> simp [thingOf]
    unfold zerosOf sizeI
    split
    · rename_i k b p h
      have h7 : (cls p.length).toNat ≤ 6 := by omega
      have : 2 ^ (cls p.length).toNat ≤ 2 ^ 6 := Nat.pow_le_pow_right (by omega) h7
      omega
    · simp
theorem Rep.turn {w w' : World} {b : Nat} {ft X : List Nat} {S : St} (h : Rep w b ft S) (ht : Turn X w w') (hX : ∀ k ∈ ft, k ∉ X) : Rep w' b ft S := by
  obtain ⟨T, dv, m1, m2, m3, hi, hs⟩ := h
  exact ⟨T, dv, m1, m2, m3, hi.turn ht hX, hs⟩
theorem Rep.below {w w' : World} {b : Nat} {ft : List Nat} {S : St} (h : Rep w b ft S) (hb : Below w.heap.size w w') : Rep w' b ft S := h.turn (X := []) (Turn.of_below hb) (fun _ _ h => by cases h)
theorem Rep.good {w : World} {b : Nat} {ft : List Nat} {S : St} (h : Rep w b ft S) : Good S := h.choose_spec.choose_spec.choose_spec.choose_spec.choose_spec.2.good
theorem Rep.room {w : World} {b : Nat} {ft : List Nat} {S : St} (h : Rep w b ft S) : ∀ k ∈ ft, k < w.heap.size := h.choose_spec.choose_spec.choose_spec.choose_spec.choose_spec.1.room
end
section
set_option linter.unusedVariables false
set_option synthInstance.maxSize 20000
open Classical
theorem put_len (S : St) (x : What) : (S.put x).rows.length = S.rows.length + 1 := by simp [St.put]
theorem put_keeps {S : St} {x z : What} {g : Int} (h : S.of z = some g) : (S.put x).of z = some g := by rw [put_of, h]; rfl
theorem at_put_new {S : St} (hg : Good S) (hN : S.rows.length < 1000000000) (x : What) : (S.put x).at S.fresh = some x := by rw [put_at hg hN, if_pos rfl]
theorem at_put_old {S : St} (hg : Good S) (hN : S.rows.length < 1000000000) {x y : What} {g : Int} (h : S.at g = some y) : (S.put x).at g = some y := by
  rw [put_at hg hN, if_neg, h]
  intro e
  have hm : g ∈ S.us := List.mem_map.2 ⟨_, at_some h, rfl⟩
  exact (fresh_ok hg hN).2.1 (e ▸ hm)
theorem good0 {ds : List Int} (h : ∀ d ∈ ds, U64 d) : Good ⟨ds, []⟩ := ⟨h, by simp, by simp [St.us]⟩
end
section
set_option linter.unusedVariables false
set_option synthInstance.maxSize 20000
open Classical
def St.pair (S : St) : St := (S.put .secret).put (.pub S.fresh)
end
end
section
section
set_option linter.unusedVariables false
set_option synthInstance.maxSize 20000
open Classical
open Go.RowKit Go.Maps
theorem info37 : (Tryz.prog.info? 26).map (fun i => (i.zero, i.size, i.bytes)) = some (some (.int .u64 0), 1, 8) := by kernel_rfl
def csU (l : List Int) : List Value := l.map (Value.int .u64)
theorem csU_at (l : List Int) (j : Nat) (h : j < l.length) : (csU l)[j]? = some (.int .u64 (l.getD j 0)) := by simp [csU, h]
theorem csU_some {l : List Int} {j : Nat} {u : Value} (h : (csU l)[j]? = some u) : j < l.length ∧ u = .int .u64 (l.getD j 0) := by
  have hj : j < l.length := by have := (List.getElem?_eq_some_iff.1 h).1; simpa [csU] using this
  rw [csU_at l j hj] at h
  exact ⟨hj, (Option.some.inj h).symm⟩
theorem ownU_rd {B : Nat} {e : TypeId} {w : World} {v : Value} {l : List Int} (h : w.ownsRow B e 1 v l.length (csU l)) (hU : ∀ x ∈ l, U64 x) : RdU w v l ∧ ∀ k, v.ownBlock = some k → B ≤ k ∧ k < w.heap.size := by
  refine ⟨⟨hU, ?_⟩, fun k hk => h.lt k hk⟩
  obtain ⟨h1, h2⟩ := h
  rcases h2 with ⟨rfl, hn⟩ | ⟨g, cap, cur, rfl, hb, hg, hn, hc, hs, ht⟩
  · have : l = [] := List.eq_nil_of_length_eq_zero hn
    subst this
    exact ⟨none, 0, rfl, Nat.le_refl _, Nat.zero_le _, fun _ => rfl, fun h => by simp at h⟩
  · refine ⟨some ⟨g, 0, none⟩, cap, rfl, hn, hc, (fun h => by cases h), fun _ => ⟨g, 0, rfl, fun j hj => ?_⟩⟩
    have := World.ownsRow.cells (w := w) (base := B) (e := e) (size := 1) (v := .slice (some ⟨g, 0, none⟩) l.length cap) (n := l.length) (xs := csU l) ⟨h1, .inr ⟨g, cap, cur, rfl, hb, hg, hn, hc, hs, ht⟩⟩ (g := g) rfl j _ (csU_at l j hj)
    rw [Addr.add_lit] at this
    exact this
theorem eql_slice (t e : TypeId) (hu : Tryz.prog.underlying t = some (.slice e)) (w : World) (a : Option Addr) (n c : Nat) : (binOp .eql t (.slice a n c) (.slice none 0 0)).run Tryz.prog w = .ok (.bool a.isNone) w := by
  have key : ∀ d, (Op.equalIn (d + 1) t (.slice a n c) (.slice none 0 0)).run Tryz.prog w = .ok a.isNone w := fun d => by
    cases a <;> simp [Op.equalIn, run_underlying hu, Result.andThen]
  have e1 : (binOp .eql t (.slice a n c) (.slice none 0 0)).run Tryz.prog w = ((Op.equalIn (9999 + 1) t (.slice a n c) (.slice none 0 0)).run Tryz.prog w).andThen fun b w' => .ok (.bool b) w' := by
    simp only [binOp]
    simp [Op.equal, Op.maxDepth]
  rw [e1, key]
  rfl
set_option maxRecDepth 20000 in
theorem clone_any (v : Value) (l : List Int) (w : World) (hv : RdU w v l) (hl : l.length ≤ 1000000) :
    Calls Tryz.prog 50 #[v] w fun e w' => ∃ v', e = .returned v' ∧ RdU w' v' l ∧ Below w.heap.size w w' ∧ ∀ k, v'.ownBlock = some k → w.heap.size ≤ k ∧ k < w'.heap.size := by
  have HV : Hid (RdU w v l) := hv
  obtain ⟨hU, a, cap, rfl, h1, h2, h3, h4⟩ := hv
  obtain ⟨i0, hi, hz0, hz1, hz2⟩ := info_parts info37
  cases a with
  | none =>
    have hc := h3 rfl
    subst hc
    have hl0 : l = [] := List.eq_nil_of_length_eq_zero (by omega)
    subst hl0
    have hq := eql_slice 22 26 (by kernel_rfl) w none 0 0
    go_enter Tryz.func50, Tryz.ntmps50
    go_wp2
    go_ret
    exact ⟨_, rfl, rdU_nil w, Below.refl _ _, fun k hk => by cases hk⟩
  | some ad =>
    have hq := eql_slice 22 26 (by kernel_rfl) w (some ad) l.length cap
    have HO : Hid ((w.alloc (.cells #[] 26)).ownsRow w.heap.size 26 1 (.slice (some ⟨w.heap.size, 0, none⟩) 0 0) 0 []) :=
      ⟨rfl, .inr ⟨w.heap.size, 0, #[], rfl, Nat.le_refl _, heap_alloc_new w _, Nat.le_refl _, Nat.zero_le _, rfl, rfl⟩⟩
    have HC : Hid (∀ j u, (csU l)[j]? = some u → (w.alloc (.cells #[] 26)).cell? (ad.add j) = some u) := fun j u hu => by
      obtain ⟨hj, rfl⟩ := csU_some hu
      obtain ⟨bb, off, e, hc⟩ := h4 (by omega)
      cases e
      rw [Addr.add_lit]
      exact (World.grownBy_alloc w (.cells #[] 26) none).cell (hc j hj) (by simp)
    have HU : Hid (∀ x ∈ l, U64 x) := hU
    clear h3 h4 hU
    go_enter Tryz.func50, Tryz.ntmps50
    go_wp2_with (at_builtin; refine wpList_append_own _ rfl _ _ 22 rfl w.heap.size 26 i0 (.int .u64 0) 1 8 (by kernel_rfl) hi hz0 hz1 hz2 rfl (by decide) _ 0 [] rfl HO.out ad l.length cap (csU l) rfl (by simp [csU]) HC.out (ints_oneCell .u64 l) (by unfold maxLen; omega) (by omega) (by simp) ?_; intro v' w1 ho1 hg1 hnil1)
    go_ret
    have ho2 : w1.ownsRow w.heap.size 26 1 v' l.length (csU l) := by simpa using ho1
    obtain ⟨r1, r2⟩ := ownU_rd ho2 HU.out
    exact ⟨_, rfl, r1, bgrown (balloc (Below.refl _ w) _) (Nat.le_refl _) hg1, r2⟩
set_option maxRecDepth 20000 in
theorem new_any (v : Value) (l : List Int) (w : World) (hv : RdU w v l) (hl : l.length ≤ 1000000) :
    Calls Tryz.prog 20 #[v] w fun e w' => ∃ b, e = .returned (ptr b) ∧ (∃ ft, Rep w' b ft ⟨l, []⟩ ∧ ∀ k ∈ ft, w.heap.size ≤ k) ∧ Below w.heap.size w w' := by
  have hU := hv.1
  go_enter Tryz.func20, Tryz.ntmps20
  go_wp2_with (go_at_call 50; go_must (refine (clone_any v l w hv hl).mono ?_; rintro e w1 ⟨v1, rfl, hr1, hb1, ho1⟩; have HR : Hid (RdU w1 v1 l) := hr1; obtain ⟨_, a1, c1, rfl, _⟩ := hr1))
  go_ret
  have hro : ∀ k, (a1.map Addr.block) = some k ↔ (Value.slice a1 l.length c1).ownBlock = some k := fun k => by cases a1 <;> simp [Value.ownBlock]
  refine ⟨w1.heap.size, rfl, ⟨w1.heap.size :: (a1.map Addr.block).toList, ⟨⟨l, 0, [], fun _ => none, fun _ => none, fun _ => none⟩, .slice a1 l.length c1, .map none, .map none, .map none, ⟨heap_alloc_new w1 _, by simp, ?_, fun k hk => ?_, by simp, by simp, by simp, ?_, fun k hk => ?_⟩, ?_⟩, fun k hk => ?_⟩, balloc hb1 _⟩
  · exact HR.out.turn (ft := []) (Turn.of_below ((Below.refl _ _).alloc (Nat.le_refl _) _)) (fun k _ h => by cases h)
  · have := ho1 k hk
    refine ⟨by simp [(hro k).2 hk], by omega, by simp, by simp, by simp⟩
  · exact .inl ⟨rfl, rfl, rfl, rfl, fun _ => rfl, fun _ => rfl⟩
  · simp only [List.mem_cons, Option.mem_toList] at hk
    rcases hk with rfl | hk
    · simp
    · have := ho1 k ((hro k).1 hk)
      simp
      omega
  · refine ⟨fun i h1 h2 => ?_, ⟨hU, by simp, by simp [St.us]⟩, rfl, rfl, fun _ => rfl, fun _ _ => rfl, fun _ _ _ _ => rfl⟩
    simp at h2
    omega
  · simp only [List.mem_cons, Option.mem_toList] at hk
    rcases hk with rfl | hk
    · exact hb1.size
    · exact (ho1 k ((hro k).1 hk)).1
end
section
set_option linter.unusedVariables false
set_option synthInstance.maxSize 20000
open Classical
open Go.RowKit Go.Maps
def Left (w : World) (b : Nat) (ft : List Nat) (S' : St) (w' : World) : Prop := (∃ ft', Rep w' b ft' S' ∧ Of ft w ft') ∧ Turn ft w w'
theorem Left.same {w w' : World} {b : Nat} {ft : List Nat} {S : St} (h : Rep w b ft S) (hb : Below w.heap.size w w') : Left w b ft S w' := ⟨⟨ft, h.below hb, Of.refl _ _⟩, Turn.of_below hb⟩
theorem Left.trans {w w1 w2 : World} {b : Nat} {ft ft1 : List Nat} {S1 S2 : St} (ho : Of ft w ft1) (ht : Turn ft w w1) (h2 : Left w1 b ft1 S2 w2) : Left w b ft S2 w2 := by
  obtain ⟨⟨ft2, h, hof⟩, ht2⟩ := h2
  exact ⟨⟨ft2, h, ho.trans hof ht.size⟩, ht.trans ht2 ho⟩
theorem Left.after {w w1 w2 : World} {b : Nat} {ft : List Nat} {S : St} (h : Left w1 b ft S w2) (hb : Below w.heap.size w w1) : Left w b ft S w2 := Left.trans (S1 := S) (fun k hk => .inl hk) (Turn.of_below hb) h
theorem Left.drew {w w' : World} {b : Nat} {ft : List Nat} {S : St} (h : Left w b ft S w') : Left w b ft S w'.drew := by
  obtain ⟨⟨ft', r, o⟩, t⟩ := h
  exact ⟨⟨ft', r.turn (X := []) ((Turn.refl [] w').drew) (fun _ _ h => by cases h), o⟩, t.drew⟩
theorem Left.below {w w1 w2 : World} {b : Nat} {ft : List Nat} {S : St} (h : Left w b ft S w1) (hb : Below w1.heap.size w1 w2) : Left w b ft S w2 := by
  obtain ⟨⟨ft', r, o⟩, t⟩ := h
  exact ⟨⟨ft', r.below hb, o⟩, t.same (Turn.of_below hb)⟩
theorem put_row (w : World) (b : Nat) (ft : List Nat) (S : St) (h : Rep w b ft S) (hN : S.rows.length + 1 < 1000000000) (x : What) (hx : WhatOk x) (hh : ∀ l, x ≠ .hash l) (hs : ∀ s l, x ≠ .sig s l) (v : Value) (hv : v = thingVal (thingOf x)) :
    Calls Tryz.prog 51 #[ptr b, v] w fun e w' => e = .returned (.int .u64 S.fresh) ∧ Left w b ft (S.put x) w' := by
  subst hv
  obtain ⟨T, dv, m1, m2, m3, hi, st⟩ := h
  refine (put_any w b ft T dv m1 m2 m3 (thingOf x) hi st.full (by rw [st.us, us_length]; exact hN) (by rw [st.draws]; exact st.good.draws)).mono ?_
  rintro e w' ⟨rfl, ⟨ft', dv', n, b1, b2, b3, h1, hf, hof, _⟩, ht⟩
  rw [st.fresh]
  exact ⟨rfl, ⟨ft', ⟨_, _, _, _, _, h1, st.puts (by omega) hx hh hs hf⟩, hof⟩, ht⟩
set_option maxRecDepth 20000 in
set_option maxRecDepth 20000 in
theorem key_any (w : World) (b : Nat) (ft : List Nat) (S : St) (h : Rep w b ft S) (hN : S.rows.length + 1 < 1000000000) : Calls Tryz.prog 53 #[ptr b] w fun e w' => e = .returned (.int .u64 S.fresh) ∧ Left w b ft (S.put .key) w' := by
  go_enter Tryz.func53, Tryz.ntmps53
  go_wp2_with (go_at_call 51; go_must (refine (put_row w b ft S h hN .key trivial (by simp) (by simp) _ rfl).mono ?_; rintro e w1 ⟨rfl, hl⟩))
  go_ret
  exact ⟨rfl, hl⟩
theorem pair_any (w : World) (b : Nat) (ft : List Nat) (S : St) (h : Rep w b ft S) (hN : S.rows.length + 2 < 1000000000) :
    Calls Tryz.prog 21 #[ptr b] w fun e w' => e = .returned (.tuple #[.int .u64 S.fresh, .int .u64 (S.put .secret).fresh]) ∧ Left w b ft ((S.put .secret).put (.pub S.fresh)) w' := by
  have hU := (fresh_ok h.good (by omega)).2.2.1
  go_enter Tryz.func21, Tryz.ntmps21
  go_wp2_with (go_at_call 51; go_must (first
    | (refine (put_row w b ft S h (by omega) .secret trivial (by simp) (by simp) _ rfl).mono ?_; rintro e w1 ⟨rfl, ⟨ft1, h1, hof1⟩, ht1⟩; clear h)
    | (refine (put_row w1 b ft1 (S.put .secret) h1 (by simp [St.put]; omega) (.pub S.fresh) hU (by simp) (by simp) _ rfl).mono ?_; rintro e w2 ⟨rfl, hl2⟩)))
  go_ret2
  exact ⟨rfl, Left.trans (S1 := S) hof1 ht1 hl2⟩
end
end
section
set_option linter.unusedVariables false
set_option linter.unusedSimpArgs false
set_option synthInstance.maxSize 20000
open Classical
open Go.RowKit Go.Maps
set_option maxHeartbeats 1000000 in
set_option maxRecDepth 20000 in
theorem handleAt_any (v : Value) (l : List Int) (w : World) (hv : Rd w v l) :
    Calls Tryz.prog 115 #[v] w fun e w' => e = .returned (.int .u64 (if l.length < 8 then 0 else ofBe8 l)) ∧ w' = w := by
  have hoct := hv.oct
  have HV : Hid (Rd w v l) := hv
  obtain ⟨_, a, cap, rfl, h1, h2, h3, h4⟩ := hv
  unfold maxLen at h2
  by_cases h8 : l.length < 8
  · go_enter Tryz.func115, Tryz.ntmps115
    go_wp2
    go_ret
    exact ⟨rfl, rfl⟩
  · obtain ⟨bb, off, rfl, hc⟩ := h4 (by omega)
    clear h3 h4
    have HC : Hid (∀ j, j < l.length → w.cell? ⟨bb, off + j, none⟩ = some (.int .u8 (l.getD j 0))) := hc
    have HO : Hid (Oct l) := hoct
    clear hc hoct
    go_enter Tryz.func115, Tryz.ntmps115
    go_wp2
    go_loopw [3, 12] (fun hv iv wr => ∃ k : Nat, k ≤ 8 ∧ iv = .int .i64 k ∧ hv = .int .u64 (upTo l k) ∧ wr = w) (fun _ iv _ => 8 - (intOf iv).toNat)
    case atStart => exact ⟨0, by omega, rfl, rfl, rfl⟩
    case round =>
      obtain ⟨k, hk, rfl, rfl, rfl⟩ := hrel
      by_cases hk8 : k < 8
      · have c0 := HC.out k (by omega)
        have hx := HO.out.at k
        have hb := upTo_bound HO.out k (by omega)
        have hb2 : upTo l k < 72057594037927936 := by
          have : (256 : Int) ^ k ≤ 256 ^ 7 := by
            have : (256 : Nat) ^ k ≤ 256 ^ 7 := Nat.pow_le_pow_right (by omega) (by omega)
            have h3 := Int.ofNat_le.2 this
            rw [Int.natCast_pow, Int.natCast_pow] at h3
            exact h3
          have e : (256 : Int) ^ 7 = 72057594037927936 := by decide
          omega
        have hor : Hid _ := or8 (upTo l k) (l.getD k 0) hb.1 hb2 hx
        have HS : Hid (upTo l (k + 1) = upTo l k * 256 + l.getD k 0) := upTo_succ (by omega)
        clear hb hb2
        generalize l.getD k 0 = x at c0 hx hor HS
        go_wp2
        go_roundw
        case rel => exact ⟨k + 1, by omega, by go_num, by rw [HS.out, hor.out], trivial⟩
        case measure => simp [intOf]; omega
      · obtain rfl : k = 8 := by omega
        go_wp2
        go_ret
        exact ⟨rfl, rfl⟩
set_option maxRecDepth 20000 in
theorem isKey_any (w : World) (b : Nat) (ft : List Nat) (T : Tab) (dv m1 m2 m3 : Value) (h : IsO w b ft T dv m1 m2 m3) (g : Int) (hg : U64 g) (hO : Oct (T.at g).bound ∧ Oct (T.at g).plain) :
    Calls Tryz.prog 76 #[ptr b, .int .u64 g] w fun e w' => e = .returned (.bool (decide (T.at g = ⟨1, 0, 0, 0, [], []⟩))) ∧ w' = w := by
  have c2 := h.blk.cell 2 _ rfl
  have hl := h.look hg
  have HO : Hid (Oct (T.at g).bound ∧ Oct (T.at g).plain) := hO
  clear h hO
  generalize T.at g = t at hl HO ⊢
  go_enter Tryz.func76, Tryz.ntmps76
  go_wp2_with (refine wpList_eqlT rfl _ _ _ rfl t ⟨1, 0, 0, 0, [], []⟩ rfl rfl HO.out ⟨Oct.nil, Oct.nil⟩ ?_)
  go_ret
  exact ⟨rfl, rfl⟩
theorem head_any (v : Value) (l : List Int) (w : World) (hv : Rd w v l) : Calls Tryz.prog 115 #[v] w fun e w' => e = .returned (.int .u64 (headOf l)) ∧ w' = w := handleAt_any v l w hv
set_option maxHeartbeats 1000000 in
set_option maxRecDepth 20000 in
theorem find_any (w : World) (b : Nat) (ft : List Nat) (T : Tab) (dv m1 m2 m3 : Value) (h : IsO w b ft T dv m1 m2 m3) (u : Int) (v : Value) (l : List Int) (hv : Rd w v l) (hz : (T.at (headOf l)).zeros ≤ 2000) :
    Calls Tryz.prog 84 #[ptr b, .int .i64 u, v] w fun e w' => e = .returned (.tuple #[thingVal (T.find u l).1, .bool (T.find u l).2]) ∧ Below w.heap.size w w' := by
  have hU := headOf_U64 hv.oct
  have H : Hid (IsO w b ft T dv m1 m2 m3) := h
  have c2 := (h.below ((Below.refl _ _).alloc (Nat.le_refl _) (.cells #[.int .i64 0, .int .u64 0, .int .u64 0, .int .i64 0, .string ⟨#[]⟩, .string ⟨#[]⟩] 109))).blk.cell 2 _ rfl
  have hl := (h.below ((Below.refl _ _).alloc (Nat.le_refl _) (.cells #[.int .i64 0, .int .u64 0, .int .u64 0, .int .i64 0, .string ⟨#[]⟩, .string ⟨#[]⟩] 109))).look hU
  have HV : Hid (Rd w v l) := hv
  have hv1 : Hid (Rd (w.alloc (.cells #[.int .i64 0, .int .u64 0, .int .u64 0, .int .i64 0, .string ⟨#[]⟩, .string ⟨#[]⟩] 109)) v l) := hv.below ((Below.refl _ _).alloc (Nat.le_refl _) _)
  unfold Tab.find
  have ho : Hid (Oct l) := hv.oct
  clear h hv
  unfold thingVal at hl
  generalize hhd : headOf l = g at hl hz hU ⊢
  generalize T.at g = t at hl hz ⊢
  by_cases hu : t.use = u
  · have hu' : (t.use != u) = false := by simpa using hu
    by_cases hb : l = boxOf g t.zeros
    · rw [if_pos ⟨hu, hb⟩]
      have HD : Hid (headOf l = g) := hhd
      have HBX : Hid (l = boxOf g t.zeros) := hb
      clear hhd hb hu
      go_enter Tryz.func84, Tryz.ntmps84
      go_wp2_with (first
        | (go_at_call 115; go_must (refine (head_any v l _ hv1.out).mono ?_; rintro e w2 ⟨rfl, rfl⟩; rw [HD.out]))
        | (go_at_call 77; go_must (refine (form_any g t.zeros _ hU hz).mono ?_; rintro e w3 ⟨v3, rfl, hown, hb3⟩; have X6 := (blk2_0 w [.int .i64 0, .int .u64 0, .int .u64 0, .int .i64 0, .string ⟨#[]⟩, .string ⟨#[]⟩] [.int .i64 t.use, .int .u64 t.secret, .int .u64 t.key, .int .i64 t.zeros, .string (strOfNums t.bound), .string (strOfNums t.plain)] 109 109).block (hb3.block w.heap.size (by simp; omega)); have X9 := (blk2_1 w [.int .i64 0, .int .u64 0, .int .u64 0, .int .i64 0, .string ⟨#[]⟩, .string ⟨#[]⟩] [.int .i64 t.use, .int .u64 t.secret, .int .u64 t.key, .int .i64 t.zeros, .string (strOfNums t.bound), .string (strOfNums t.plain)] 109 109).block (hb3.block (w.heap.size + 1) (by simp)); have k0 := X9.cell 0 _ rfl; have k1 := X9.cell 1 _ rfl; have k2 := X9.cell 2 _ rfl; have k3 := X9.cell 3 _ rfl; have k4 := X9.cell 4 _ rfl; have k5 := X9.cell 5 _ rfl; have j0 := X6.cell 0 _ rfl; have j1 := X6.cell 1 _ rfl; have j2 := X6.cell 2 _ rfl; have j3 := X6.cell 3 _ rfl; have j4 := X6.cell 4 _ rfl; have j5 := X6.cell 5 _ rfl; have i0 := X6.frozen 0; have i1 := X6.frozen 1; have i2 := X6.frozen 2; have i3 := X6.frozen 3; have i4 := X6.frozen 4; have i5 := X6.frozen 5; clear X6 X9))
        | (go_at_call 116; go_must (refine (equal_any v v3 l (boxOf g t.zeros) w3 (hv1.out.below (bnext ((Below.refl _ _).alloc (Nat.le_refl _) _) hb3)) hown.rd).mono ?_; rintro e w4 ⟨rfl, rfl⟩; rw [decide_eq_true HBX.out])))
      refine bodyPost_ret (v := .tuple #[thingVal t, .bool true]) ?_ rfl ⟨rfl, ?_⟩
      · rw [results_cell_tmp rfl]
        unfold thingVal
        go_simp
      · iterate 6 refine Below.setCell ?_ (by exact Nat.le_refl _) _
        exact bnext (balloc (balloc (Below.refl _ w) _) _) hb3
    · rw [if_neg (fun e => hb e.2)]
      have HD : Hid (headOf l = g) := hhd
      have HBX : Hid (¬ l = boxOf g t.zeros) := hb
      clear hhd hb hu
      go_enter Tryz.func84, Tryz.ntmps84
      go_wp2_with (first
        | (go_at_call 115; go_must (refine (head_any v l _ hv1.out).mono ?_; rintro e w2 ⟨rfl, rfl⟩; rw [HD.out]))
        | (go_at_call 77; go_must (refine (form_any g t.zeros _ hU hz).mono ?_; rintro e w3 ⟨v3, rfl, hown, hb3⟩; have X6 := (blk2_0 w [.int .i64 0, .int .u64 0, .int .u64 0, .int .i64 0, .string ⟨#[]⟩, .string ⟨#[]⟩] [.int .i64 t.use, .int .u64 t.secret, .int .u64 t.key, .int .i64 t.zeros, .string (strOfNums t.bound), .string (strOfNums t.plain)] 109 109).block (hb3.block w.heap.size (by simp; omega)); have X9 := (blk2_1 w [.int .i64 0, .int .u64 0, .int .u64 0, .int .i64 0, .string ⟨#[]⟩, .string ⟨#[]⟩] [.int .i64 t.use, .int .u64 t.secret, .int .u64 t.key, .int .i64 t.zeros, .string (strOfNums t.bound), .string (strOfNums t.plain)] 109 109).block (hb3.block (w.heap.size + 1) (by simp)); have k0 := X9.cell 0 _ rfl; have k1 := X9.cell 1 _ rfl; have k2 := X9.cell 2 _ rfl; have k3 := X9.cell 3 _ rfl; have k4 := X9.cell 4 _ rfl; have k5 := X9.cell 5 _ rfl; have j0 := X6.cell 0 _ rfl; have j1 := X6.cell 1 _ rfl; have j2 := X6.cell 2 _ rfl; have j3 := X6.cell 3 _ rfl; have j4 := X6.cell 4 _ rfl; have j5 := X6.cell 5 _ rfl; have i0 := X6.frozen 0; have i1 := X6.frozen 1; have i2 := X6.frozen 2; have i3 := X6.frozen 3; have i4 := X6.frozen 4; have i5 := X6.frozen 5; clear X6 X9))
        | (go_at_call 116; go_must (refine (equal_any v v3 l (boxOf g t.zeros) w3 (hv1.out.below (bnext ((Below.refl _ _).alloc (Nat.le_refl _) _) hb3)) hown.rd).mono ?_; rintro e w4 ⟨rfl, rfl⟩; rw [decide_eq_false HBX.out])))
      refine bodyPost_ret (v := .tuple #[thingVal noThing, .bool false]) ?_ rfl ⟨rfl, ?_⟩
      · rw [results_cell_tmp rfl]
        rw [tv_none]
        go_simp
      · iterate 6 refine Below.setCell ?_ (by exact Nat.le_refl _) _
        exact bnext (balloc (balloc (Below.refl _ w) _) _) hb3
  · rw [if_neg (fun e => hu e.1)]
    have hu' : (t.use != u) = true := by simpa using hu
    have HD : Hid (headOf l = g) := hhd
    clear hhd
    go_enter Tryz.func84, Tryz.ntmps84
    go_wp2_with (go_at_call 115; go_must (refine (head_any v l _ hv1.out).mono ?_; rintro e w2 ⟨rfl, rfl⟩; rw [HD.out]))
    refine bodyPost_ret (v := .tuple #[thingVal noThing, .bool false]) ?_ rfl ⟨rfl, ?_⟩
    · rw [results_cell_tmp rfl]
      rw [tv_none]
      go_simp
    · exact balloc (balloc (Below.refl _ w) _) _
theorem at_key (S : St) (g : Int) : ((S.at g).map thingOf).getD noThing = ⟨1, 0, 0, 0, [], []⟩ ↔ S.at g = some .key := by
  cases S.at g with
  | none => simp [noThing]
  | some x => cases x using What.each <;> simp [thingOf]
end
section
set_option linter.unusedVariables false
set_option synthInstance.maxSize 20000
open Classical
open Go.RowKit Go.Maps
theorem str_size {l : List Int} (ho : Oct l) : (strOfNums l).size = l.length := by rw [← sb_length, sb_strOfNums l ho]
section
variable {w : World} {ops : Array Oper} {rest : List Oper} {o : Oper} {a : Act} {Q : Exit → Act → World → Prop}
theorem wpList_toBytes (hg : o.guard = none) (x : Operand) (hop : o.op = Op.convert 9 25 x) (l : List Int) (ho : Oct l) (hl : l.length ≤ maxLen) (hx : a.eval x = .string (strOfNums l))
    (hK : ∀ v' w', Rd w' v' l → Below w.heap.size w w' → (∀ k, v'.ownBlock = some k → w.heap.size ≤ k ∧ k < w'.heap.size) → wpList Tryz.prog ops Q rest (a.put o.dst v') w') : wpList Tryz.prog ops Q (o :: rest) a w := by
  refine wpList_plain hg fun K' hK' => ?_
  have hrun := Lib.run_convert_string_bytes (P := Tryz.prog) w 9 25 5 (strOfNums l) (u := .string) (by kernel_rfl) (by kernel_rfl) (by kernel_rfl)
  unfold Oper.wp
  simp [execOp, hop, hx, hrun, Result.andThen]
  refine hK' _ _ (hK _ _ ⟨ho, some ⟨w.heap.size, 0, none⟩, grownCap w (strOfNums l).size 0 5, by rw [str_size ho], by rw [← str_size ho]; exact grownCap_ge _ _ _ _, grownCap_le_maxLen _ _ _ _ (by rw [str_size ho]; exact hl), (fun h => by cases h), fun hp => ⟨w.heap.size, 0, rfl, fun j hj => ?_⟩⟩ ⟨rfl, rfl, rfl, by rw [Lib.bytesWorld_size]; omega, fun k hk => Lib.bytesWorld_at_old w 5 _ k hk⟩ (fun k hk => ?_))
  · rw [Nat.zero_add, Lib.bytesWorld_cell w 5 (strOfNums l) j (by rw [str_size ho]; exact hj)]
    have e := nums_str l ho
    have e2 : (nums (strOfNums l).data.toList).getD j 0 = l.getD j 0 := by rw [e]
    have hj2 : j < (strOfNums l).data.toList.length := by
      have h3 := congrArg List.length e
      unfold nums at h3
      rw [List.length_map] at h3
      rw [h3]
      exact hj
    rw [← e2]
    unfold nums
    rw [List.getD_eq_getElem?_getD, List.getD_eq_getElem?_getD, List.getElem?_map, List.getElem?_eq_getElem hj2]
    rfl
  · simp only [Value.ownBlock, Option.some.injEq] at hk
    subst hk
    exact ⟨Nat.le_refl _, by rw [Lib.bytesWorld_size]; omega⟩
end
def LeftB (w : World) (b : Nat) (ft : List Nat) (S' : St) (w' : World) (v' : Value) (l : List Int) : Prop :=
  Rd w' v' l ∧ (∃ ft', Rep w' b ft' S' ∧ Of ft w ft' ∧ Out ft' v') ∧ Turn ft w w' ∧ ∀ k, v'.ownBlock = some k → w.heap.size ≤ k ∧ k < w'.heap.size
theorem LeftB.nil {w w' : World} {b : Nat} {ft : List Nat} {S : St} (h : Rep w b ft S) (hb : Below w.heap.size w w') : LeftB w b ft S w' (.slice none 0 0) [] :=
  ⟨rd_nil _, ⟨ft, h.below hb, Of.refl _ _, fun k hk => by cases hk⟩, Turn.of_below hb, fun k hk => by cases hk⟩
theorem LeftB.mk' {w w1 w2 : World} {b : Nat} {ft : List Nat} {S : St} {v : Value} {l : List Int} (h : Left w b ft S w1) (ho : Own w1.heap.size 5 w2 v l) (hb : Below w1.heap.size w1 w2) : LeftB w b ft S w2 v l := by
  obtain ⟨⟨ft', hr, hof⟩, ht⟩ := h
  have hlt := fun k hk => ho.2.lt k hk
  refine ⟨ho.rd, ⟨ft', hr.below hb, hof, fun k hk e => ?_⟩, ht.same (Turn.of_below hb), fun k hk => ?_⟩
  · have := hr.room k e
    have := (hlt k hk).1
    omega
  · have := (hlt k hk)
    have := ht.size
    omega
theorem at_zero {S : St} (hg : Good S) : S.at 0 = none := by
  cases e : S.at 0 with
  | none => rfl
  | some x => exact absurd rfl (at_ok hg e).2.1
theorem Stand.find {T : Tab} {S : St} (h : Stand T S) (l : List Int) : T.at (headOf l) = ((S.find l).map thingOf).getD noThing := by
  rw [h.at]
  unfold headOf St.find
  by_cases h8 : l.length < 8
  · rw [if_pos h8, if_neg (by omega), at_zero h.good]
  · rw [if_neg h8, if_pos (by omega)]
theorem head_ge {l : List Int} {h : Int} {z : Nat} (e : l = boxOf h z) : headOf l = ofBe8 l := by
  unfold headOf
  rw [if_neg (by rw [e, boxOf_length]; omega)]
theorem Stand.open {T : Tab} {S : St} (h : Stand T S) (k : Int) (b l : List Int) : ∃ t ok, T.find 4 l = (t, ok) ∧ Oct t.bound ∧ Oct t.plain ∧ S.open k b l = if ok then (if t.key = k then (if t.bound = b then (t.plain, 0) else ([], 5)) else ([], 11)) else ([], 4) := by
  have hO := thing_oct h.good (headOf l)
  rw [← h.at] at hO
  have hf := h.find l
  unfold Tab.find St.open
  cases e : S.find l with
  | none =>
    rw [e] at hf
    rw [hf]
    exact ⟨noThing, false, by simp [noThing], Oct.nil, Oct.nil, rfl⟩
  | some x =>
    rw [e] at hf
    rw [hf] at hO ⊢
    have hx : ∀ k' b' p, x = .seal k' b' p → (if (thingOf x).use = 4 ∧ l = boxOf (headOf l) (thingOf x).zeros then (thingOf x, true) else (noThing, false)) = if l = boxOf (ofBe8 l) (zerosOf p) then (thingOf x, true) else (noThing, false) := by
      intro k' b' p e
      subst e
      by_cases hl : l = boxOf (headOf l) (zerosOf p)
      · have hh := head_ge hl
        rw [hh] at hl
        simp only [thingOf, true_and, hh]
      · have hl2 : ¬ l = boxOf (ofBe8 l) (zerosOf p) := fun e => hl (by rw [head_ge e]; exact e)
        simp only [thingOf, true_and]
        rw [if_neg hl, if_neg hl2]
    have hn : (∀ k' b' p, x ≠ .seal k' b' p) → (if (thingOf x).use = 4 ∧ l = boxOf (headOf l) (thingOf x).zeros then (thingOf x, true) else (noThing, false)) = (noThing, false) := by
      intro hne
      rw [if_neg]
      intro e
      cases x using What.each <;> simp [thingOf] at e
      exact hne _ _ _ rfl
    simp only [Option.map_some, Option.getD_some]
    cases x using What.each with
    | sealed k' b' p =>
      rw [hx k' b' p rfl]
      by_cases hl : l = boxOf (ofBe8 l) (zerosOf p)
      · rw [if_pos hl]
        refine ⟨_, true, rfl, hO.1, hO.2, ?_⟩
        simp only [if_pos hl, thingOf, if_true]
        rfl
      · rw [if_neg hl]
        refine ⟨_, false, rfl, Oct.nil, Oct.nil, ?_⟩
        simp only [if_neg hl]
        rfl
    | _ => exact ⟨noThing, false, hn (by simp), Oct.nil, Oct.nil, rfl⟩
theorem Stand.unwrap {T : Tab} {S : St} (h : Stand T S) (s : Int) (l : List Int) : ∃ t ok, T.find 5 l = (t, ok) ∧ S.unwrap s l = if ok then (if t.secret = s then (t.key, 0) else (0, 11)) else (0, 4) := by
  have hf := h.find l
  unfold Tab.find St.unwrap
  cases e : S.find l with
  | none =>
    rw [e] at hf
    rw [hf]
    exact ⟨noThing, false, by simp [noThing], rfl⟩
  | some x =>
    rw [e] at hf
    rw [hf]
    simp only [Option.map_some, Option.getD_some]
    have hn : (∀ s' k' p, x ≠ .wrap s' k' p) → (if (thingOf x).use = 5 ∧ l = boxOf (headOf l) (thingOf x).zeros then (thingOf x, true) else (noThing, false)) = (noThing, false) := by
      intro hne
      rw [if_neg]
      intro e
      cases x using What.each <;> simp [thingOf] at e
      exact hne _ _ _ rfl
    cases x using What.each with
    | wrap s' k' p =>
      by_cases hl : l = boxOf (ofBe8 l) 8
      · have hh := head_ge hl
        refine ⟨thingOf (.wrap s' k' p), true, ?_, ?_⟩
        · rw [hh]; rw [if_pos ⟨rfl, hl⟩]
        · simp only [if_pos hl, thingOf, if_true]
          rfl
      · refine ⟨noThing, false, ?_, ?_⟩
        · rw [if_neg]
          intro e
          exact hl (by have := e.2; rw [head_ge this] at this; exact this)
        · simp only [if_neg hl]; rfl
    | _ => exact ⟨noThing, false, hn (by simp), rfl⟩
end
section
set_option linter.unusedVariables false
set_option synthInstance.maxSize 20000
open Classical
open Go.RowKit Go.Maps
structure At (W w : World) (b : Nat) (ft : List Nat) (S : St) : Prop where
  rep : Rep w b ft S
  new : ∀ k ∈ ft, W.heap.size ≤ k
  bel : Below W.heap.size W w
theorem At.below {W w w' : World} {b : Nat} {ft : List Nat} {S : St} (h : At W w b ft S) (hb : Below w.heap.size w w') : At W w' b ft S := ⟨h.rep.below hb, h.new, bnext h.bel hb⟩
theorem At.turn {W w w' : World} {b : Nat} {ft X : List Nat} {S : St} (h : At W w b ft S) (ht : Turn X w w') (hX : ∀ k ∈ ft, k ∉ X) (hn : ∀ k ∈ X, W.heap.size ≤ k) : At W w' b ft S := ⟨h.rep.turn ht hX, h.new, h.bel.trans (ht.below h.bel.size hn)⟩
theorem At.left {W w w' : World} {b : Nat} {ft : List Nat} {S S' : St} (h : At W w b ft S) (hl : Left w b ft S' w') : ∃ ft', At W w' b ft' S' ∧ Of ft w ft' ∧ Turn ft w w' := by
  obtain ⟨⟨ft', r, o⟩, t⟩ := hl
  exact ⟨ft', ⟨r, fun k hk => by
    rcases o k hk with e | e
    · exact h.new k e
    · exact Nat.le_trans h.bel.size e, h.bel.trans (t.below h.bel.size h.new)⟩, o, t⟩
theorem At.leftB {W w w' : World} {b : Nat} {ft : List Nat} {S S' : St} {v : Value} {l : List Int} (h : At W w b ft S) (hl : LeftB w b ft S' w' v l) : ∃ ft', At W w' b ft' S' ∧ Rd w' v l ∧ Out ft' v ∧ Of ft w ft' ∧ Turn ft w w' ∧ ∀ k, v.ownBlock = some k → w.heap.size ≤ k ∧ k < w'.heap.size := by
  obtain ⟨rd, ⟨ft', r, o, q⟩, t, n⟩ := hl
  exact ⟨ft', ⟨r, fun k hk => by
    rcases o k hk with e | e
    · exact h.new k e
    · exact Nat.le_trans h.bel.size e, h.bel.trans (t.below h.bel.size h.new)⟩, rd, q, o, t, n⟩
theorem At.rd {W w : World} {b : Nat} {ft : List Nat} {S : St} (h : At W w b ft S) {v : Value} {l : List Int} (hv : Rd W v l) : Rd w v l := hv.below h.bel
theorem rdU_row (w : World) (l : List Int) (e : TypeId) (m : Nat × Nat) (hU : ∀ x ∈ l, U64 x) (hl : l.length ≤ maxLen) : RdU (w.alloc (.cells (csU l).toArray e m)) (.slice (some ⟨w.heap.size, 0, none⟩) l.length l.length) l := by
  refine ⟨hU, some ⟨w.heap.size, 0, none⟩, l.length, rfl, Nat.le_refl _, hl, (fun h => by cases h), fun _ => ⟨w.heap.size, 0, rfl, fun j hj => ?_⟩⟩
  have hh : (w.alloc (.cells (csU l).toArray e m)).heap[w.heap.size]? = some (.cells (csU l).toArray e m) := by
    show (w.heap.push _)[w.heap.size]? = _
    simp
  unfold World.cell?
  simp only [hh, Nat.zero_add]
  simpa using csU_at l j hj
end
end Go.Proofs.YtjbpfhnagiacmaaGreat
