/-
  A new oracle.
  The oracle's methods, each by what the oracle by lists answers: Used, Key, Pair, Hash, Sign.
-/
import Derived.Test.YteedjdflojfhmaaRep
namespace Go.Proofs.Yteedjdflojfhmaa
section
set_option linter.unusedVariables false
set_option synthInstance.maxSize 20000
open Classical
open Go.RowKit Go.Maps

theorem info37 : (Try.prog.info? 32).map (fun i => (i.zero, i.size, i.bytes)) = some (some (.int .u64 0), 1, 8) := by kernel_rfl
def csU (l : List Int) : List Value := l.map (Value.int .u64)

theorem csU_at (l : List Int) (j : Nat) (h : j < l.length) : (csU l)[j]? = some (.int .u64 (l.getD j 0)) := by simp [csU, h]
theorem csU_some {l : List Int} {j : Nat} {u : Value} (h : (csU l)[j]? = some u) : j < l.length ∧ u = .int .u64 (l.getD j 0) := by
  have hj : j < l.length := by have := (List.getElem?_eq_some_iff.1 h).1; simpa [csU] using this
  rw [csU_at l j hj] at h
  exact ⟨hj, (Option.some.inj h).symm⟩
theorem ownU_rd {B : Nat} {e : TypeId} {w : World} {v : Value} {l : List Int} (h : w.ownsRow B e 1 v l.length (csU l)) (hU : ∀ x ∈ l, U64 x) : RdU w v l ∧ ∀ k, v.ownBlock = some k → B ≤ k ∧ k < w.heap.size := by
  refine ⟨⟨hU, ?_⟩, fun k hk => h.lt k hk⟩
  obtain ⟨h1, h2⟩ := h
  rcases h2 with ⟨rfl, hn⟩ | ⟨g, cap, cur, rfl, hb, hg, hn, hc, hs, ht⟩
  · have : l = [] := List.eq_nil_of_length_eq_zero hn
    subst this
    exact ⟨none, 0, rfl, Nat.le_refl _, Nat.zero_le _, fun _ => rfl, fun h => by simp at h⟩
  · refine ⟨some ⟨g, 0, none⟩, cap, rfl, hn, hc, (fun h => by cases h), fun _ => ⟨g, 0, rfl, fun j hj => ?_⟩⟩
    have := World.ownsRow.cells (w := w) (base := B) (e := e) (size := 1) (v := .slice (some ⟨g, 0, none⟩) l.length cap) (n := l.length) (xs := csU l) ⟨h1, .inr ⟨g, cap, cur, rfl, hb, hg, hn, hc, hs, ht⟩⟩ (g := g) rfl j _ (csU_at l j hj)
    rw [Addr.add_lit] at this
    exact this

theorem eql_slice (t e : TypeId) (hu : Try.prog.underlying t = some (.slice e)) (w : World) (a : Option Addr) (n c : Nat) : (binOp .eql t (.slice a n c) (.slice none 0 0)).run Try.prog w = .ok (.bool a.isNone) w := by
  have key : ∀ d, (Op.equalIn (d + 1) t (.slice a n c) (.slice none 0 0)).run Try.prog w = .ok a.isNone w := fun d => by
    cases a <;> simp [Op.equalIn, run_underlying hu, Result.andThen]
  have e1 : (binOp .eql t (.slice a n c) (.slice none 0 0)).run Try.prog w = ((Op.equalIn (9999 + 1) t (.slice a n c) (.slice none 0 0)).run Try.prog w).andThen fun b w' => .ok (.bool b) w' := by
    simp only [binOp]
    simp [Op.equal, Op.maxDepth]
  rw [e1, key]
  rfl

set_option maxRecDepth 20000 in
theorem clone_any (v : Value) (l : List Int) (w : World) (hv : RdU w v l) (hl : l.length ≤ 1000000) :
    Calls Try.prog 36 #[v] w fun e w' => ∃ v', e = .returned v' ∧ RdU w' v' l ∧ Below w.heap.size w w' ∧ ∀ k, v'.ownBlock = some k → w.heap.size ≤ k ∧ k < w'.heap.size := by
  have HV : Hid (RdU w v l) := hv
  obtain ⟨hU, a, cap, rfl, h1, h2, h3, h4⟩ := hv
  obtain ⟨i0, hi, hz0, hz1, hz2⟩ := info_parts info37
  cases a with
  | none =>
    have hc := h3 rfl
    subst hc
    have hl0 : l = [] := List.eq_nil_of_length_eq_zero (by omega)
    subst hl0
    have hq := eql_slice 22 32 (by kernel_rfl) w none 0 0
    go_enter Try.func36, Try.ntmps36
    go_wp2
    go_ret
    exact ⟨_, rfl, rdU_nil w, Below.refl _ _, fun k hk => by cases hk⟩
  | some ad =>
    have hq := eql_slice 22 32 (by kernel_rfl) w (some ad) l.length cap
    have HO : Hid ((w.alloc (.cells #[] 32)).ownsRow w.heap.size 32 1 (.slice (some ⟨w.heap.size, 0, none⟩) 0 0) 0 []) :=
      ⟨rfl, .inr ⟨w.heap.size, 0, #[], rfl, Nat.le_refl _, heap_alloc_new w _, Nat.le_refl _, Nat.zero_le _, rfl, rfl⟩⟩
    have HC : Hid (∀ j u, (csU l)[j]? = some u → (w.alloc (.cells #[] 32)).cell? (ad.add j) = some u) := fun j u hu => by
      obtain ⟨hj, rfl⟩ := csU_some hu
      obtain ⟨bb, off, e, hc⟩ := h4 (by omega)
      cases e
      rw [Addr.add_lit]
      exact (World.grownBy_alloc w (.cells #[] 32) none).cell (hc j hj) (by simp)
    have HU : Hid (∀ x ∈ l, U64 x) := hU
    clear h3 h4 hU
    go_enter Try.func36, Try.ntmps36
    go_wp2_with (at_builtin; refine wpList_append_own _ rfl _ _ 22 rfl w.heap.size 32 i0 (.int .u64 0) 1 8 (by kernel_rfl) hi hz0 hz1 hz2 rfl (by decide) _ 0 [] rfl HO.out ad l.length cap (csU l) rfl (by simp [csU]) HC.out (ints_oneCell .u64 l) (by unfold maxLen; omega) (by omega) (by simp) ?_; intro v' w1 ho1 hg1 hnil1)
    go_ret
    have ho2 : w1.ownsRow w.heap.size 32 1 v' l.length (csU l) := by simpa using ho1
    obtain ⟨r1, r2⟩ := ownU_rd ho2 HU.out
    exact ⟨_, rfl, r1, bgrown (balloc (Below.refl _ w) _) (Nat.le_refl _) hg1, r2⟩

set_option maxRecDepth 20000 in
theorem new_any (v : Value) (l : List Int) (w : World) (hv : RdU w v l) (hl : l.length ≤ 1000000) :
    Calls Try.prog 11 #[v] w fun e w' => ∃ b, e = .returned (ptr b) ∧ (∃ ft, Rep w' b ft ⟨l, []⟩ ∧ ∀ k ∈ ft, w.heap.size ≤ k) ∧ Below w.heap.size w w' := by
  have hU := hv.1
  go_enter Try.func11, Try.ntmps11
  go_wp2_with (go_at_call 36; go_must (refine (clone_any v l w hv hl).mono ?_; rintro e w1 ⟨v1, rfl, hr1, hb1, ho1⟩; have HR : Hid (RdU w1 v1 l) := hr1; obtain ⟨_, a1, c1, rfl, _⟩ := hr1))
  go_ret
  have hro : ∀ k, (a1.map Addr.block) = some k ↔ (Value.slice a1 l.length c1).ownBlock = some k := fun k => by cases a1 <;> simp [Value.ownBlock]
  refine ⟨w1.heap.size, rfl, ⟨w1.heap.size :: (a1.map Addr.block).toList, ⟨⟨l, 0, [], fun _ => none, fun _ => none, fun _ => none⟩, .slice a1 l.length c1, .map none, .map none, .map none, ⟨heap_alloc_new w1 _, by simp, ?_, fun k hk => ?_, by simp, by simp, by simp, ?_, fun k hk => ?_⟩, ?_⟩, fun k hk => ?_⟩, balloc hb1 _⟩
  · exact HR.out.turn (ft := []) (Turn.of_below ((Below.refl _ _).alloc (Nat.le_refl _) _)) (fun k _ h => by cases h)
  · have := ho1 k hk
    refine ⟨by simp [(hro k).2 hk], by omega, by simp, by simp, by simp⟩
  · exact .inl ⟨rfl, rfl, rfl, rfl, fun _ => rfl, fun _ => rfl⟩
  · simp only [List.mem_cons, Option.mem_toList] at hk
    rcases hk with rfl | hk
    · simp
    · have := ho1 k ((hro k).1 hk)
      simp
      omega
  · refine ⟨fun i h1 h2 => ?_, ⟨hU, by simp, by simp [St.us]⟩, rfl, rfl, fun _ => rfl, fun _ _ => rfl, fun _ _ _ _ => rfl⟩
    simp at h2
    omega
  · simp only [List.mem_cons, Option.mem_toList] at hk
    rcases hk with rfl | hk
    · exact hb1.size
    · exact (ho1 k ((hro k).1 hk)).1
end

section
set_option linter.unusedVariables false
set_option synthInstance.maxSize 20000
open Classical
open Go.RowKit Go.Maps

/-- What a call leaves: the oracle stands for S', and has written its own blocks alone. -/
def Left (w : World) (b : Nat) (ft : List Nat) (S' : St) (w' : World) : Prop := (∃ ft', Rep w' b ft' S' ∧ Of ft w ft') ∧ Turn ft w w'

theorem Left.same {w w' : World} {b : Nat} {ft : List Nat} {S : St} (h : Rep w b ft S) (hb : Below w.heap.size w w') : Left w b ft S w' := ⟨⟨ft, h.below hb, Of.refl _ _⟩, Turn.of_below hb⟩
theorem Left.trans {w w1 w2 : World} {b : Nat} {ft ft1 : List Nat} {S1 S2 : St} (ho : Of ft w ft1) (ht : Turn ft w w1) (h2 : Left w1 b ft1 S2 w2) : Left w b ft S2 w2 := by
  obtain ⟨⟨ft2, h, hof⟩, ht2⟩ := h2
  exact ⟨⟨ft2, h, ho.trans hof ht.size⟩, ht.trans ht2 ho⟩
theorem Left.after {w w1 w2 : World} {b : Nat} {ft : List Nat} {S : St} (h : Left w1 b ft S w2) (hb : Below w.heap.size w w1) : Left w b ft S w2 := Left.trans (S1 := S) (fun k hk => .inl hk) (Turn.of_below hb) h
theorem Left.drew {w w' : World} {b : Nat} {ft : List Nat} {S : St} (h : Left w b ft S w') : Left w b ft S w'.drew := by
  obtain ⟨⟨ft', r, o⟩, t⟩ := h
  exact ⟨⟨ft', r.turn (X := []) ((Turn.refl [] w').drew) (fun _ _ h => by cases h), o⟩, t.drew⟩
theorem Left.undrew {w w' : World} {b : Nat} {ft : List Nat} {S : St} (h : Left w.drew b ft S w') : Left w b ft S w' := by
  obtain ⟨⟨ft', r, o⟩, t⟩ := h
  exact ⟨⟨ft', r, o⟩, t.undrew⟩
theorem Left.below {w w1 w2 : World} {b : Nat} {ft : List Nat} {S : St} (h : Left w b ft S w1) (hb : Below w1.heap.size w1 w2) : Left w b ft S w2 := by
  obtain ⟨⟨ft', r, o⟩, t⟩ := h
  exact ⟨⟨ft', r.below hb, o⟩, t.same (Turn.of_below hb)⟩

section
variable {P : Program} {w : World} {ops : Array Oper} {rest : List Oper} {o : Oper} {a : Act} {Q : Exit → Act → World → Prop}
/-- 'len(m)'. -/
theorem wpList_mlen (hg : o.guard = none) (m : Operand) (t : TypeId) (hop : o.op = Op.call { callee := Callee.builtin Builtin.len, args := #[m], argTypes := #[t] }) (v : Value) (n : Nat) (hm : a.eval m = v)
    (hrun : ∀ ty, (Builtin.len_ #[t] ty #[v]).run P w = .ok (.int .i64 n) w) (hK : wpList P ops Q rest (a.put o.dst (.int .i64 n)) w) : wpList P ops Q (o :: rest) a w := by
  refine wpList_plain hg fun K' hK' => ?_
  unfold Oper.wp
  simp [execOp, hop, resolve, invoke, builtin, hm, hrun o.type, Result.andThen]
  exact hK' _ _ hK
end

/-- A row put by the program's put. -/
theorem put_row (w : World) (b : Nat) (ft : List Nat) (S : St) (h : Rep w b ft S) (hN : S.rows.length + 1 < 1000000000) (x : What) (hx : WhatOk x) (hh : ∀ l, x ≠ .hash l) (hs : ∀ s l, x ≠ .sig s l) (v : Value) (hv : v = thingVal (thingOf x)) :
    Calls Try.prog 37 #[ptr b, v] w fun e w' => e = .returned (.int .u64 S.fresh) ∧ Left w b ft (S.put x) w' := by
  subst hv
  obtain ⟨T, dv, m1, m2, m3, hi, st⟩ := h
  refine (put_any w b ft T dv m1 m2 m3 (thingOf x) hi st.full (by rw [st.us, us_length]; exact hN) (by rw [st.draws]; exact st.good.draws)).mono ?_
  rintro e w' ⟨rfl, ⟨ft', dv', n, b1, b2, b3, h1, hf, hof, _⟩, ht⟩
  rw [st.fresh]
  exact ⟨rfl, ⟨ft', ⟨_, _, _, _, _, h1, st.puts (by omega) hx hh hs hf⟩, hof⟩, ht⟩

set_option maxRecDepth 20000 in
theorem pair_any (w : World) (b : Nat) (ft : List Nat) (S : St) (h : Rep w b ft S) (hN : S.rows.length + 2 < 1000000000) :
    Calls Try.prog 12 #[ptr b] w fun e w' => e = .returned (.tuple #[.int .u64 S.fresh, .int .u64 (S.put .secret).fresh]) ∧ Left w b ft ((S.put .secret).put (.pub S.fresh)) w' := by
  have hU := (fresh_ok h.good (by omega)).2.2.1
  go_enter Try.func12, Try.ntmps12
  go_wp2_with (go_at_call 37; go_must (first
    | (refine (put_row w b ft S h (by omega) .secret trivial (by simp) (by simp) _ rfl).mono ?_; rintro e w1 ⟨rfl, ⟨ft1, h1, hof1⟩, ht1⟩; clear h)
    | (refine (put_row w1 b ft1 (S.put .secret) h1 (by simp [St.put]; omega) (.pub S.fresh) hU (by simp) (by simp) _ rfl).mono ?_; rintro e w2 ⟨rfl, hl2⟩)))
  go_ret2
  exact ⟨rfl, Left.trans (S1 := S) hof1 ht1 hl2⟩

theorem handle_hash (w : World) (b : Nat) (ft : List Nat) (S : St) (T : Tab) (dv : Value) (b1 b2 b3 : Nat) (h : IsO w b ft T dv (.map (some b1)) (.map (some b2)) (.map (some b3))) (st : Stand T S) (hN : S.rows.length + 1 < 1000000000) (l : List Int) (ho : Oct l) (hl : l.length ≤ 1000000) :
    Calls Try.prog 84 #[.map (some b2), .string (strOfNums l), .func (.func 58) #[ptr b] #[]] w fun e w' => e = .returned (.int .u64 (S.get (.hash l)).1) ∧ Left w b ft (S.get (.hash l)).2 w' := by
  unfold St.get
  cases hof : S.of (.hash l) with
  | none =>
    refine (handleOf_h w b ft T dv b1 b2 b3 h st.full (by rw [st.us, us_length]; exact hN) l ho hl ((st.hashes l ho).trans hof)).mono ?_
    rintro e w' ⟨rfl, ⟨dv', n, h1, hf⟩, ht⟩
    rw [st.fresh]
    exact ⟨rfl, ⟨ft, ⟨_, _, _, _, _, h1, st.hashed (by omega) ho hof hf⟩, Of.refl _ _⟩, ht⟩
  | some g =>
    refine (handleOf_h0 w b ft T dv b1 b2 b3 h l ho hl g ((st.hashes l ho).trans hof) _).mono ?_
    rintro e w' ⟨rfl, hb⟩
    exact ⟨rfl, ⟨ft, ⟨_, _, _, _, _, h.below hb, st⟩, Of.refl _ _⟩, Turn.of_below hb⟩
theorem handle_sig (w : World) (b : Nat) (ft : List Nat) (S : St) (T : Tab) (dv : Value) (b1 b2 b3 : Nat) (h : IsO w b ft T dv (.map (some b1)) (.map (some b2)) (.map (some b3))) (st : Stand T S) (hN : S.rows.length + 1 < 1000000000) (s : Int) (hs : U64 s) (l : List Int) (ho : Oct l) (hl : l.length ≤ 900000) :
    Calls Try.prog 84 #[.map (some b3), .string (strOfNums (be8 s ++ l)), .func (.func 58) #[ptr b] #[]] w fun e w' => e = .returned (.int .u64 (S.get (.sig s l)).1) ∧ Left w b ft (S.get (.sig s l)).2 w' := by
  have hlen : (be8 s ++ l).length ≤ 1000000 := by rw [List.length_append, be8_length]; omega
  unfold St.get
  cases hof : S.of (.sig s l) with
  | none =>
    refine (handleOf_s w b ft T dv b1 b2 b3 h st.full (by rw [st.us, us_length]; exact hN) (be8 s ++ l) ((be8_oct s).append ho) hlen ((st.signed s l hs ho).trans hof)).mono ?_
    rintro e w' ⟨rfl, ⟨dv', n, h1, hf⟩, ht⟩
    rw [st.fresh]
    exact ⟨rfl, ⟨ft, ⟨_, _, _, _, _, h1, st.signs (by omega) hs ho hof hf⟩, Of.refl _ _⟩, ht⟩
  | some g =>
    refine (handleOf_s0 w b ft T dv b1 b2 b3 h (be8 s ++ l) ((be8_oct s).append ho) hlen g ((st.signed s l hs ho).trans hof) _).mono ?_
    rintro e w' ⟨rfl, hb⟩
    exact ⟨rfl, ⟨ft, ⟨_, _, _, _, _, h.below hb, st⟩, Of.refl _ _⟩, Turn.of_below hb⟩

set_option maxHeartbeats 1000000 in
set_option maxRecDepth 20000 in
theorem hash_any (w : World) (b : Nat) (ft : List Nat) (S : St) (h : Rep w b ft S) (hN : S.rows.length + 1 < 1000000000) (v : Value) (l : List Int) (hv : Rd w v l) (hl : l.length ≤ 1000000) (hout : Out ft v) :
    Calls Try.prog 87 #[ptr b, v] w fun e w' => e = .returned (.int .u64 (S.get (.hash l)).1) ∧ Left w b ft (S.get (.hash l)).2 w' := by
  obtain ⟨T, dv, m1, m2, m3, hi, st⟩ := h
  have ho := hv.oct
  have HS : Hid (Stand T S) := st
  have HV : Hid (Rd w v l) := hv
  have HI : Hid (IsO w b ft T dv m1 m2 m3) := hi
  have hmf : ∀ (fn : Fn) (first cap : Array Value) (w : World), (Instr.makeFunc fn first cap).run Try.prog w = .ok (.func fn first cap) w := fun _ _ _ _ => rfl
  clear hi st hv
  go_enter Try.func87, Try.ntmps87
  go_wp2_with (go_at_call 57; go_must (refine (ready_any _ b ft T dv m1 m2 m3 HI.out).mono ?_; rintro e w1 ⟨rfl, ⟨ft1, b1, b2, b3, h1, hof1, hsub1⟩, ht1⟩))
  have c3 := h1.blk.cell 3 _ rfl
  have ht1' : Turn ft w w1 := ht1.widen (ft' := ft) (fun k hk => by simp at hk; rw [hk]; exact HI.out.foot)
  have hv1 : Rd w1 v l := HV.out.turn ht1' hout
  have q1 := toStr w1.drew v l hv1.drew
  have q2 := toStr w1.drew.drew v l hv1.drew.drew
  have HI1 : Hid (IsO w1 b ft1 T dv (.map (some b1)) (.map (some b2)) (.map (some b3))) := h1
  clear h1 ht1
  go_region_with (go_at_call 84; go_must (refine (handle_hash _ b ft1 S T dv b1 b2 b3 HI1.out.drew HS.out hN l ho hl).mono ?_; rintro e w2 ⟨rfl, hl2⟩))
  all_goals go_wp2
  all_goals go_ret
  all_goals exact ⟨rfl, Left.trans (S1 := S) hof1 ht1' (by first | exact hl2.undrew | exact hl2.undrew.drew)⟩
theorem hash_nil (w : World) (v : Value) : Calls Try.prog 87 #[.pointer none, v] w fun e w' => e = .returned (.int .u64 0) ∧ w' = w := by
  go_enter Try.func87, Try.ntmps87
  go_wp2
  go_ret
  exact ⟨rfl, rfl⟩
end
end Go.Proofs.Yteedjdflojfhmaa
