/-
  The oracle's methods, each by what the oracle by lists answers: Used, Key, Pair, Hash, Sign.
-/
import Derived.Test.YtiebbglknmcnpaaNew
namespace Go.Proofs.Ytiebbglknmcnpaa
set_option linter.unusedVariables false
set_option synthInstance.maxSize 20000
open Classical
open Go.RowKit Go.Maps

/-- What a call leaves: the oracle stands for S', and has written its own blocks alone. -/
def Left (w : World) (b : Nat) (ft : List Nat) (S' : St) (w' : World) : Prop := (∃ ft', Rep w' b ft' S' ∧ Of ft w ft') ∧ Turn ft w w'

theorem Left.same {w w' : World} {b : Nat} {ft : List Nat} {S : St} (h : Rep w b ft S) (hb : Below w.heap.size w w') : Left w b ft S w' := ⟨⟨ft, h.below hb, Of.refl _ _⟩, Turn.of_below hb⟩
theorem Left.trans {w w1 w2 : World} {b : Nat} {ft ft1 : List Nat} {S1 S2 : St} (ho : Of ft w ft1) (ht : Turn ft w w1) (h2 : Left w1 b ft1 S2 w2) : Left w b ft S2 w2 := by
  obtain ⟨⟨ft2, h, hof⟩, ht2⟩ := h2
  exact ⟨⟨ft2, h, ho.trans hof ht.size⟩, ht.trans ht2 ho⟩
theorem Left.after {w w1 w2 : World} {b : Nat} {ft : List Nat} {S : St} (h : Left w1 b ft S w2) (hb : Below w.heap.size w w1) : Left w b ft S w2 := Left.trans (S1 := S) (fun k hk => .inl hk) (Turn.of_below hb) h
theorem Left.drew {w w' : World} {b : Nat} {ft : List Nat} {S : St} (h : Left w b ft S w') : Left w b ft S w'.drew := by
  obtain ⟨⟨ft', r, o⟩, t⟩ := h
  exact ⟨⟨ft', r.turn (X := []) ((Turn.refl [] w').drew) (fun _ _ h => by cases h), o⟩, t.drew⟩
theorem Left.undrew {w w' : World} {b : Nat} {ft : List Nat} {S : St} (h : Left w.drew b ft S w') : Left w b ft S w' := by
  obtain ⟨⟨ft', r, o⟩, t⟩ := h
  exact ⟨⟨ft', r, o⟩, t.undrew⟩
theorem Left.below {w w1 w2 : World} {b : Nat} {ft : List Nat} {S : St} (h : Left w b ft S w1) (hb : Below w1.heap.size w1 w2) : Left w b ft S w2 := by
  obtain ⟨⟨ft', r, o⟩, t⟩ := h
  exact ⟨⟨ft', r.below hb, o⟩, t.same (Turn.of_below hb)⟩

section
variable {P : Program} {w : World} {ops : Array Oper} {rest : List Oper} {o : Oper} {a : Act} {Q : Exit → Act → World → Prop}
/-- 'len(m)'. -/
theorem wpList_mlen (hg : o.guard = none) (m : Operand) (t : TypeId) (hop : o.op = Op.call { callee := Callee.builtin Builtin.len, args := #[m], argTypes := #[t] }) (v : Value) (n : Nat) (hm : a.eval m = v)
    (hrun : ∀ ty, (Builtin.len_ #[t] ty #[v]).run P w = .ok (.int .i64 n) w) (hK : wpList P ops Q rest (a.put o.dst (.int .i64 n)) w) : wpList P ops Q (o :: rest) a w := by
  refine wpList_plain hg fun K' hK' => ?_
  unfold Oper.wp
  simp [execOp, hop, resolve, invoke, builtin, hm, hrun o.type, Result.andThen]
  exact hK' _ _ hK
end

/-- A row put by the program's put. -/
theorem put_row (w : World) (b : Nat) (ft : List Nat) (S : St) (h : Rep w b ft S) (hN : S.rows.length + 1 < 1000000000) (x : What) (hx : WhatOk x) (hh : ∀ l, x ≠ .hash l) (hs : ∀ s l, x ≠ .sig s l) (v : Value) (hv : v = thingVal (thingOf x)) :
    Calls Try.prog 26 #[ptr b, v] w fun e w' => e = .returned (.int .u64 S.fresh) ∧ Left w b ft (S.put x) w' := by
  subst hv
  obtain ⟨T, dv, m1, m2, m3, hi, st⟩ := h
  refine (put_any w b ft T dv m1 m2 m3 (thingOf x) hi st.full (by rw [st.us, us_length]; exact hN) (by rw [st.draws]; exact st.good.draws)).mono ?_
  rintro e w' ⟨rfl, ⟨ft', dv', n, b1, b2, b3, h1, hf, hof, _⟩, ht⟩
  rw [st.fresh]
  exact ⟨rfl, ⟨ft', ⟨_, _, _, _, _, h1, st.puts (by omega) hx hh hs hf⟩, hof⟩, ht⟩

set_option maxRecDepth 20000 in
theorem pair_any (w : World) (b : Nat) (ft : List Nat) (S : St) (h : Rep w b ft S) (hN : S.rows.length + 2 < 1000000000) :
    Calls Try.prog 10 #[ptr b] w fun e w' => e = .returned (.tuple #[.int .u64 S.fresh, .int .u64 (S.put .secret).fresh]) ∧ Left w b ft ((S.put .secret).put (.pub S.fresh)) w' := by
  have hU := (fresh_ok h.good (by omega)).2.2.1
  go_enter Try.func10, Try.ntmps10
  go_wp2_with (go_at_call 26; go_must (first
    | (refine (put_row w b ft S h (by omega) .secret trivial (by simp) (by simp) _ rfl).mono ?_; rintro e w1 ⟨rfl, ⟨ft1, h1, hof1⟩, ht1⟩; clear h)
    | (refine (put_row w1 b ft1 (S.put .secret) h1 (by simp [St.put]; omega) (.pub S.fresh) hU (by simp) (by simp) _ rfl).mono ?_; rintro e w2 ⟨rfl, hl2⟩)))
  go_ret2
  exact ⟨rfl, Left.trans (S1 := S) hof1 ht1 hl2⟩

theorem handle_hash (w : World) (b : Nat) (ft : List Nat) (S : St) (T : Tab) (dv : Value) (b1 b2 b3 : Nat) (h : IsO w b ft T dv (.map (some b1)) (.map (some b2)) (.map (some b3))) (st : Stand T S) (hN : S.rows.length + 1 < 1000000000) (l : List Int) (ho : Oct l) (hl : l.length ≤ 1000000) :
    Calls Try.prog 51 #[.map (some b2), .string (strOfNums l), .func (.func 49) #[ptr b] #[]] w fun e w' => e = .returned (.int .u64 (S.get (.hash l)).1) ∧ Left w b ft (S.get (.hash l)).2 w' := by
  unfold St.get
  cases hof : S.of (.hash l) with
  | none =>
    refine (handleOf_h w b ft T dv b1 b2 b3 h st.full (by rw [st.us, us_length]; exact hN) l ho hl ((st.hashes l ho).trans hof)).mono ?_
    rintro e w' ⟨rfl, ⟨dv', n, h1, hf⟩, ht⟩
    rw [st.fresh]
    exact ⟨rfl, ⟨ft, ⟨_, _, _, _, _, h1, st.hashed (by omega) ho hof hf⟩, Of.refl _ _⟩, ht⟩
  | some g =>
    refine (handleOf_h0 w b ft T dv b1 b2 b3 h l ho hl g ((st.hashes l ho).trans hof) _).mono ?_
    rintro e w' ⟨rfl, hb⟩
    exact ⟨rfl, ⟨ft, ⟨_, _, _, _, _, h.below hb, st⟩, Of.refl _ _⟩, Turn.of_below hb⟩
theorem handle_sig (w : World) (b : Nat) (ft : List Nat) (S : St) (T : Tab) (dv : Value) (b1 b2 b3 : Nat) (h : IsO w b ft T dv (.map (some b1)) (.map (some b2)) (.map (some b3))) (st : Stand T S) (hN : S.rows.length + 1 < 1000000000) (s : Int) (hs : U64 s) (l : List Int) (ho : Oct l) (hl : l.length ≤ 900000) :
    Calls Try.prog 51 #[.map (some b3), .string (strOfNums (be8 s ++ l)), .func (.func 49) #[ptr b] #[]] w fun e w' => e = .returned (.int .u64 (S.get (.sig s l)).1) ∧ Left w b ft (S.get (.sig s l)).2 w' := by
  have hlen : (be8 s ++ l).length ≤ 1000000 := by rw [List.length_append, be8_length]; omega
  unfold St.get
  cases hof : S.of (.sig s l) with
  | none =>
    refine (handleOf_s w b ft T dv b1 b2 b3 h st.full (by rw [st.us, us_length]; exact hN) (be8 s ++ l) ((be8_oct s).append ho) hlen ((st.signed s l hs ho).trans hof)).mono ?_
    rintro e w' ⟨rfl, ⟨dv', n, h1, hf⟩, ht⟩
    rw [st.fresh]
    exact ⟨rfl, ⟨ft, ⟨_, _, _, _, _, h1, st.signs (by omega) hs ho hof hf⟩, Of.refl _ _⟩, ht⟩
  | some g =>
    refine (handleOf_s0 w b ft T dv b1 b2 b3 h (be8 s ++ l) ((be8_oct s).append ho) hlen g ((st.signed s l hs ho).trans hof) _).mono ?_
    rintro e w' ⟨rfl, hb⟩
    exact ⟨rfl, ⟨ft, ⟨_, _, _, _, _, h.below hb, st⟩, Of.refl _ _⟩, Turn.of_below hb⟩

set_option maxHeartbeats 1000000 in
set_option maxRecDepth 20000 in
theorem hash_any (w : World) (b : Nat) (ft : List Nat) (S : St) (h : Rep w b ft S) (hN : S.rows.length + 1 < 1000000000) (v : Value) (l : List Int) (hv : Rd w v l) (hl : l.length ≤ 1000000) (hout : Out ft v) :
    Calls Try.prog 28 #[ptr b, v] w fun e w' => e = .returned (.int .u64 (S.get (.hash l)).1) ∧ Left w b ft (S.get (.hash l)).2 w' := by
  obtain ⟨T, dv, m1, m2, m3, hi, st⟩ := h
  have ho := hv.oct
  have HS : Hid (Stand T S) := st
  have HV : Hid (Rd w v l) := hv
  have HI : Hid (IsO w b ft T dv m1 m2 m3) := hi
  have hmf : ∀ (fn : Fn) (first cap : Array Value) (w : World), (Instr.makeFunc fn first cap).run Try.prog w = .ok (.func fn first cap) w := fun _ _ _ _ => rfl
  clear hi st hv
  go_enter Try.func28, Try.ntmps28
  go_wp2_with (go_at_call 48; go_must (refine (ready_any _ b ft T dv m1 m2 m3 HI.out).mono ?_; rintro e w1 ⟨rfl, ⟨ft1, b1, b2, b3, h1, hof1, hsub1⟩, ht1⟩))
  have c3 := h1.blk.cell 3 _ rfl
  have ht1' : Turn ft w w1 := ht1.widen (ft' := ft) (fun k hk => by simp at hk; rw [hk]; exact HI.out.foot)
  have hv1 : Rd w1 v l := HV.out.turn ht1' hout
  have q1 := toStr w1.drew v l hv1.drew
  have q2 := toStr w1.drew.drew v l hv1.drew.drew
  have HI1 : Hid (IsO w1 b ft1 T dv (.map (some b1)) (.map (some b2)) (.map (some b3))) := h1
  clear h1 ht1
  go_region_with (go_at_call 51; go_must (refine (handle_hash _ b ft1 S T dv b1 b2 b3 HI1.out.drew HS.out hN l ho hl).mono ?_; rintro e w2 ⟨rfl, hl2⟩))
  all_goals go_wp2
  all_goals go_ret
  all_goals exact ⟨rfl, Left.trans (S1 := S) hof1 ht1' (by first | exact hl2.undrew | exact hl2.undrew.drew)⟩
theorem hash_nil (w : World) (v : Value) : Calls Try.prog 28 #[.pointer none, v] w fun e w' => e = .returned (.int .u64 0) ∧ w' = w := by
  go_enter Try.func28, Try.ntmps28
  go_wp2
  go_ret
  exact ⟨rfl, rfl⟩
end Go.Proofs.Ytiebbglknmcnpaa
