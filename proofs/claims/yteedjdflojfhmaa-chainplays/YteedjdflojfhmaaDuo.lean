/-
  A second log beside the first one: what issuing and accepting there leaves.
  An entry that is signed anew for a place that is there: what is asked of the logs by lists, and the step in memory.
-/
import Derived.Test.YteedjdflojfhmaaGame
namespace Go.Proofs.Yteedjdflojfhmaa
section
set_option linter.unusedVariables false
set_option linter.unusedSimpArgs false
set_option synthInstance.maxSize 20000
set_option maxHeartbeats 2000000
set_option maxRecDepth 20000
open Go.RowKit Go.Maps

/-- The second log: owner 4. -/
structure Duo (w : World) (o : Nat → Nat) (b lb : Nat) (s p : Int) (S : St) (M : Lg) : Prop where
  log : LogIs w o 4 lb b 1 p M
  whole : Whole S 1 p s M
theorem Duo.mv {I : List Nat} {w w' : World} {o o' : Nat → Nat} {b lb : Nat} {s p : Int} {S S' : St} {M : Lg} (h : Duo w o b lb s p S M) (m : Mv I w o w' o') (h0 : 0 ∉ I) (h4 : 4 ∉ I) (hs : Sub S S') : Duo w' o' b lb s p S' M := ⟨h.log.mv m h0 h4, h.whole.sub hs⟩
theorem Duo.below {w w' : World} {o : Nat → Nat} {b lb : Nat} {s p : Int} {S : St} {M : Lg} (h : Duo w o b lb s p S M) (hb : Below w.heap.size w w') : Duo w' (newTo o w 0) b lb s p S M := h.mv (Mv.of_below (I := []) 0 hb) (by simp) (by simp) (Sub.refl _)

theorem G1.other {w0 w w' : World} {o o' : Nat → Nat} {b la : Nat} {s p : Int} {S S' : St} {L : Lg} (h : G1 w0 w o b la s p S L) (hO : OrcAt w' o' b S') (K : Keyed' S' s p) (hs : Sub S S') (m : Mv [1, 4] w o w' o') : G1 w0 w' o' b la s p S' L :=
  ⟨hO, h.log.mv m (by simp) (by simp), K, h.whole.sub hs, h.mv.trans (m.widen (by simp))⟩

theorem Duo.issue {w0 w : World} {o : Nat → Nat} {b la lb : Nat} {s p : Int} {S : St} {L M : Lg} (h : G1 w0 w o b la s p S L) (d : Duo w o b lb s p S M) (hN : S.rows.length + 2 < 1000000000) {t u n : Int} (ht : I64 t) (hu : I64 u) (hn : I64 n) {l : List Int} {x : Value} (hx : Kp0 w o x l) (hlen : l.length ≤ 90000) :
    Calls Try.prog 19 #[ptr lb, .int .u64 s, .agg #[.int .i64 t, .int .i64 u], .int .i64 n, x] w fun r w' => ∃ e k S' M' y o', r = .returned (.tuple #[ev e y, .int .i64 k]) ∧ Issued S p s M t u n l e k S' M' ∧ Sub S S' ∧ G1 w0 w' o' b la s p S' L ∧ Duo w' o' b lb s p S' M' ∧ Kp0 w' o' y e.b ∧ Mv [1, 4] w o w' o' := by
  have hI := issue_any h.orc d.log (by omega) (by omega) s t u n ht hu hn l x hx hlen h.key.us h.key.sec hN
  obtain ⟨e, k, S', M', h1, h2, h3, h4, h5⟩ := issue_ans h.key d.whole hN ht hu hn hx.1.oct
  rw [h1] at hI
  refine hI.mono ?_
  rintro r w' ⟨y, rfl, o', q1, q2, q3, q4⟩
  exact ⟨e, k, S', M', y, o', rfl, h2, h4, h.other q1 h3 h4 q4, ⟨q2, h5⟩, q3, q4⟩

theorem Duo.accept {w0 w : World} {o : Nat → Nat} {b la lb : Nat} {s p : Int} {S : St} {L M : Lg} (h : G1 w0 w o b la s p S L) (d : Duo w o b lb s p S M) (hN : S.rows.length + 2 < 1000000000) {e : Ent} {x : Value} (he : EOk e) (hx : Kp0 w o x e.b) (hlen : e.b.length ≤ 90000) :
    Calls Try.prog 25 #[ptr lb, ev e x] w fun r w' => ∃ k S' M' o', r = .returned (.int .i64 k) ∧ acceptM S 1 p M e = (k, S', M') ∧ S'.rows.length ≤ S.rows.length + 1 ∧ Sub S S' ∧ G1 w0 w' o' b la s p S' L ∧ Duo w' o' b lb s p S' M' ∧ Mv [1, 4] w o w' o' := by
  have hI := accept_any h.orc d.log (by omega) (by omega) he hx hlen (by omega)
  by_cases hk : checkM S 1 p M e = 0
  · obtain ⟨S', M', h1, h2⟩ := accept_ok h.key d.whole hN he hk
    rw [h1] at hI
    refine hI.mono ?_
    rintro r w' ⟨rfl, o', q1, q2, q3⟩
    exact ⟨0, S', M', o', rfl, h1, h2.len, h2.sub, h.other q1 h2.key h2.sub q3, ⟨q2, h2.whole⟩, q3⟩
  · rw [accept_bad hk] at hI
    refine hI.mono ?_
    rintro r w' ⟨rfl, o', q1, q2, q3⟩
    exact ⟨_, S, M, o', rfl, accept_bad hk, Nat.le_succ _, Sub.refl _, h.other q1 h.key (Sub.refl _) q3, ⟨q2, d.whole⟩, q3⟩

/-- A slice of bools that came in. -/
def RdB (w : World) (v : Value) (l : List Bool) : Prop :=
  ∃ (a : Option Addr) (cap : Nat), v = .slice a l.length cap ∧ l.length ≤ cap ∧ cap ≤ maxLen ∧ (0 < l.length → ∃ b off, a = some ⟨b, off, none⟩ ∧ ∀ j c, l[j]? = some c → w.cell? ⟨b, off + j, none⟩ = some (.bool c))
theorem RdB.at {w : World} {a : Option Addr} {n cap : Nat} {l : List Bool} (h : RdB w (.slice a n cap) l) {j : Nat} {c : Bool} (hj : l[j]? = some c) : ∃ b off, a = some ⟨b, off, none⟩ ∧ ∀ w', Below w.heap.size w w' → w'.cell? ⟨b, off + j, none⟩ = some (.bool c) := by
  obtain ⟨a', cap', e, h1, h2, h4⟩ := h
  obtain ⟨rfl, _, _⟩ : a = a' ∧ n = l.length ∧ cap = cap' := by simpa using e
  have hlt : j < l.length := (List.getElem?_eq_some_iff.1 hj).1
  obtain ⟨b, off, rfl, hc⟩ := h4 (by omega)
  refine ⟨b, off, rfl, fun w' hb => ?_⟩
  have h9 := hc j c hj
  rw [World.cell?_of_block (hb.block b (World.block_lt_of_cell? w _ h9))]
  exact h9
end

section
set_option linter.unusedVariables false
set_option linter.unusedSimpArgs false
set_option synthInstance.maxSize 20000
set_option maxHeartbeats 2000000
set_option maxRecDepth 20000
open Go.RowKit Go.Maps

theorem accept_refused {w : World} {o : Nat → Nat} {j la b : Nat} {S : St} {W p : Int} {L : Lg} {e : Ent} {x : Value} (h : Asks w o j la b S W p L e x) (hj : j ≠ 0) (hk : checkM S W p L e ≠ 0) :
    Calls Try.prog 25 #[ptr la, ev e x] w fun r w' => r = .returned (.int .i64 (checkM S W p L e)) ∧ Below w.heap.size w w' := by
  have CK := fun w' (hb : Below w.heap.size w w') => check_any (S := S) (e := e) (x := x) ⟨h.log.mv (Mv.of_below (I := []) 0 hb) (by simp) (by simp), h.orc.mv (Mv.of_below (I := []) 0 hb) (by simp), h.ok, h.rd.below hb, h.len⟩ hj
  obtain ⟨a, cap, hxx⟩ := h.rd.len
  subst hxx
  clear h
  generalize checkM S W p L e = K at *
  have hk1 : (K != 0) = true := by simpa using hk
  obtain ⟨ew, ei, ep, et, eu, en, eb, eg⟩ := e
  unfold ev at *
  dsimp only at *
  have HCK : Hid (∀ w', Below w.heap.size w w' → Calls Try.prog 23 #[ptr la, .agg #[.int .i64 ew, .int .i64 ei, .int .u64 ep, .int .i64 et, .int .i64 eu, .int .i64 en, .slice a eb.length cap, .int .u64 eg]] w' fun r w'' => r = .returned (.int .i64 K) ∧ Below w'.heap.size w' w'') := CK
  clear CK hk
  go_enter Try.func25, Try.ntmps25
  go_wp2_with (go_at_call 23; go_must (refine (HCK.out _ (balloc (Below.refl _ _) _)).mono ?_; rintro r w2 ⟨rfl, hb2⟩))
  go_ret
  exact ⟨rfl, bnext (balloc (Below.refl _ _) _) hb2⟩

/-- The beginning of a log, up to a places. -/
def begin' (S : St) (L : Lg) (a : Nat) : Lg := ⟨L.es.take a, sumOf S (L.es.take a)⟩
theorem begin_nil (S : St) (a : Nat) : begin' S ⟨[], 0⟩ a = ⟨[], 0⟩ := by
  unfold begin'
  simp [sumOf]
theorem begin_stay {S S' : St} {p s : Int} {L L' : Lg} {e : Ent} {a : Nat} (hs : Sub S S') (hw : Whole S 1 p s L) (he : L'.es = L.es ++ [e]) (ha : a ≤ L.es.length) : begin' S L a = begin' S' L' a := by
  unfold begin'
  rw [he, List.take_append_of_le_length ha, sumOf_sub hs (fun f hf => hw.has (List.mem_of_mem_take hf))]
theorem begin_same {S S' : St} {p s : Int} {L : Lg} {a : Nat} (hs : Sub S S') (hw : Whole S 1 p s L) : begin' S L a = begin' S' L a := by
  unfold begin'
  rw [sumOf_sub hs (fun f hf => hw.has (List.mem_of_mem_take hf))]
theorem begin_next {S S' : St} {p s : Int} {L L' : Lg} {e : Ent} {a : Nat} (hs : Sub S S') (hw : Whole S 1 p s L) (hw' : Whole S' 1 p s L') (he : L'.es = L.es ++ [e]) (ha : L.es.length + 1 ≤ a) : acceptM S' 1 p (begin' S L a) e = (0, S', begin' S' L' a) := by
  have hi : L'.es[L.es.length]? = some e := by rw [he, List.getElem?_append_right (Nat.le_refl _)]; simp
  have := hw'.next hi
  have h1 : L'.es.take L.es.length = L.es := by rw [he, List.take_left]
  have h2 : L'.es.take (L.es.length + 1) = L'.es := List.take_of_length_le (by rw [he]; simp)
  rw [h1, h2] at this
  unfold begin'
  rw [List.take_of_length_le (by omega), List.take_of_length_le (show L'.es.length ≤ a by rw [he]; simp; omega), ← sumOf_sub hs (fun f hf => hw.has hf)]
  exact this

/-- What is issued anew for the place of f. -/
theorem fork_facts {S S' : St} {p s : Int} {L M' : Lg} {n : Nat} {f e : Ent} {k : Int} {l : List Int} (K : Keyed' S s p) (hw : Whole S 1 p s L) (hf : L.es[n]? = some f) (hl : l.length ≤ 1100) (h : Issued S p s (begin' S L n) f.t f.u f.n l e k S' M') (hs : Sub S S') :
    k = 0 ∧ EOk e ∧ e.b = l ∧ e.b.length ≤ 1100 ∧ e.i = n ∧ (l = f.b → checkM S' 1 p L e = 8) ∧ (l ≠ f.b → checkM S' 1 p L e = 9) := by
  obtain ⟨c1, okf, _⟩ := hw.each n f hf
  have z := (check_zero _ _ _ _ _).1 c1
  have hn : (L.es.take n).length = n := by have := (List.getElem?_eq_some_iff.1 hf).1; rw [List.length_take]; omega
  have hc : candE 1 (begin' S L n) f.t f.u f.n l = { f with b := l, g := 0 } := by
    have h1 := z.2.1
    have h2 := z.2.2.2.1
    have h3 := z.2.2.2.2.1
    dsimp only at h2 h3
    unfold candE begin'
    dsimp only
    rw [← h1, ← h2, ← h3]
  have hk : k = 0 := by
    rw [h.kind, hc, issueK_zero]
    have hlen : (begin' S L n).es.length = n := hn
    refine ⟨?_, ?_, ?_⟩
    · have h2 := z.2.2.2.1
      have h3 := z.1.2.1
      dsimp only at h2
      rw [hlen]
      omega
    · exact ⟨z.1.1, z.1.2.1, z.1.2.2.1, z.1.2.2.2.1, z.1.2.2.2.2.1, z.1.2.2.2.2.2.1, hl⟩
    · exact z.2.2.2.2.2
  have hI := h.yes hk
  have hform := hI.form
  rw [hc] at hform
  have hb : e.b = l := by rw [hform]
  have hei : e.i = n := by
    rw [hform]
    show f.i = n
    have h2 := z.2.2.2.1
    dsimp only at h2
    omega
  have hew : e.w = 1 := by rw [hform]; exact z.2.1
  refine ⟨hk, hI.ok, hb, by rw [hb]; exact hl, hei, fun hlf => ?_, fun hlf => ?_⟩
  · have hv := z.2.2.1
    rw [verify_pub K.pub] at hv
    have hsig := hI.sig f.g (by
      rw [hc]
      have : textL { f with b := l, g := 0 } = textL f := by rw [hlf]; rfl
      rw [this]
      exact of_decide_eq_true hv)
    have hef : e = f := by
      rw [hform, hsig, hlf]
    rw [check_there (hw.sub hs) hf hI.right hew hI.ver hei, hef, if_pos ((sameB_iff f f).2 rfl)]
  · rw [check_there (hw.sub hs) hf hI.right hew hI.ver hei, if_neg]
    intro c
    have := (sameB_iff e f).1 c
    rw [this] at hb
    exact hlf hb.symm

structure Step2 (w0 wr : World) (o : Nat → Nat) (b la : Nat) (s p : Int) (S : St) (L M : Lg) (t u n : Int) (l : List Int) (w5 : World) (o5 : Nat → Nat) (n5 : Nat) (e : Ent) (k : Int) (S' : St) (M' : Lg) (y : Value) : Prop where
  iss : Issued S p s M t u n l e k S' M'
  sub : Sub S S'
  g : G1 w0 w5 o5 b la s p S' L
  box : Blk w5 n5 47 (ec e y)
  boxo : o5 n5 = 9
  kp : Kp0 w5 o5 y e.b
  mv : Mv [1, 4, 9] wr o w5 o5
theorem step2_A {w0 wr w4 : World} {o o4 : Nat → Nat} {b la : Nat} {s p : Int} {S S' : St} {L M M' : Lg} {t u n k : Int} {l : List Int} {e : Ent} {y : Value} (h1 : Issued S p s M t u n l e k S' M') (h2 : Sub S S') (h3 : G1 w0 w4 o4 b la s p S' L) (h4 : Kp0 w4 o4 y e.b) (h5 : Mv [1, 4] wr o w4 o4) :
    Step2 w0 wr o b la s p S L M t u n l (w4.alloc (.cells (ec e y).toArray 47)) (newTo o4 w4 9) w4.heap.size e k S' M' y := by
  have m : Mv [] w4 o4 (w4.alloc (.cells (ec e y).toArray 47)) (newTo o4 w4 9) := Mv.of_below 9 (balloc (Below.refl _ _) _)
  exact ⟨h1, h2, h3.mvd m (by simp) (by simp) (by simp) (by simp), blk_new w4 _ 47, newTo_new (Nat.le_refl _), h4.mv m (by simp), (h5.widen (by simp)).trans (m.widen (by simp))⟩
theorem step2_B {w0 wr w4 : World} {o o4 : Nat → Nat} {b la : Nat} {s p : Int} {S S' : St} {L M M' : Lg} {t u n k : Int} {l : List Int} {e : Ent} {y : Value} {ob : Obj} {z0 z1 z2 z3 z4 z5 z6 z7 : Value} (hz : ob = .cells #[z0, z1, z2, z3, z4, z5, z6, z7] 47) (h1 : Issued S p s M t u n l e k S' M') (h2 : Sub S S') (h3 : G1 w0 w4 o4 b la s p S' L) (h4 : Kp0 w4 o4 y e.b) (h5 : Mv [1, 4] (wr.alloc ob) (newTo o wr 9) w4 o4) :
    Blk w4 wr.heap.size 47 [z0, z1, z2, z3, z4, z5, z6, z7] ∧ Step2 w0 wr o b la s p S L M t u n l ((((((((w4.setCell ⟨wr.heap.size, 0, none⟩ (.int .i64 e.w)).setCell ⟨wr.heap.size, 1, none⟩ (.int .i64 e.i)).setCell ⟨wr.heap.size, 2, none⟩ (.int .u64 e.p)).setCell ⟨wr.heap.size, 3, none⟩ (.int .i64 e.t)).setCell ⟨wr.heap.size, 4, none⟩ (.int .i64 e.u)).setCell ⟨wr.heap.size, 5, none⟩ (.int .i64 e.n)).setCell ⟨wr.heap.size, 6, none⟩ y).setCell ⟨wr.heap.size, 7, none⟩ (.int .u64 e.g)) o4 wr.heap.size e k S' M' y := by
  subst hz
  have hb0 := blk_new wr [z0, z1, z2, z3, z4, z5, z6, z7] 47
  have ho : newTo o wr 9 wr.heap.size = 9 := newTo_new (Nat.le_refl _)
  have hb4 : Blk w4 wr.heap.size 47 [z0, z1, z2, z3, z4, z5, z6, z7] := hb0.block (h5.block _ hb0.lt (by rw [ho]; simp))
  have ho4 : o4 wr.heap.size = 9 := by rw [h5.ext _ hb0.lt]; exact ho
  have G := grown_set8 w4 wr.heap.size (.int .i64 e.w) (.int .i64 e.i) (.int .u64 e.p) (.int .i64 e.t) (.int .i64 e.u) (.int .i64 e.n) y (.int .u64 e.g)
  have B := hb4.set8 (.int .i64 e.w) (.int .i64 e.i) (.int .u64 e.p) (.int .i64 e.t) (.int .i64 e.u) (.int .i64 e.n) y (.int .u64 e.g)
  have m5 : Mv [9] w4 o4 _ o4 := ⟨G.os, G.tape, G.output, G.size, fun _ _ => rfl, fun k hk hn => G.block k hk (fun e => hn (by have := Option.some.inj e; subst this; rw [ho4]; simp))⟩
  exact ⟨hb4, h1, h2, h3.mvd m5 (by simp) (by simp) (by simp) (by simp), B, ho4, h4.mv m5 (by simp), ((Mv.of_below 9 (balloc (Below.refl _ _) _)).trans (h5.widen (by simp))).trans (m5.widen (by simp))⟩
end
end Go.Proofs.Yteedjdflojfhmaa
