/-
  The reference's oracle as an owner's (8); a row whose end may be cut off, and append onto it; the reference's log in memory.
  The reference's log: Head and late.
-/
import Derived.Test.YteedjdflojfhmaaTwoE
import Derived.Test.YteedjdflojfhmaaGame
namespace Go.Proofs.Yteedjdflojfhmaa
section
set_option linter.unusedVariables false
set_option linter.unusedSimpArgs false
set_option synthInstance.maxSize 20000
set_option maxHeartbeats 2000000
set_option maxRecDepth 20000
open Go.RowKit Go.Maps

/-- The reference's oracle: owner 8. What it keeps, and all that came in, stays. -/
def ROrc (w0 w : World) (o : Nat → Nat) (r : Nat) (T : St) : Prop := ∃ fr sb, RefAt ⟨w0, sb⟩ w r fr T ∧ (∀ k ∈ fr, o k = 8) ∧ (∀ k ∈ sb, o k = 0) ∧ (∀ k, k < w0.heap.size → o k = 0)
theorem ROrc.good {w0 w : World} {o : Nat → Nat} {r : Nat} {T : St} (h : ROrc w0 w o r T) : Good T := by
  obtain ⟨fr, sb, h, _⟩ := h
  exact h.good
theorem ROrc.mv {I : List Nat} {w0 w w' : World} {o o' : Nat → Nat} {r : Nat} {T : St} (h : ROrc w0 w o r T) (m : Mv I w o w' o') (h0 : 0 ∉ I) (h8 : 8 ∉ I) : ROrc w0 w' o' r T := by
  obtain ⟨fr, sb, h, h1, h2, h3⟩ := h
  refine ⟨fr, sb, h.turn m.turn (fun k hk e => h8 (by rw [← h1 k hk]; exact (mem_wr e).2)) (fun k hk => ⟨?_, fun e => h0 (by rw [← h2 k e]; exact (mem_wr hk).2)⟩), fun k hk => ?_, fun k hk => ?_, fun k hk => ?_⟩
  · apply Nat.le_of_not_lt
    intro e
    exact h0 (by rw [← h3 k e]; exact (mem_wr hk).2)
  · rw [m.ext k (h.room k hk)]; exact h1 k hk
  · rw [m.ext k (h.sbl k hk)]; exact h2 k hk
  · rw [m.ext k (Nat.lt_of_lt_of_le hk h.bel.size)]; exact h3 k hk
theorem ROrc.below {w0 w w' : World} {o : Nat → Nat} {r : Nat} {T : St} (h : ROrc w0 w o r T) (hb : Below w.heap.size w w') : ROrc w0 w' (newTo o w 0) r T := h.mv (Mv.of_below (I := []) 0 hb) (by simp) (by simp)
theorem rorc_step {w0 w w' : World} {o : Nat → Nat} {r : Nat} {T T' : St} {fr sb ks : List Nat} (h : RefAt ⟨w0, sb⟩ w r fr T) (h1 : ∀ k ∈ fr, o k = 8) (h2 : ∀ k ∈ sb, o k = 0) (h3 : ∀ k, k < w0.heap.size → o k = 0) (hks : ∀ k ∈ ks, w.heap.size ≤ k) (hl : RLeft ⟨w0, ks ++ sb⟩ w r fr T' w') : ∃ o', ROrc w0 w' o' r T' ∧ Mv [8] w o w' o' := by
  obtain ⟨⟨fr', ra, of'⟩, t⟩ := hl
  refine ⟨newBy o w (fun k => if k ∈ fr' then 8 else 0), ⟨fr', ks ++ sb, ra, fun k hk => ?_, fun k hk => ?_, fun k hk => ?_⟩, Mv.of_turn' _ t (fun k hk _ => by rw [h1 k hk]; simp)⟩
  · rcases of' k hk with e | e
    · rw [newBy_old (h.room k e)]; exact h1 k e
    · rw [newBy_new e]; exact if_pos hk
  · have hn : k ∉ fr' := fun e => (ra.fsep k e).2 hk
    rcases List.mem_append.1 hk with e | e
    · rw [newBy_new (hks k e)]; exact if_neg hn
    · rw [newBy_old (h.sbl k e)]; exact h2 k e
  · rw [newBy_old (Nat.lt_of_lt_of_le hk h.bel.size)]; exact h3 k hk
theorem rorc_new {w0 w : World} {o : Nat → Nat} (hb : Below w0.heap.size w0 w) {dv : Value} {ds : List Int} (hd : RdU w0 dv ds) (h3 : ∀ k, k < w0.heap.size → o k = 0) : ROrc w0 (w.alloc (.cells #[dv, .slice none 0 0] 31)) (newTo o w 8) w.heap.size ⟨ds, []⟩ := by
  refine ⟨[w.heap.size], [], ref0 w0 w hb dv ds hd, fun k hk => ?_, (fun k hk => by cases hk), fun k hk => ?_⟩
  · simp at hk
    subst hk
    exact newTo_new (Nat.le_refl _)
  · rw [newTo_old (Nat.lt_of_lt_of_le hk hb.size)]; exact h3 k hk

/-- A row whose end may have been cut off. -/
def OwnC (w : World) (v : Value) (n : Nat) (xs : List Value) : Prop :=
  ∃ u, w.ownsRow 0 47 8 u n xs ∧ (v = u ∨ ∃ g m cap, u = .slice (some ⟨g, 0, none⟩) n m ∧ v = .slice (some ⟨g, 0, none⟩) n cap ∧ n ≤ cap ∧ cap ≤ m)
theorem OwnC.of_own {w : World} {v : Value} {n : Nat} {xs : List Value} (h : w.ownsRow 0 47 8 v n xs) : OwnC w v n xs := ⟨v, h, .inl rfl⟩
theorem OwnC.block {w : World} {v : Value} {n : Nat} {xs : List Value} (h : OwnC w v n xs) : ∃ u, w.ownsRow 0 47 8 u n xs ∧ u.ownBlock = v.ownBlock := by
  obtain ⟨u, h1, rfl | ⟨g, m, cap, rfl, rfl, _⟩⟩ := h
  · exact ⟨v, h1, rfl⟩
  · exact ⟨_, h1, rfl⟩
theorem OwnC.lt {w : World} {v : Value} {n : Nat} {xs : List Value} (h : OwnC w v n xs) : ∀ k, v.ownBlock = some k → k < w.heap.size := by
  obtain ⟨u, h1, h2⟩ := h.block
  intro k hk
  exact (h1.lt k (by rw [h2]; exact hk)).2
theorem OwnC.blocks {w w' : World} {v : Value} {n : Nat} {xs : List Value} (h : OwnC w v n xs) (hb : ∀ k, v.ownBlock = some k → w'.heap[k]? = w.heap[k]?) : OwnC w' v n xs := by
  obtain ⟨u, h1, rfl | ⟨g, m, cap, rfl, rfl, h2⟩⟩ := h
  · exact ⟨v, ownsRow_block h1 hb, .inl rfl⟩
  · exact ⟨_, ownsRow_block h1 hb, .inr ⟨g, m, cap, rfl, rfl, h2⟩⟩
theorem OwnC.slice {w : World} {v : Value} {n : Nat} {xs : List Value} (h : OwnC w v n xs) : ∃ a cap, v = .slice a n cap ∧ n ≤ cap ∧ cap ≤ maxLen ∧ (a = none → cap = 0) := by
  obtain ⟨u, h1, h2⟩ := h
  rcases h1.2 with ⟨rfl, rfl⟩ | ⟨g, cap, cur, rfl, hb, hg, hn, hc, _⟩
  · rcases h2 with rfl | ⟨g, m, cap, e, _⟩
    · exact ⟨none, 0, rfl, Nat.le_refl _, Nat.zero_le _, fun _ => rfl⟩
    · cases e
  · rcases h2 with rfl | ⟨g', m, cap', e, rfl, h3, h4⟩
    · exact ⟨_, cap, rfl, hn, hc, fun h => by cases h⟩
    · cases e
      exact ⟨_, cap', rfl, h3, Nat.le_trans h4 hc, fun h => by cases h⟩
theorem rowE_c {w : World} {v : Value} {ps : List (Ent × Value)} (h : OwnC w v ps.length (flatE ps)) : RowE w v ps := by
  obtain ⟨u, h1, rfl | ⟨g, m, cap, rfl, rfl, h2, h3⟩⟩ := h
  · exact rowE_own h1
  · have hm : m ≤ maxLen := by
      rcases h1.2 with ⟨e, _⟩ | ⟨g', cap', cur, e, _, _, _, hc, _⟩
      · cases e
      · cases e; exact hc
    refine ⟨some ⟨g, 0, none⟩, cap, rfl, h2, Nat.le_trans h3 hm, (fun h => by cases h), fun _ => ⟨g, 0, rfl, fun j u hj => ?_⟩⟩
    have := h1.cells (g := g) rfl j u hj
    rw [Addr.add_lit] at this
    exact this
/-- The end of a row is cut off. -/
theorem OwnC.cut {w : World} {a : Option Addr} {n cap k : Nat} {ps : List (Ent × Value)} (h : OwnC w (.slice a n cap) ps.length (flatE ps)) (hk : k ≤ ps.length) : OwnC w (.slice a k k) (ps.take k).length (flatE (ps.take k)) := by
  have hl : (ps.take k).length = k := by rw [List.length_take]; omega
  obtain ⟨u, h1, h2⟩ := h
  rcases h1.2 with ⟨rfl, h3⟩ | ⟨g, cp, cur, rfl, hb, hg, hn, hc, hs, ht⟩
  · rcases h2 with e | ⟨g, m, cap, e, _⟩
    · cases e
      have : k = 0 := by omega
      subst this
      refine OwnC.of_own ?_
      rw [List.take_zero]
      exact World.ownsRow_nil _ _ _ _
    · cases e
  · have hrow : w.ownsRow 0 47 8 (.slice (some ⟨g, 0, none⟩) k cp) (ps.take k).length (flatE (ps.take k)) := by
      refine ⟨flatE_length _, .inr ⟨g, cp, cur, by rw [hl], hb, hg, by omega, hc, hs, ?_⟩⟩
      rw [hl, ← flatE_take, ← ht, List.take_take]
      congr 1
      omega
    refine ⟨_, hrow, .inr ⟨g, cp, k, by rw [hl], ?_, by omega, by omega⟩⟩
    rw [hl]
    rcases h2 with e | ⟨g', m, cap', e, e2, _⟩
    · cases e; rfl
    · cases e; cases e2; rfl

theorem run_append_c (w : World) (ty : TypeId) (v : Value) (n : Nat) (xs : List Value) (hown : OwnC w v n xs)
    (a : Addr) (m c : Nat) (news : List Value) (hl : news.length = m * 8) (hnews : ∀ j u, news[j]? = some u → w.cell? (a.add j) = some u) (h1 : ∀ u ∈ news, u.oneCell' = true) (hnm : n + m ≤ 1000000) :
    ∃ v' w', (Builtin.append_ #[40, 40] ty #[v, .slice (some a) m c]).run Try.prog w = .ok v' w' ∧ OwnC w' v' (n + m) (xs ++ news) ∧ w.grownBy w' v.ownBlock ∧ (∀ k, v'.ownBlock = some k → v.ownBlock = some k ∨ w.heap.size ≤ k) := by
  obtain ⟨i, hi, hz, hs1, hs2⟩ := infoE
  have hmax : n + m ≤ maxLen := by unfold maxLen; omega
  have Ht : Try.prog.underlying 40 = some (.slice 47) := Try.underlying40
  obtain ⟨u, hu, rfl | ⟨g, mc, cap, rfl, rfl, h2, h3⟩⟩ := hown
  · obtain ⟨v', w', hrun, r1, r2, r3⟩ := run_append_where (P := Try.prog) w 0 40 ty 47 i _ 8 80 Ht hi hz hs1 hs2 rfl (by decide) v n xs hu a m c news hl hnews h1 hmax (by omega) (Nat.zero_le _)
    exact ⟨v', w', hrun, OwnC.of_own r1, r2, r3⟩
  · have hu' := hu
    rcases hu.2 with ⟨e, _⟩ | ⟨g', cap', cur, e, hb, hg, hn, hc, hs, ht⟩
    · cases e
    cases e
    by_cases hroom : n + m ≤ cap
    · have hfit : n * 8 + news.length ≤ cur.size := by rw [hl, hs, ← Nat.add_mul]; exact Nat.mul_le_mul_right _ (by omega)
      have hr := run_append_room (P := Try.prog) w 40 ty 47 i Ht hi g n cap cur hg a m c news (by rw [hs1]; exact hl) hnews h1 hroom (by rw [hs1]; exact hfit)
      have hr2 := run_append_room (P := Try.prog) w 40 ty 47 i Ht hi g n mc cur hg a m c news (by rw [hs1]; exact hl) hnews h1 (by omega) (by rw [hs1]; exact hfit)
      obtain ⟨v', w', hrun, r1, r2, r3⟩ := run_append_where (P := Try.prog) w 0 40 ty 47 i _ 8 80 Ht hi hz hs1 hs2 rfl (by decide) _ n xs hu a m c news hl hnews h1 hmax (by omega) (Nat.zero_le _)
      rw [hr2] at hrun
      cases hrun
      refine ⟨_, _, hr, ⟨_, r1, .inr ⟨g, mc, cap, rfl, rfl, hroom, h3⟩⟩, r2, r3⟩
    · have holds : ∀ j u, xs[j]? = some u → w.cell? ((⟨g, 0, none⟩ : Addr).add j) = some u := hu.cells (g := g) rfl
      have hr := run_append_grow (P := Try.prog) w 40 ty 47 i _ Ht hi hz ⟨g, 0, none⟩ n cap xs (by rw [hs1]; exact hu.1) holds a m c news (by rw [hs1]; exact hl) hnews (by omega) (by omega) (growslice_fits (by omega) (by rw [hs2]; omega))
      refine ⟨_, _, hr, OwnC.of_own ⟨by rw [List.length_append, hu.1, hl, Nat.add_mul], .inr ⟨w.heap.size, _, _, rfl, Nat.zero_le _, heap_alloc_new w.drew _, grownCap_ge w (n + m) cap 47, grownCap_le_maxLen w (n + m) cap 47 hmax, ?_, ?_⟩⟩, ⟨rfl, rfl, rfl, by simp, fun k hk _ => (balloc (Below.refl w.drew.heap.size w.drew) _).block k hk⟩, fun k hk => ?_⟩
      · have hge := grownCap_ge w (n + m) cap 47
        simp only [Array.size_append, List.size_toArray, size_zeroCells, hu.1, hl]
        show n * 8 + m * 8 + (grownCap w (n + m) cap 47 - (n + m)) * 8 = _
        omega
      · simp only [Array.toList_append, List.append_assoc]
        rw [← List.append_assoc, show (n + m) * 8 = (xs ++ news).length from by rw [List.length_append, hu.1, hl, Nat.add_mul]]
        exact List.take_left
      · simp [Value.ownBlock] at hk
        exact .inr (by omega)

section
variable {w : World} {ops : Array Oper} {rest : List Oper} {o : Oper} {a : Act} {Q : Exit → Act → World → Prop}
theorem wpList_append_c (hgd : o.guard = none) (s x : Operand) (ho : o.op = .call { callee := .builtin .append, args := #[s, x], argTypes := #[40, 40] })
    (v : Value) (ps : List (Ent × Value)) (hs : a.eval s = v) (hown : OwnC w v ps.length (flatE ps))
    (ad : Addr) (c : Nat) (q : Ent × Value) (hx : a.eval x = .slice (some ad) 1 c) (hy : RowE w (.slice (some ad) 1 c) [q]) (h1 : ∀ u ∈ flatE [q], u.oneCell' = true) (hlen : ps.length + 1 ≤ 1000000)
    (h : ∀ v' w', OwnC w' v' (ps ++ [q]).length (flatE (ps ++ [q])) → w.grownBy w' v.ownBlock → (∀ k, v'.ownBlock = some k → v.ownBlock = some k ∨ w.heap.size ≤ k) → wpList Try.prog ops Q rest (a.put o.dst v') w') : wpList Try.prog ops Q (o :: rest) a w := by
  obtain ⟨ad', c', e, k1, k2, k3, k4⟩ := hy
  refine wpList_plain hgd fun K hK => ?_
  unfold Oper.wp
  obtain ⟨b, off, e2, hc⟩ := k4 (by simp)
  cases e
  cases e2
  have hcells : ∀ j u, (flatE [q])[j]? = some u → w.cell? ((⟨b, off, none⟩ : Addr).add j) = some u := fun j u hj => by
    rw [Addr.add_lit]
    exact hc j u hj
  obtain ⟨v', w', hrun, r1, r2, r3⟩ := run_append_c w o.type v ps.length (flatE ps) hown ⟨b, off, none⟩ 1 c (flatE [q]) (flatE_length [q]) hcells h1 hlen
  simp [execOp, ho, resolve, invoke, builtin, hs, hx, hrun, Result.andThen]
  refine hK _ _ (h v' w' ?_ r2 r3)
  rw [List.length_append, flatE_append]
  exact r1
end

/-- The reference's log in block lx, of owner j. -/
structure RLogAt (w : World) (o : Nat → Nat) (j lx : Nat) (W p : Int) (es : List Ent) (v : Value) (ps : List (Ent × Value)) : Prop where
  blk : Blk w lx 42 [.int .i64 W, .int .u64 p, v]
  own : o lx = j
  row : OwnC w v ps.length (flatE ps)
  rowOwn : ∀ k, v.ownBlock = some k → o k = j ∧ k ≠ lx
  ents : Ents w o ps
  es : ps.map (·.1) = es
  few : ps.length ≤ 200
  hp : U64 p
  hW : I64 W
def RLogIs (w : World) (o : Nat → Nat) (j lx : Nat) (W p : Int) (es : List Ent) : Prop := ∃ v ps, RLogAt w o j lx W p es v ps
theorem RLogAt.mv {I : List Nat} {w w' : World} {o o' : Nat → Nat} {j lx : Nat} {W p : Int} {es : List Ent} {v : Value} {ps : List (Ent × Value)} (h : RLogAt w o j lx W p es v ps) (m : Mv I w o w' o') (h0 : 0 ∉ I) (hj : j ∉ I) : RLogAt w' o' j lx W p es v ps :=
  ⟨h.blk.block (m.block lx h.blk.lt (by rw [h.own]; exact hj)), by rw [m.ext lx h.blk.lt]; exact h.own, h.row.blocks (fun k hk => m.block k (h.row.lt k hk) (by rw [(h.rowOwn k hk).1]; exact hj)),
    fun k hk => ⟨by rw [m.ext k (h.row.lt k hk)]; exact (h.rowOwn k hk).1, (h.rowOwn k hk).2⟩, h.ents.mv m h0, h.es, h.few, h.hp, h.hW⟩
theorem RLogIs.mv {I : List Nat} {w w' : World} {o o' : Nat → Nat} {j lx : Nat} {W p : Int} {es : List Ent} (h : RLogIs w o j lx W p es) (m : Mv I w o w' o') (h0 : 0 ∉ I) (hj : j ∉ I) : RLogIs w' o' j lx W p es := by
  obtain ⟨v, ps, h⟩ := h
  exact ⟨v, ps, h.mv m h0 hj⟩
theorem RLogIs.below {w w' : World} {o : Nat → Nat} {j lx : Nat} {W p : Int} {es : List Ent} (h : RLogIs w o j lx W p es) (hb : Below w.heap.size w w') : RLogIs w' (newTo o w 0) j lx W p es := h.mv (Mv.of_below (I := []) 0 hb) (by simp) (by simp)
theorem RLogAt.len {w : World} {o : Nat → Nat} {j lx : Nat} {W p : Int} {es : List Ent} {v : Value} {ps : List (Ent × Value)} (h : RLogAt w o j lx W p es v ps) : es.length = ps.length := by rw [← h.es, List.length_map]
theorem rlog_new {w : World} {o : Nat → Nat} (j : Nat) (W p : Int) (hW : I64 W) (hp : U64 p) : RLogIs (w.alloc (.cells #[.int .i64 W, .int .u64 p, .slice none 0 0] 42)) (newTo o w j) j w.heap.size W p [] :=
  ⟨.slice none 0 0, [], blk_new w [.int .i64 W, .int .u64 p, .slice none 0 0] 42, newTo_new (Nat.le_refl _), OwnC.of_own (World.ownsRow_nil _ _ _ _), (fun k hk => by simp [Value.ownBlock] at hk), Ents.nil _ _, rfl, by simp, hp, hW⟩

/-- Behind append, and the store. -/
theorem rlog_add {w w5 : World} {o : Nat → Nat} {j lx : Nat} {W p : Int} {es : List Ent} {v : Value} {ps : List (Ent × Value)} {e : Ent} {y v' : Value}
    (hA : RLogAt w o j lx W p es v ps) (hj0 : j ≠ 0) (he : EOk e) (hy : Kp0 w o y e.b) (hfew : es.length < 200) (ob : Obj) (hg : (w.alloc ob).grownBy w5 v.ownBlock) (hrow : OwnC w5 v' (ps ++ [(e, y)]).length (flatE (ps ++ [(e, y)]))) (hwh : ∀ k, v'.ownBlock = some k → v.ownBlock = some k ∨ (w.alloc ob).heap.size ≤ k) :
    ∃ o', RLogIs (w5.setCell ⟨lx, 2, none⟩ v') o' j lx W p (es ++ [e]) ∧ Mv [j] w o (w5.setCell ⟨lx, 2, none⟩ v') o' := by
  have m4 : Mv [] w o (w.alloc ob) (newTo o w 0) := Mv.of_below 0 (balloc (Below.refl _ _) _)
  have hA4 := hA.mv m4 (by simp) (by simp)
  have hy4 := hy.mv m4 (by simp)
  generalize newTo o w 0 = o4 at *
  generalize w.alloc ob = w4 at *
  have m5 : Mv [j] w4 o4 w5 (newTo o4 w4 j) := Mv.of_turn j (turn_grown hg) (fun k hk _ => by
    have hk' : v.ownBlock = some k := by simpa using hk
    rw [(hA4.rowOwn k hk').1]; simp)
  have hy5 := hy4.mv m5 (by simp; omega)
  have hE5 := hA4.ents.mv m5 (by simp; omega)
  have hB5 := hA4.blk.past' hg (fun e => (hA4.rowOwn lx e).2 rfl)
  have own5 : (newTo o4 w4 j) lx = j := by rw [newTo_old hA4.blk.lt]; exact hA4.own
  have row5 : ∀ k, v'.ownBlock = some k → (newTo o4 w4 j) k = j ∧ k ≠ lx := fun k hk => by
    rcases hwh k hk with r | r
    · exact ⟨by rw [newTo_old (hA4.row.lt k r)]; exact (hA4.rowOwn k r).1, (hA4.rowOwn k r).2⟩
    · exact ⟨newTo_new r, fun e => by have := hA4.blk.lt; omega⟩
  generalize newTo o4 w4 j = o5 at *
  have hB6 := hB5.set 2 v'
  have G := grown_setCell w5 lx 2 v'
  have m6 : Mv [j] w5 o5 (w5.setCell ⟨lx, 2, none⟩ v') o5 :=
    ⟨G.os, G.tape, G.output, G.size, fun _ _ => rfl, fun k hk hn => G.block k hk (fun e => hn (by have := Option.some.inj e; subst this; rw [own5]; simp))⟩
  refine ⟨o5, ⟨v', ps ++ [(e, y)], hB6, own5, ?_, row5, ?_, ?_, ?_, hA.hp, hA.hW⟩, ?_⟩
  · exact hrow.blocks (fun k hk => G.block k (hrow.lt k hk) (fun e => (row5 k hk).2 (Option.some.inj e)))
  · exact (hE5.append (ents_one he hy5)).mv m6 (by simp; omega)
  · rw [List.map_append, hA.es]
    rfl
  · rw [List.length_append, ← hA.len]
    simp
    omega
  · exact ((m4.widen (by simp)).trans m5).trans m6
end

section
set_option linter.unusedVariables false
set_option linter.unusedSimpArgs false
set_option synthInstance.maxSize 20000
set_option maxHeartbeats 2000000
set_option maxRecDepth 20000
open Go.RowKit Go.Maps

/-- The sum of the last one, asked of the oracle. -/
def headM (T : St) (es : List Ent) : Int × St := match es.getLast? with
  | none => (0, T)
  | some f => T.get (.hash (bytesE f))

theorem rhead_nil {w : World} {o : Nat → Nat} {j lx : Nat} {W p : Int} (hL : RLogIs w o j lx W p []) (r : Value) :
    Calls Try.prog 41 #[ptr lx, r] w fun q w' => q = .returned (.agg #[.int .i64 W, .int .i64 0, .int .u64 0]) ∧ Below w.heap.size w w' := by
  obtain ⟨v, ps, hA⟩ := hL
  have hps : ps = [] := by have := hA.es; simpa using this
  subst hps
  obtain ⟨av, cv', rfl, _⟩ := hA.row.slice
  have HL0 : Hid (Blk w lx 42 [.int .i64 W, .int .u64 p, .slice av 0 cv']) := hA.blk
  clear hA
  obtain ⟨w1, hw1⟩ : ∃ w1, w1 = w.alloc (.cells #[.int .i64 0, .int .i64 0, .int .u64 0] 69) := ⟨_, rfl⟩
  have HB1 : Hid (Below w.heap.size w w1) := by show Below _ _ _; rw [hw1]; exact balloc (Below.refl _ _) _
  have HX1 : Hid (Blk w1 w.heap.size 69 [.int .i64 0, .int .i64 0, .int .u64 0]) := by show Blk _ _ _ _; rw [hw1]; exact blk_new w [.int .i64 0, .int .i64 0, .int .u64 0] 69
  have HL1 : Hid (Blk w1 lx 42 [.int .i64 W, .int .u64 p, .slice av 0 cv']) := (show Blk _ _ _ _ from HL0.out.below HB1.out)
  go_enter Try.func41, Try.ntmps41
  go_upto_region 1 with fail
  rw [← hw1]
  obtain ⟨n, hn⟩ : ∃ n, n = w.heap.size := ⟨_, rfl⟩
  rw [← hn] at HX1 ⊢
  have HN : Hid (n = w.heap.size) := hn
  clear hw1 hn
  have l0 := fun z : WIn (fun w' => Below w1.heap.size w1 w') => (HL1.out.below z.ok).cell 0 _ rfl
  have l1 := fun z : WIn (fun w' => Below w1.heap.size w1 w') => (HL1.out.below z.ok).cell 1 _ rfl
  have l2 := fun z : WIn (fun w' => Below w1.heap.size w1 w') => (HL1.out.below z.ok).cell 2 _ rfl
  have ne : Nonempty (WIn (fun w' => Below w1.heap.size w1 w')) := ⟨⟨w1, Below.refl _ _⟩⟩
  refine wp_region_ord (C := fun w' => ∃ z : WIn (fun w' => Below w1.heap.size w1 w'), w' = z.w) [(false, 0), (false, 1), (false, 2), (false, 3), (false, 4), (false, 5), (false, 6), (false, 7), (false, 8), (false, 9), (true, 10), (true, 11)] (by kernel_rfl) (by kernel_rfl) ⟨⟨w1.drew, (Below.refl _ _).drew⟩, rfl⟩ ?_
  iterate 10 (refine ord_still rfl rfl ?_; go_big_quiet_step (fail); refine wpQuiet_nil ?_)
  refine ord_mem rfl rfl ?_
  go_simp
  refine ⟨⟨⟨_, by first | exact (balloc (Below.refl _ _) _).drew | exact balloc (Below.refl _ _).drew _⟩, rfl⟩, ?_⟩
  refine ord_mem rfl rfl ?_
  go_simp
  refine ⟨⟨⟨_, by first | exact (balloc (Below.refl _ _) _).drew | exact balloc (Below.refl _ _).drew _⟩, rfl⟩, ?_⟩
  refine ord_end ?_
  clear l0 l1 l2 ne
  obtain ⟨w2, hw2⟩ : ∃ w2, w2 = (w1.alloc (.cells #[.int .i64 W, .int .i64 0, .int .u64 0] 69)).drew := ⟨_, rfl⟩
  have HB2 : Hid (Below w1.heap.size w1 w2) := by show Below _ _ _; rw [hw2]; exact (balloc (Below.refl _ _) _).drew
  have HM2 : Hid (Blk w2 w1.heap.size 69 [.int .i64 W, .int .i64 0, .int .u64 0]) := by show Blk _ _ _ _; rw [hw2]; exact blk_new w1 [.int .i64 W, .int .i64 0, .int .u64 0] 69
  rw [← hw2]
  obtain ⟨m, hm⟩ : ∃ m, m = w1.heap.size := ⟨_, rfl⟩
  rw [← hm] at HM2 ⊢
  clear hw2 hm
  have HL2 := HL1.out.below HB2.out
  have HX2 := HX1.out.below HB2.out
  have q2 := HL2.cell 2 _ rfl
  have m0 := HM2.out.cell 0 _ rfl; have m1 := HM2.out.cell 1 _ rfl; have m2 := HM2.out.cell 2 _ rfl; have z0 := HX2.cell 0 _ rfl; have z1 := HX2.cell 1 _ rfl; have z2 := HX2.cell 2 _ rfl; have f0 := HX2.frozen 0; have f1 := HX2.frozen 1; have f2 := HX2.frozen 2
  clear HL2 HX2
  go_wp2
  refine bodyPost_ret (v := .agg #[.int .i64 W, .int .i64 0, .int .u64 0]) ?_ rfl ⟨rfl, ?_⟩
  · rw [results_cell1 rfl]
    go_simp
  · exact bgrown (bnext HB1.out HB2.out) (by have := HN.out; omega) (grown_set3 _ _ _ _ _)

theorem rhead_more {w0 w : World} {o : Nat → Nat} {lx r : Nat} {W p : Int} {T : St} {nv g off cv' : Nat} {f : Ent} {y : Value} (hL : Blk w lx 42 [.int .i64 W, .int .u64 p, .slice (some ⟨g, off, none⟩) (nv + 1) cv']) (hnv : nv < 200) (hcv : nv + 1 ≤ cv' ∧ cv' ≤ 9223372036854775807)
    (hc : ∀ j u, (ec f y)[j]? = some u → w.cell? ⟨g, off + nv * 8 + j, none⟩ = some u) (hO : ROrc w0 w o r T) (hl8 : o lx ≠ 8) (hg8 : o g ≠ 8) (hf : rightB f = true) (he : EOk f) (hy : Kp0 w o y f.b) (hN : T.rows.length + 1 ≤ 100000) :
    Calls Try.prog 41 #[ptr lx, ptr r] w fun q w' => q = .returned (.agg #[.int .i64 W, .int .i64 ((nv + 1 : Nat) : Int), .int .u64 (T.get (.hash (bytesE f))).1]) ∧ ∃ o', ROrc w0 w' o' r (T.get (.hash (bytesE f))).2 ∧ Mv [8] w o w' o' := by
  obtain ⟨c, hc1, hc8, hcf⟩ := fresh_owner w o 8
  have HSM : Hid (∀ (w' : World) (o' : Nat → Nat), ROrc w0 w' o' r T → Rd w' y f.b → Calls Try.prog 60 #[ptr r, ev f y] w' fun q w'' => q = .returned (.tuple #[.int .u64 (T.get (.hash (bytesE f))).1, .int .i64 0]) ∧ ∃ o'', ROrc w0 w'' o'' r (T.get (.hash (bytesE f))).2 ∧ Mv [8] w' o' w'' o'') := fun w' o' hr hy' => by
    obtain ⟨fr, sb, h, h1, h2, h3⟩ := hr
    refine (rsumE_yes ⟨w0, sb⟩ w' r fr T h hN f y he hy' hf).mono ?_
    rintro q w'' ⟨rfl, ks, hks, hl⟩
    exact ⟨rfl, rorc_step h h1 h2 h3 hks hl⟩
  generalize T.get (.hash (bytesE f)) = t at *
  obtain ⟨sum, T'⟩ := t
  dsimp only at *
  obtain ⟨ay, cy, hyy⟩ := hy.1.len
  subst hyy
  obtain ⟨fw, fi, fp, ft, fu, fn, fb, fg⟩ := f
  unfold ev at HSM
  unfold ec at hc
  dsimp only at *
  obtain ⟨w1, hw1⟩ : ∃ w1, w1 = w.alloc (.cells #[.int .i64 0, .int .i64 0, .int .u64 0] 69) := ⟨_, rfl⟩
  have HB1 : Hid (Below w.heap.size w w1) := by show Below _ _ _; rw [hw1]; exact balloc (Below.refl _ _) _
  have HX1 : Hid (Blk w1 w.heap.size 69 [.int .i64 0, .int .i64 0, .int .u64 0]) := by show Blk _ _ _ _; rw [hw1]; exact blk_new w [.int .i64 0, .int .i64 0, .int .u64 0] 69
  have HL1 : Hid (Blk w1 lx 42 [.int .i64 W, .int .u64 p, .slice (some ⟨g, off, none⟩) (nv + 1) cv']) := (show Blk _ _ _ _ from hL.below HB1.out)
  have HLl : Hid (lx < w.heap.size) := hL.lt
  have HGl : Hid (g < w.heap.size) := World.block_lt_of_cell? w _ (hc 0 _ rfl)
  have HC : Hid (∀ w' : World, w'.heap[g]? = w.heap[g]? → ∀ j u, ([.int .i64 fw, .int .i64 fi, .int .u64 fp, .int .i64 ft, .int .i64 fu, .int .i64 fn, .slice ay fb.length cy, .int .u64 fg] : List Value)[j]? = some u → w'.cell? ⟨g, off + nv * 8 + j, none⟩ = some u) := fun w' hb' j u hu => by
    rw [World.cell?_of_block hb']
    exact hc j u hu
  have HO0 : Hid (ROrc w0 w o r T) := hO
  have HY0 : Hid (Kp0 w o (.slice ay fb.length cy) fb) := hy
  have HFr : Hid (8 < c ∧ 1 < c ∧ (∀ k, k < w.heap.size → o k ≠ c) ∧ o lx ≠ 8 ∧ o g ≠ 8) := ⟨hc8, hc1, hcf, hl8, hg8⟩
  clear hc hO hL hy hcf hl8 hg8
  go_enter Try.func41, Try.ntmps41
  go_upto_region 1 with fail
  rw [← hw1]
  obtain ⟨n, hn⟩ : ∃ n, n = w.heap.size := ⟨_, rfl⟩
  rw [← hn] at HX1 ⊢
  have HN : Hid (n = w.heap.size) := hn
  clear hw1 hn
  have l0 := fun z : WIn (fun w' => Below w1.heap.size w1 w') => (HL1.out.below z.ok).cell 0 _ rfl
  have l1 := fun z : WIn (fun w' => Below w1.heap.size w1 w') => (HL1.out.below z.ok).cell 1 _ rfl
  have l2 := fun z : WIn (fun w' => Below w1.heap.size w1 w') => (HL1.out.below z.ok).cell 2 _ rfl
  have ne : Nonempty (WIn (fun w' => Below w1.heap.size w1 w')) := ⟨⟨w1, Below.refl _ _⟩⟩
  refine wp_region_ord (C := fun w' => ∃ z : WIn (fun w' => Below w1.heap.size w1 w'), w' = z.w) [(false, 0), (false, 1), (false, 2), (false, 3), (false, 4), (false, 5), (false, 6), (false, 7), (false, 8), (false, 9), (true, 10), (true, 11)] (by kernel_rfl) (by kernel_rfl) ⟨⟨w1.drew, (Below.refl _ _).drew⟩, rfl⟩ ?_
  iterate 10 (refine ord_still rfl rfl ?_; go_big_quiet_step (fail); refine wpQuiet_nil ?_)
  refine ord_mem rfl rfl ?_
  go_simp
  refine ⟨⟨⟨_, by first | exact (balloc (Below.refl _ _) _).drew | exact balloc (Below.refl _ _).drew _⟩, rfl⟩, ?_⟩
  refine ord_mem rfl rfl ?_
  go_simp
  refine ⟨⟨⟨_, by first | exact (balloc (Below.refl _ _) _).drew | exact balloc (Below.refl _ _).drew _⟩, rfl⟩, ?_⟩
  refine ord_end ?_
  clear l0 l1 l2 ne
  obtain ⟨w2, hw2⟩ : ∃ w2, w2 = (w1.alloc (.cells #[.int .i64 W, .int .i64 ((nv + 1 : Nat) : Int), .int .u64 0] 69)).drew := ⟨_, rfl⟩
  have HB2 : Hid (Below w1.heap.size w1 w2) := by show Below _ _ _; rw [hw2]; exact (balloc (Below.refl _ _) _).drew
  have HM2 : Hid (Blk w2 w1.heap.size 69 [.int .i64 W, .int .i64 ((nv + 1 : Nat) : Int), .int .u64 0]) := by show Blk _ _ _ _; rw [hw2]; exact blk_new w1 [.int .i64 W, .int .i64 ((nv + 1 : Nat) : Int), .int .u64 0] 69
  first | rw [← hw2] | (simp only [Int.natCast_add, Int.cast_ofNat_Int] at hw2 HM2; rw [← hw2])
  obtain ⟨m, hm⟩ : ∃ m, m = w1.heap.size := ⟨_, rfl⟩
  rw [← hm] at HM2 ⊢
  have HNm : Hid (n < m) := (show n < m from by have := HX1.out.lt; omega)
  clear hw2 hm
  have HB02 : Hid (Below w.heap.size w w2) := bnext HB1.out HB2.out
  have HL2 : Hid (Blk w2 lx 42 [.int .i64 W, .int .u64 p, .slice (some ⟨g, off, none⟩) (nv + 1) cv']) := (show Blk _ _ _ _ from HL1.out.below HB2.out)
  have HX2 : Hid (Blk w2 n 69 [.int .i64 0, .int .i64 0, .int .u64 0]) := (show Blk _ _ _ _ from HX1.out.below HB2.out)
  have HMv2 : Hid (Mv [c] w o w2 (newTo o w c)) := Mv.of_below c HB02.out
  have HO2 : Hid (ROrc w0 w2 (newTo o w c) r T) := HO0.out.mv HMv2.out (by simp; omega) (by simp; omega)
  have HY2 : Hid (Rd w2 (.slice ay fb.length cy) fb) := (show Rd _ _ _ from HY0.out.1.below HB02.out)
  have HC2 : Hid (∀ j u, ([.int .i64 fw, .int .i64 fi, .int .u64 fp, .int .i64 ft, .int .i64 fu, .int .i64 fn, .slice ay fb.length cy, .int .u64 fg] : List Value)[j]? = some u → w2.cell? ⟨g, off + nv * 8 + j, none⟩ = some u) := fun j u h => HC.out w2 (HB02.out.block g HGl.out) j u h
  clear HL1 HX1
  have q2 := HL2.out.cell 2 _ rfl
  go_upto_region 3 with fail
  clear q2
  have l2 := fun z : WIn (fun w' => Blk w' lx 42 [.int .i64 W, .int .u64 p, .slice (some ⟨g, off, none⟩) (nv + 1) cv'] ∧ w'.heap[g]? = w.heap[g]?) => z.ok.1.cell 2 _ rfl
  have e0 := fun z : WIn (fun w' => Blk w' lx 42 [.int .i64 W, .int .u64 p, .slice (some ⟨g, off, none⟩) (nv + 1) cv'] ∧ w'.heap[g]? = w.heap[g]?) => HC.out z.w z.ok.2 0 _ rfl
  have e1 := fun z : WIn (fun w' => Blk w' lx 42 [.int .i64 W, .int .u64 p, .slice (some ⟨g, off, none⟩) (nv + 1) cv'] ∧ w'.heap[g]? = w.heap[g]?) => HC.out z.w z.ok.2 1 _ rfl
  have e2 := fun z : WIn (fun w' => Blk w' lx 42 [.int .i64 W, .int .u64 p, .slice (some ⟨g, off, none⟩) (nv + 1) cv'] ∧ w'.heap[g]? = w.heap[g]?) => HC.out z.w z.ok.2 2 _ rfl
  have e3 := fun z : WIn (fun w' => Blk w' lx 42 [.int .i64 W, .int .u64 p, .slice (some ⟨g, off, none⟩) (nv + 1) cv'] ∧ w'.heap[g]? = w.heap[g]?) => HC.out z.w z.ok.2 3 _ rfl
  have e4 := fun z : WIn (fun w' => Blk w' lx 42 [.int .i64 W, .int .u64 p, .slice (some ⟨g, off, none⟩) (nv + 1) cv'] ∧ w'.heap[g]? = w.heap[g]?) => HC.out z.w z.ok.2 4 _ rfl
  have e5 := fun z : WIn (fun w' => Blk w' lx 42 [.int .i64 W, .int .u64 p, .slice (some ⟨g, off, none⟩) (nv + 1) cv'] ∧ w'.heap[g]? = w.heap[g]?) => HC.out z.w z.ok.2 5 _ rfl
  have e6 := fun z : WIn (fun w' => Blk w' lx 42 [.int .i64 W, .int .u64 p, .slice (some ⟨g, off, none⟩) (nv + 1) cv'] ∧ w'.heap[g]? = w.heap[g]?) => HC.out z.w z.ok.2 6 _ rfl
  have e7 := fun z : WIn (fun w' => Blk w' lx 42 [.int .i64 W, .int .u64 p, .slice (some ⟨g, off, none⟩) (nv + 1) cv'] ∧ w'.heap[g]? = w.heap[g]?) => HC.out z.w z.ok.2 7 _ rfl
  simp only [Nat.add_zero] at e0
  have HG2 : Hid (w2.heap[g]? = w.heap[g]?) := HB02.out.block g HGl.out
  have ne : Nonempty (WIn (fun w' => Blk w' lx 42 [.int .i64 W, .int .u64 p, .slice (some ⟨g, off, none⟩) (nv + 1) cv'] ∧ w'.heap[g]? = w.heap[g]?)) := ⟨⟨w2, HL2.out, HG2.out⟩⟩
  refine wp_region_ord (C := fun w' => ∃ z : WIn (fun w' => Blk w' lx 42 [.int .i64 W, .int .u64 p, .slice (some ⟨g, off, none⟩) (nv + 1) cv'] ∧ w'.heap[g]? = w.heap[g]?), w' = z.w) [(false, 0), (false, 1), (false, 2), (false, 3), (false, 4), (false, 5), (false, 6), (false, 7), (false, 8), (false, 9), (false, 10), (false, 11), (false, 12), (true, 13), (false, 14), (false, 15), (false, 16), (false, 17), (true, 18)] (by kernel_rfl) (by kernel_rfl) ⟨⟨w2.drew, HL2.out, HG2.out⟩, rfl⟩ ?_
  iterate 13 (refine ord_still rfl rfl ?_; go_big_quiet_step (fail); refine wpQuiet_nil ?_)
  refine ord_mem rfl rfl ?_
  go_simp
  refine (HSM.out w2.drew (newTo o w c) (HO2.out.mv (mv_drewn (I := []) w2 _) (by simp) (by simp)) HY2.out.drew).mono ?_
  rintro q w3 ⟨rfl, o3, hO3, hM3⟩
  have HO3 : Hid (ROrc w0 w3 o3 r T') := hO3
  have HM3 : Hid (Mv [8] w2 (newTo o w c) w3 o3) := mv_undrew hM3
  clear hO3 hM3
  have HL3 : Hid (Blk w3 lx 42 [.int .i64 W, .int .u64 p, .slice (some ⟨g, off, none⟩) (nv + 1) cv']) := (show Blk _ _ _ _ from HL2.out.block (HM3.out.block lx HL2.out.lt (by rw [newTo_old HLl.out]; have := HFr.out.2.2.2.1; simp; omega)))
  have HG3 : Hid (w3.heap[g]? = w.heap[g]?) := (show _ = _ from (HM3.out.block g (Nat.lt_of_lt_of_le HGl.out HB02.out.size) (by rw [newTo_old HGl.out]; have := HFr.out.2.2.2.2; simp; omega)).trans HG2.out)
  have HX3 : Hid (Blk w3 n 69 [.int .i64 0, .int .i64 0, .int .u64 0]) := (show Blk _ _ _ _ from HX2.out.block (HM3.out.block n HX2.out.lt (by rw [newTo_new (by have := HN.out; omega)]; have := HFr.out.1; simp; omega)))
  have HY3 : Hid (Blk w3 m 69 [.int .i64 W, .int .i64 ((nv + 1 : Nat) : Int), .int .u64 0]) := (show Blk _ _ _ _ from HM2.out.block (HM3.out.block m HM2.out.lt (by rw [newTo_new (by have := HN.out; have := HNm.out; omega)]; have := HFr.out.1; simp; omega)))
  have HOn : Hid (o3 n = c ∧ o3 m = c) := ⟨by rw [HM3.out.ext n HX2.out.lt]; exact newTo_new (by have := HN.out; omega), by rw [HM3.out.ext m HM2.out.lt]; exact newTo_new (by have := HN.out; have := HNm.out; omega)⟩
  refine ⟨⟨⟨w3, HL3.out, HG3.out⟩, rfl⟩, ?_⟩
  iterate 4 (refine ord_still rfl rfl ?_; go_big_quiet_step (fail); refine wpQuiet_nil ?_)
  have y2 := HY3.out.cell 2 _ rfl
  have g2 := HY3.out.frozen 2
  refine ord_mem rfl rfl ?_
  go_simp
  have G4 := grown_setCell w3 m 2 (.int .u64 sum)
  have HY4 : Hid (Blk (w3.setCell ⟨m, 2, none⟩ (.int .u64 sum)) m 69 [.int .i64 W, .int .i64 ((nv + 1 : Nat) : Int), .int .u64 sum]) := HY3.out.set 2 (.int .u64 sum)
  have HX4 : Hid (Blk (w3.setCell ⟨m, 2, none⟩ (.int .u64 sum)) n 69 [.int .i64 0, .int .i64 0, .int .u64 0]) := (show Blk _ _ _ _ from HX3.out.past G4 (by have := HNm.out; omega))
  refine ⟨⟨⟨_, (show Blk _ _ _ _ from HL3.out.past G4 (by have := HLl.out; have := HN.out; have := HNm.out; omega)), (G4.block g (by have := World.block_lt_of_cell? w3; have h1 := HGl.out; have h2 := HB02.out.size; have h3 := HM3.out.size; omega) (fun e => by have h1 := Option.some.inj e; have h2 := HGl.out; have h3 := HN.out; have h4 := HNm.out; omega)).trans HG3.out⟩, rfl⟩, ?_⟩
  refine ord_end ?_
  clear l2 e0 e1 e2 e3 e4 e5 e6 e7 ne y2 g2
  have HM4 : Hid (Mv [c] w3 o3 (w3.setCell ⟨m, 2, none⟩ (.int .u64 sum)) o3) := ⟨G4.os, G4.tape, G4.output, G4.size, fun _ _ => rfl, fun k hk hn => G4.block k hk (fun e => hn (by have := Option.some.inj e; subst this; rw [HOn.out.2]; simp))⟩
  generalize w3.setCell ⟨m, 2, none⟩ (.int .u64 sum) = w4 at *
  have m0 := HY4.out.cell 0 _ rfl; have m1 := HY4.out.cell 1 _ rfl; have m2 := HY4.out.cell 2 _ rfl; have z0 := HX4.out.cell 0 _ rfl; have z1 := HX4.out.cell 1 _ rfl; have z2 := HX4.out.cell 2 _ rfl; have f0 := HX4.out.frozen 0; have f1 := HX4.out.frozen 1; have f2 := HX4.out.frozen 2
  go_wp2
  refine bodyPost_ret (v := .agg #[.int .i64 W, .int .i64 ((nv + 1 : Nat) : Int), .int .u64 sum]) ?_ rfl ⟨rfl, ?_⟩
  · rw [results_cell1 rfl]
    go_simp
  · have G5 := grown_set3 w4 n (.int .i64 W) (.int .i64 ((nv + 1 : Nat) : Int)) (.int .u64 sum)
    have HM5 : Mv [c] w4 o3 _ o3 := ⟨G5.os, G5.tape, G5.output, G5.size, fun _ _ => rfl, fun k hk hn => G5.block k hk (fun e => hn (by have := Option.some.inj e; subst this; rw [HOn.out.1]; simp))⟩
    have M := ((HMv2.out.widen (J := [c, 8]) (by simp)).trans (HM3.out.widen (by simp))).trans ((HM4.out.trans HM5).widen (by simp))
    have h8 := HFr.out.1
    exact ⟨o3, HO3.out.mv (HM4.out.trans HM5) (by simp; omega) (by simp; omega), M.restrict HFr.out.2.2.1⟩

theorem getLast_map {ps : List (Ent × Value)} {f : Ent} (h : (ps.map (·.1)).getLast? = some f) : ∃ nv y, ps.length = nv + 1 ∧ ps[nv]? = some (f, y) := by
  rw [List.getLast?_map] at h
  cases hl : ps.getLast? with
  | none => rw [hl] at h; cases h
  | some q =>
    rw [hl] at h
    simp at h
    obtain ⟨f', y⟩ := q
    simp at h
    subst h
    rw [List.getLast?_eq_getElem?] at hl
    have hlt := (List.getElem?_eq_some_iff.1 hl).1
    exact ⟨ps.length - 1, y, by omega, hl⟩

theorem rhead_any {w0 w : World} {o : Nat → Nat} {j lx r : Nat} {W p : Int} {es : List Ent} {T : St} (hL : RLogIs w o j lx W p es) (hO : ROrc w0 w o r T) (hj8 : j ≠ 8) (hf : ∀ f, es.getLast? = some f → rightB f = true) (hN : T.rows.length + 1 ≤ 100000) :
    Calls Try.prog 41 #[ptr lx, ptr r] w fun q w' => q = .returned (.agg #[.int .i64 W, .int .i64 (es.length : Int), .int .u64 (headM T es).1]) ∧ ∃ o', ROrc w0 w' o' r (headM T es).2 ∧ Mv [8] w o w' o' := by
  unfold headM
  cases hl : es.getLast? with
  | none =>
    have : es = [] := by simpa using hl
    subst this
    refine (rhead_nil hL (ptr r)).mono ?_
    rintro q w' ⟨rfl, hb⟩
    exact ⟨rfl, _, hO.below hb, Mv.of_below 0 hb⟩
  | some f =>
    obtain ⟨v, ps, hA⟩ := hL
    have hes := hA.es
    subst hes
    obtain ⟨nv, y, h1, h2⟩ := getLast_map hl
    obtain ⟨av, cv', rfl, h3, h4, _⟩ := hA.row.slice
    obtain ⟨g, off, rfl, hc⟩ := (rowE_c hA.row).at h2
    have hE := hA.ents _ (List.mem_of_getElem? h2)
    have hg := hA.rowOwn g rfl
    have hfew := hA.few
    have hblk := hA.blk
    have hown := hA.own
    rw [List.length_map]
    rw [h1] at hblk h3 hfew ⊢
    exact rhead_more hblk (by omega) ⟨h3, by unfold maxLen at h4; omega⟩ hc hO (by rw [hown]; exact hj8) (by rw [hg.1]; exact hj8) (hf f hl) hE.1 hE.2 hN

theorem rlate_nil {w : World} {lx : Nat} {W p : Int} {av : Option Addr} {cv' : Nat} (hL : Blk w lx 42 [.int .i64 W, .int .u64 p, .slice av 0 cv']) (t u : Int) :
    Calls Try.prog 48 #[ptr lx, .agg #[.int .i64 t, .int .i64 u]] w fun q w' => q = .returned (.bool false) ∧ Below w.heap.size w w' := by
  have HL1 : Hid (Blk (w.alloc (.cells #[.int .i64 t, .int .i64 u] 45)) lx 42 [.int .i64 W, .int .u64 p, .slice av 0 cv']) := hL.alloc _
  have q2 := HL1.out.cell 2 _ rfl
  clear hL
  go_enter Try.func48, Try.ntmps48
  go_upto_region 2 with fail
  clear q2
  have HB : Hid (Below w.heap.size w (w.alloc (.cells #[.int .i64 t, .int .i64 u] 45))) := balloc (Below.refl _ _) _
  generalize w.alloc (.cells #[.int .i64 t, .int .i64 u] 45) = w1 at *
  have l0 := fun z : WIn (fun w' => Below w1.heap.size w1 w') => (HL1.out.below z.ok).cell 0 _ rfl
  have l1 := fun z : WIn (fun w' => Below w1.heap.size w1 w') => (HL1.out.below z.ok).cell 1 _ rfl
  have l2 := fun z : WIn (fun w' => Below w1.heap.size w1 w') => (HL1.out.below z.ok).cell 2 _ rfl
  have ne : Nonempty (WIn (fun w' => Below w1.heap.size w1 w')) := ⟨⟨w1, Below.refl _ _⟩⟩
  refine wp_region_ord (C := fun w' => ∃ z : WIn (fun w' => Below w1.heap.size w1 w'), w' = z.w) [(false, 0), (false, 1), (false, 2), (false, 3), (false, 4), (false, 5), (false, 6), (false, 7), (false, 8), (false, 9), (false, 10), (false, 11), (false, 12), (false, 13), (false, 14), (false, 15), (false, 16)] (by kernel_rfl) (by kernel_rfl) ⟨⟨w1.drew, (Below.refl _ _).drew⟩, rfl⟩ ?_
  iterate 13 (refine ord_still rfl rfl ?_; go_big_quiet_step (fail); refine wpQuiet_nil ?_)
  refine ord_shut rfl rfl ?_
  go_big_quiet_step (fail)
  refine wpQuiet_nil ?_
  iterate 3 (refine ord_still rfl rfl ?_; go_big_quiet_step (fail); refine wpQuiet_nil ?_)
  refine ord_end ?_
  go_wp2
  go_ret
  exact ⟨rfl, HB.out.drew⟩

theorem rlate_more {w : World} {lx : Nat} {W p : Int} {nv g off cv' : Nat} {f : Ent} {y : Value} (hL : Blk w lx 42 [.int .i64 W, .int .u64 p, .slice (some ⟨g, off, none⟩) (nv + 1) cv']) (hnv : nv < 200) (hcv : nv + 1 ≤ cv' ∧ cv' ≤ 9223372036854775807)
    (hc : ∀ j u, (ec f y)[j]? = some u → w.cell? ⟨g, off + nv * 8 + j, none⟩ = some u) (t u : Int) :
    Calls Try.prog 48 #[ptr lx, .agg #[.int .i64 t, .int .i64 u]] w fun q w' => q = .returned (.bool (!decide (ltP (f.t, f.u) (t, u)))) ∧ Below w.heap.size w w' := by
  have R := fun w' => refless_any (f.t, f.u) (t, u) w'
  generalize decide (ltP (f.t, f.u) (t, u)) = q at *
  unfold sv at R
  obtain ⟨fw, fi, fp, ft, fu, fn, fb, fg⟩ := f
  unfold ec at hc
  dsimp only at *
  have HR : Hid (∀ w', Calls Try.prog 69 #[.agg #[.int .i64 ft, .int .i64 fu], .agg #[.int .i64 t, .int .i64 u]] w' fun r w'' => r = .returned (.bool q) ∧ Below w'.heap.size w' w'') := R
  obtain ⟨w1, hw1⟩ : ∃ w1, w1 = w.alloc (.cells #[.int .i64 t, .int .i64 u] 45) := ⟨_, rfl⟩
  have HB1 : Hid (Below w.heap.size w w1) := by show Below _ _ _; rw [hw1]; exact balloc (Below.refl _ _) _
  have HX1 : Hid (Blk w1 w.heap.size 45 [.int .i64 t, .int .i64 u]) := by show Blk _ _ _ _; rw [hw1]; exact blk_new w [.int .i64 t, .int .i64 u] 45
  have HL1 : Hid (Blk w1 lx 42 [.int .i64 W, .int .u64 p, .slice (some ⟨g, off, none⟩) (nv + 1) cv']) := (show Blk _ _ _ _ from hL.below HB1.out)
  have HC : Hid (∀ w', Below w1.heap.size w1 w' → ∀ j u, ([.int .i64 fw, .int .i64 fi, .int .u64 fp, .int .i64 ft, .int .i64 fu, .int .i64 fn, y, .int .u64 fg] : List Value)[j]? = some u → w'.cell? ⟨g, off + nv * 8 + j, none⟩ = some u) := fun w' hb' j u hu => by
    have h1 := hc j u hu
    have h2 : g < w.heap.size := World.block_lt_of_cell? w _ h1
    rw [World.cell?_of_block ((bnext HB1.out hb').block g h2)]
    exact h1
  have q2 := (hL.alloc (.cells #[.int .i64 t, .int .i64 u] 45)).cell 2 _ rfl
  clear R hc hL
  go_enter Try.func48, Try.ntmps48
  go_upto_region 2 with fail
  rw [← hw1]
  obtain ⟨n, hn⟩ : ∃ n, n = w.heap.size := ⟨_, rfl⟩
  rw [← hn] at HX1 ⊢
  clear hw1 hn q2
  have k0 := fun z : WIn (fun w' => Below w1.heap.size w1 w') => (HX1.out.below z.ok).cell 0 _ rfl
  have k1 := fun z : WIn (fun w' => Below w1.heap.size w1 w') => (HX1.out.below z.ok).cell 1 _ rfl
  have l0 := fun z : WIn (fun w' => Below w1.heap.size w1 w') => (HL1.out.below z.ok).cell 0 _ rfl
  have l1 := fun z : WIn (fun w' => Below w1.heap.size w1 w') => (HL1.out.below z.ok).cell 1 _ rfl
  have l2 := fun z : WIn (fun w' => Below w1.heap.size w1 w') => (HL1.out.below z.ok).cell 2 _ rfl
  have m3 := fun z : WIn (fun w' => Below w1.heap.size w1 w') => HC.out z.w z.ok 3 _ rfl
  have m4 := fun z : WIn (fun w' => Below w1.heap.size w1 w') => HC.out z.w z.ok 4 _ rfl
  have ne : Nonempty (WIn (fun w' => Below w1.heap.size w1 w')) := ⟨⟨w1, Below.refl _ _⟩⟩
  refine wp_region_ord (C := fun w' => ∃ z : WIn (fun w' => Below w1.heap.size w1 w'), w' = z.w) [(false, 0), (false, 1), (false, 2), (false, 3), (false, 4), (false, 5), (false, 6), (false, 7), (false, 8), (false, 9), (false, 10), (false, 11), (false, 12), (true, 13), (false, 14), (false, 15), (false, 16)] (by kernel_rfl) (by kernel_rfl) ⟨⟨w1.drew, (Below.refl _ _).drew⟩, rfl⟩ ?_
  iterate 13 (refine ord_still rfl rfl ?_; go_big_quiet_step (fail); refine wpQuiet_nil ?_)
  refine ord_mem rfl rfl ?_
  go_simp
  refine (HR.out _).mono ?_
  rintro r w2 ⟨rfl, hb2⟩
  have HB2 : Hid (Below w1.heap.size w1 w2) := below_undrew hb2
  clear hb2
  refine ⟨⟨⟨w2, HB2.out⟩, rfl⟩, ?_⟩
  iterate 3 (refine ord_still rfl rfl ?_; go_big_quiet_step (fail); refine wpQuiet_nil ?_)
  refine ord_end ?_
  go_wp2
  go_ret
  exact ⟨rfl, bnext HB1.out HB2.out⟩

theorem rlate_any {w : World} {o : Nat → Nat} {j lx : Nat} {W p : Int} {es : List Ent} (hL : RLogIs w o j lx W p es) (e : Ent) :
    Calls Try.prog 48 #[ptr lx, .agg #[.int .i64 e.t, .int .i64 e.u]] w fun q w' => q = .returned (.bool (!laterB es e)) ∧ Below w.heap.size w w' := by
  obtain ⟨v, ps, hA⟩ := hL
  have hes := hA.es
  subst hes
  obtain ⟨av, cv', rfl, h3, h4, _⟩ := hA.row.slice
  have hblk := hA.blk
  unfold laterB
  cases hl : (ps.map (·.1)).getLast? with
  | none =>
    have : ps = [] := by simpa using hl
    subst this
    exact rlate_nil hblk e.t e.u
  | some f =>
    obtain ⟨nv, y, h1, h2⟩ := getLast_map hl
    obtain ⟨g, off, rfl, hc⟩ := (rowE_c hA.row).at h2
    have hfew := hA.few
    rw [h1] at hblk h3 hfew
    exact rlate_more hblk (by omega) ⟨h3, by unfold maxLen at h4; omega⟩ hc e.t e.u
end
end Go.Proofs.Yteedjdflojfhmaa
