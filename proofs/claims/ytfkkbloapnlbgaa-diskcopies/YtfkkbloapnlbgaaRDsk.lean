/-
  The document's disk in memory (RAt): its block, two rows of writes, and their bytes, which stay.
-/
import Derived.Test.YtfkkbloapnlbgaaDsk3
import Derived.Test.YtfkkbloapnlbgaaRM
namespace Go.Proofs.Ytfkkbloapnlbgaa
set_option linter.unusedVariables false
set_option linter.unusedSimpArgs false
set_option synthInstance.maxSize 20000
set_option maxHeartbeats 2000000
set_option maxRecDepth 20000
open Go.RowKit Go.Maps

def rc (q : RW × Value) : List Value := [.int .i64 (q.1.i : Int), q.2, .bool q.1.t]
theorem rc_len (q : RW × Value) : (rc q).length = 3 := rfl
theorem ty38 : RowTy 38 73 3 40 (.agg #[.int .i64 0, .slice none 0 0, .bool false]) := ⟨by kernel_rfl, by kernel_rfl, rfl, by omega⟩
/-- Writes whose bytes are read, and stay. -/
def Stay (w : World) (o : Nat → Nat) (qs : List (RW × Value)) : Prop := ∀ q ∈ qs, Kp0 w o q.2 q.1.b
theorem Stay.mv {I : List Nat} {w w' : World} {o o' : Nat → Nat} {qs : List (RW × Value)} (h : Stay w o qs) (m : Mv I w o w' o') (h0 : 0 ∉ I) : Stay w' o' qs := fun q hq => (h q hq).mv m h0
theorem Stay.append {w : World} {o : Nat → Nat} {a b : List (RW × Value)} (h : Stay w o a) (k : Stay w o b) : Stay w o (a ++ b) := fun q hq => by
  rcases List.mem_append.1 hq with r | r
  · exact h q r
  · exact k q r
theorem stay_nil (w : World) (o : Nat → Nat) : Stay w o [] := fun q hq => by cases hq
theorem slice_one {w : World} {x : Value} {l : List Int} (h : Rd w x l) : x.oneCell' = true := by
  obtain ⟨a, c, rfl⟩ := h.len
  rfl
theorem Stay.one {w : World} {o : Nat → Nat} {qs : List (RW × Value)} (h : Stay w o qs) : ∀ u ∈ flat rc qs, u.oneCell' = true := flat_one fun q hq u hu => by
  unfold rc at hu
  simp at hu
  rcases hu with rfl | rfl | rfl
  · rfl
  · exact slice_one (h q hq).1
  · rfl

def rcells (gv pv : Value) (R : Rk) : List Value := [.int .i64 R.n, gv, pv, .int .i64 R.armed, .bool R.down, .bool R.midst, .int .i64 R.count]
structure RAt (w : World) (o : Nat → Nat) (j b : Nat) (gv pv : Value) (R : Rk) (gs ps : List (RW × Value)) : Prop where
  blk : Blk w b 40 (rcells gv pv R)
  g : w.ownsRow 0 73 3 gv gs.length (flat rc gs)
  p : w.ownsRow 0 73 3 pv ps.length (flat rc ps)
  eg : gs.map (·.1) = R.good
  ep : ps.map (·.1) = R.pend
  kg : Stay w o gs
  kp : Stay w o ps
  ob : o b = j
  og : ∀ k, gv.ownBlock = some k → o k = j ∧ k ≠ b
  op : ∀ k, pv.ownBlock = some k → o k = j ∧ k ≠ b
  gp : ∀ k, gv.ownBlock = some k → pv.ownBlock ≠ some k
def RIs (w : World) (o : Nat → Nat) (j b : Nat) (R : Rk) : Prop := ∃ gv pv gs ps, RAt w o j b gv pv R gs ps

section
variable {w w' : World} {o o' : Nat → Nat} {j b : Nat} {gv pv : Value} {R : Rk} {gs ps : List (RW × Value)}
theorem RAt.mv {I : List Nat} (h : RAt w o j b gv pv R gs ps) (m : Mv I w o w' o') (h0 : 0 ∉ I) (hj : j ∉ I) : RAt w' o' j b gv pv R gs ps := by
  have hb := h.blk.lt
  have hx : ∀ {v : Value} {e : TypeId} {k n : Nat} {xs : List Value}, w.ownsRow 0 e k v n xs → (∀ i, v.ownBlock = some i → o i = j ∧ i ≠ b) → w'.ownsRow 0 e k v n xs ∧ (∀ i, v.ownBlock = some i → o' i = j ∧ i ≠ b) := fun hr ho =>
    ⟨ownsRow_block hr (fun i hi => m.block i (hr.lt i hi).2 (by rw [(ho i hi).1]; exact hj)), fun i hi => ⟨by rw [m.ext i (hr.lt i hi).2]; exact (ho i hi).1, (ho i hi).2⟩⟩
  exact ⟨h.blk.block (m.block b hb (by rw [h.ob]; exact hj)), (hx h.g h.og).1, (hx h.p h.op).1, h.eg, h.ep, h.kg.mv m h0, h.kp.mv m h0, by rw [m.ext b hb]; exact h.ob, (hx h.g h.og).2, (hx h.p h.op).2, h.gp⟩
theorem RAt.below (h : RAt w o j b gv pv R gs ps) (hb : Below w.heap.size w w') : RAt w' (newTo o w 0) j b gv pv R gs ps := h.mv (Mv.of_below (I := []) 0 hb) (by simp) (by simp)
theorem RAt.cells {E : Rk} (h : RAt w o j b gv pv R gs ps) (hj : j ≠ 0) {w' : World} (hg : w.grownBy w' (some b)) (hB : Blk w' b 40 (rcells gv pv E)) (e1 : E.good = R.good) (e3 : E.pend = R.pend) : RAt w' o j b gv pv E gs ps ∧ Mv [j] w o w' o := by
  have hx : ∀ {v : Value} {e : TypeId} {k n : Nat} {xs : List Value}, w.ownsRow 0 e k v n xs → (∀ i, v.ownBlock = some i → o i = j ∧ i ≠ b) → w'.ownsRow 0 e k v n xs := fun hr ho =>
    ownsRow_block hr (fun i hi => hg.block i (hr.lt i hi).2 (fun e => (ho i hi).2 (Option.some.inj e)))
  have M : Mv [j] w o w' o := Mv.of_set hg (fun _ => by rw [h.ob]; simp)
  exact ⟨⟨hB, hx h.g h.og, hx h.p h.op, by rw [e1]; exact h.eg, by rw [e3]; exact h.ep, h.kg.mv M (by simp; omega), h.kp.mv M (by simp; omega), h.ob, h.og, h.op, h.gp⟩, M⟩
theorem RAt.setArmed (h : RAt w o j b gv pv R gs ps) (hj : j ≠ 0) (d : Int) : RAt (w.setCell ⟨b, 3, none⟩ (.int .i64 d)) o j b gv pv { R with armed := d } gs ps ∧ Mv [j] w o (w.setCell ⟨b, 3, none⟩ (.int .i64 d)) o :=
  h.cells hj (grown_setCell _ _ _ _) (h.blk.set 3 _) rfl rfl
theorem RAt.setDown (h : RAt w o j b gv pv R gs ps) (hj : j ≠ 0) (d : Bool) : RAt (w.setCell ⟨b, 4, none⟩ (.bool d)) o j b gv pv { R with down := d } gs ps ∧ Mv [j] w o (w.setCell ⟨b, 4, none⟩ (.bool d)) o :=
  h.cells hj (grown_setCell _ _ _ _) (h.blk.set 4 _) rfl rfl
theorem RAt.setMidst (h : RAt w o j b gv pv R gs ps) (hj : j ≠ 0) (d : Bool) : RAt (w.setCell ⟨b, 5, none⟩ (.bool d)) o j b gv pv { R with midst := d } gs ps ∧ Mv [j] w o (w.setCell ⟨b, 5, none⟩ (.bool d)) o :=
  h.cells hj (grown_setCell _ _ _ _) (h.blk.set 5 _) rfl rfl
theorem RAt.setCount (h : RAt w o j b gv pv R gs ps) (hj : j ≠ 0) (d : Int) : RAt (w.setCell ⟨b, 6, none⟩ (.int .i64 d)) o j b gv pv { R with count := d } gs ps ∧ Mv [j] w o (w.setCell ⟨b, 6, none⟩ (.int .i64 d)) o :=
  h.cells hj (grown_setCell _ _ _ _) (h.blk.set 6 _) rfl rfl
/-- Writes come behind those that are pending. -/
theorem RAt.addPend {w5 : World} {pv' : Value} {qs : List (RW × Value)} (h : RAt w o j b gv pv R gs ps) (hj : j ≠ 0) (hq : Stay w o qs) (hg : w.grownBy w5 pv.ownBlock) (hrow : w5.ownsRow 0 73 3 pv' (ps ++ qs).length (flat rc (ps ++ qs))) (hwh : ∀ k, pv'.ownBlock = some k → pv.ownBlock = some k ∨ w.heap.size ≤ k) :
    ∃ o', RAt (w5.setCell ⟨b, 2, none⟩ pv') o' j b gv pv' { R with pend := R.pend ++ qs.map (·.1) } gs (ps ++ qs) ∧ Mv [j] w o (w5.setCell ⟨b, 2, none⟩ pv') o' := by
  have hb := h.blk.lt
  have G2 := grown_setCell w5 b 2 pv'
  have M : Mv [j] w o (w5.setCell ⟨b, 2, none⟩ pv') (newBy o w (fun k => if pv'.ownBlock = some k then j else 0)) := by
    refine ⟨G2.os.trans hg.os, G2.tape.trans hg.tape, G2.output.trans hg.output, Nat.le_trans hg.size G2.size, fun k hk => newBy_old hk, fun k hk hn => ?_⟩
    refine (G2.block k (Nat.lt_of_lt_of_le hk hg.size) (fun e => hn ?_)).trans (hg.block k hk (fun e => hn ?_))
    · have := Option.some.inj e
      subst this
      rw [h.ob]; simp
    · rw [(h.op k e.symm).1]; simp
  have hkb : ∀ k, pv'.ownBlock = some k → k ≠ b := fun k hk => by
    rcases hwh k hk with r | r
    · exact (h.op k r).2
    · omega
  have h0 : (0 : Nat) ∉ [j] := by simp; omega
  refine ⟨_, ⟨(h.blk.past' hg (fun e => (h.op b e).2 rfl)).set 2 pv', ?_, ?_, h.eg, by rw [List.map_append, h.ep], h.kg.mv M h0, (h.kp.mv M h0).append (hq.mv M h0), ?_, fun k hk => ⟨?_, (h.og k hk).2⟩, fun k hk => ⟨?_, hkb k hk⟩, fun k hk e => ?_⟩, M⟩
  · exact ownsRow_block h.g (fun i hi => (G2.block i (Nat.lt_of_lt_of_le (h.g.lt i hi).2 hg.size) (fun e => (h.og i hi).2 (Option.some.inj e))).trans (hg.block i (h.g.lt i hi).2 (fun e => h.gp i hi e.symm)))
  · exact ownsRow_block hrow (fun k hk => G2.block k (hrow.lt k hk).2 (fun e => hkb k hk (Option.some.inj e)))
  · rw [newBy_old hb]; exact h.ob
  · rw [newBy_old (h.g.lt k hk).2]; exact (h.og k hk).1
  · rcases hwh k hk with r | r
    · rw [newBy_old (h.p.lt k r).2]; exact (h.op k r).1
    · rw [newBy_new r]; exact if_pos hk
  · rcases hwh k e with r | r
    · exact h.gp k hk r
    · have := (h.g.lt k hk).2; omega
/-- Writes come behind those that are there for good. -/
theorem RAt.addGood {w5 : World} {gv' : Value} {qs : List (RW × Value)} (h : RAt w o j b gv pv R gs ps) (hj : j ≠ 0) (hq : Stay w o qs) (hg : w.grownBy w5 gv.ownBlock) (hrow : w5.ownsRow 0 73 3 gv' (gs ++ qs).length (flat rc (gs ++ qs))) (hwh : ∀ k, gv'.ownBlock = some k → gv.ownBlock = some k ∨ w.heap.size ≤ k) :
    ∃ o', RAt (w5.setCell ⟨b, 1, none⟩ gv') o' j b gv' pv { R with good := R.good ++ qs.map (·.1) } (gs ++ qs) ps ∧ Mv [j] w o (w5.setCell ⟨b, 1, none⟩ gv') o' := by
  have hb := h.blk.lt
  have G2 := grown_setCell w5 b 1 gv'
  have M : Mv [j] w o (w5.setCell ⟨b, 1, none⟩ gv') (newBy o w (fun k => if gv'.ownBlock = some k then j else 0)) := by
    refine ⟨G2.os.trans hg.os, G2.tape.trans hg.tape, G2.output.trans hg.output, Nat.le_trans hg.size G2.size, fun k hk => newBy_old hk, fun k hk hn => ?_⟩
    refine (G2.block k (Nat.lt_of_lt_of_le hk hg.size) (fun e => hn ?_)).trans (hg.block k hk (fun e => hn ?_))
    · have := Option.some.inj e
      subst this
      rw [h.ob]; simp
    · rw [(h.og k e.symm).1]; simp
  have hkb : ∀ k, gv'.ownBlock = some k → k ≠ b := fun k hk => by
    rcases hwh k hk with r | r
    · exact (h.og k r).2
    · omega
  have h0 : (0 : Nat) ∉ [j] := by simp; omega
  refine ⟨_, ⟨(h.blk.past' hg (fun e => (h.og b e).2 rfl)).set 1 gv', ?_, ?_, by rw [List.map_append, h.eg], h.ep, (h.kg.mv M h0).append (hq.mv M h0), h.kp.mv M h0, ?_, fun k hk => ⟨?_, hkb k hk⟩, fun k hk => ⟨?_, (h.op k hk).2⟩, fun k hk e => ?_⟩, M⟩
  · exact ownsRow_block hrow (fun k hk => G2.block k (hrow.lt k hk).2 (fun e => hkb k hk (Option.some.inj e)))
  · exact ownsRow_block h.p (fun i hi => (G2.block i (Nat.lt_of_lt_of_le (h.p.lt i hi).2 hg.size) (fun e => (h.op i hi).2 (Option.some.inj e))).trans (hg.block i (h.p.lt i hi).2 (fun e => h.gp i e.symm hi)))
  · rw [newBy_old hb]; exact h.ob
  · rcases hwh k hk with r | r
    · rw [newBy_old (h.g.lt k r).2]; exact (h.og k r).1
    · rw [newBy_new r]; exact if_pos hk
  · rw [newBy_old (h.p.lt k hk).2]; exact (h.op k hk).1
  · rcases hwh k hk with r | r
    · exact h.gp k r e
    · have := (h.p.lt k e).2; omega
theorem RAt.noPend (h : RAt w o j b gv pv R gs ps) (hj : j ≠ 0) : RAt (w.setCell ⟨b, 2, none⟩ (.slice none 0 0)) o j b gv (.slice none 0 0) { R with pend := [] } gs [] ∧ Mv [j] w o (w.setCell ⟨b, 2, none⟩ (.slice none 0 0)) o := by
  have G2 := grown_setCell w b 2 (.slice none 0 0)
  have M : Mv [j] w o (w.setCell ⟨b, 2, none⟩ (.slice none 0 0)) o := Mv.of_set G2 (fun _ => by rw [h.ob]; simp)
  exact ⟨⟨h.blk.set 2 _, ownsRow_block h.g (fun i hi => G2.block i (h.g.lt i hi).2 (fun e => (h.og i hi).2 (Option.some.inj e))), World.ownsRow_nil _ _ _ _, h.eg, rfl, h.kg.mv M (by simp; omega), stay_nil _ _, h.ob, h.og, (fun k hk => by cases hk), (fun k _ hk => by cases hk)⟩, M⟩
theorem RAt.c0 (h : RAt w o j b gv pv R gs ps) : w.cell? ⟨b, 0, none⟩ = some (.int .i64 R.n) := h.blk.cell 0 _ rfl
theorem RAt.c1 (h : RAt w o j b gv pv R gs ps) : w.cell? ⟨b, 1, none⟩ = some gv := h.blk.cell 1 _ rfl
theorem RAt.c2 (h : RAt w o j b gv pv R gs ps) : w.cell? ⟨b, 2, none⟩ = some pv := h.blk.cell 2 _ rfl
theorem RAt.c3 (h : RAt w o j b gv pv R gs ps) : w.cell? ⟨b, 3, none⟩ = some (.int .i64 R.armed) := h.blk.cell 3 _ rfl
theorem RAt.c4 (h : RAt w o j b gv pv R gs ps) : w.cell? ⟨b, 4, none⟩ = some (.bool R.down) := h.blk.cell 4 _ rfl
theorem RAt.c5 (h : RAt w o j b gv pv R gs ps) : w.cell? ⟨b, 5, none⟩ = some (.bool R.midst) := h.blk.cell 5 _ rfl
theorem RAt.c6 (h : RAt w o j b gv pv R gs ps) : w.cell? ⟨b, 6, none⟩ = some (.int .i64 R.count) := h.blk.cell 6 _ rfl
theorem RAt.gl (h : RAt w o j b gv pv R gs ps) : gs.length = R.good.length := by rw [← h.eg, List.length_map]
theorem RAt.pl (h : RAt w o j b gv pv R gs ps) : ps.length = R.pend.length := by rw [← h.ep, List.length_map]
end
theorem RIs.mv {I : List Nat} {w w' : World} {o o' : Nat → Nat} {j b : Nat} {R : Rk} (h : RIs w o j b R) (m : Mv I w o w' o') (h0 : 0 ∉ I) (hj : j ∉ I) : RIs w' o' j b R := by
  obtain ⟨gv, pv, gs, ps, h⟩ := h
  exact ⟨gv, pv, gs, ps, h.mv m h0 hj⟩
theorem RIs.below {w w' : World} {o : Nat → Nat} {j b : Nat} {R : Rk} (h : RIs w o j b R) (hb : Below w.heap.size w w') : RIs w' (newTo o w 0) j b R := h.mv (Mv.of_below (I := []) 0 hb) (by simp) (by simp)
/-- A new one. -/
theorem ris_new (w : World) (o : Nat → Nat) (j : Nat) (R : Rk) (hg : R.good = []) (hp : R.pend = []) : RIs (w.alloc (.cells (rcells (.slice none 0 0) (.slice none 0 0) R).toArray 40)) (newTo o w j) j w.heap.size R :=
  ⟨_, _, [], [], blk_new w _ 40, World.ownsRow_nil _ _ _ _, World.ownsRow_nil _ _ _ _, by rw [hg]; rfl, by rw [hp]; rfl, stay_nil _ _, stay_nil _ _, newTo_new (Nat.le_refl _), (fun k hk => by cases hk), (fun k hk => by cases hk), (fun k hk => by cases hk)⟩
end Go.Proofs.Ytfkkbloapnlbgaa
