/-
  A disk in memory (DAt): its block of seven cells, and three rows of its own; what each store leaves of it.
-/
import Derived.Test.YtkcighejmjgalaaDoorRowsF
import Derived.Test.YtkcighejmjgalaaDoorDskM
namespace Go.Proofs.YtkcighejmjgalaaDoor
set_option linter.unusedVariables false
set_option linter.unusedSimpArgs false
set_option synthInstance.maxSize 20000
set_option maxHeartbeats 2000000
set_option maxRecDepth 20000
open Go.RowKit Go.Maps

theorem Blk.set {w : World} {b : Nat} {e : TypeId} {vs : List Value} (h : Blk w b e vs) (i : Nat) (u : Value) : Blk (w.setCell ⟨b, i, none⟩ u) b e (vs.set i u) := by
  unfold Blk
  rw [heap_setCell_same w b i vs.toArray e u h]
  simp
theorem Blk.drew {w : World} {b : Nat} {e : TypeId} {vs : List Value} (h : Blk w b e vs) : Blk w.drew b e vs := h
theorem grown_drew {w w' : World} {r : Option Nat} (h : w.grownBy w' r) : w.grownBy w'.drew r := ⟨h.os, h.tape, h.output, h.size, h.block⟩
theorem grown_undrew {w w' : World} {r : Option Nat} (h : w.drew.grownBy w' r) : w.grownBy w' r := ⟨h.os, h.tape, h.output, h.size, h.block⟩
theorem mv_drewn {I : List Nat} (w : World) (o : Nat → Nat) : Mv I w o w.drew o := ⟨rfl, rfl, rfl, Nat.le_refl _, fun _ _ => rfl, fun _ _ _ => rfl⟩
theorem mv_undrew {I : List Nat} {w w' : World} {o o' : Nat → Nat} (h : Mv I w.drew o w' o') : Mv I w o w' o' := ⟨h.os, h.tape, h.output, h.size, h.ext, h.block⟩

def stI (d : Bool) : Int := if d then 1 else 0
def dcells (gv nv pv : Value) (D : Dk) : List Value := [gv, nv, pv, .int .i64 (stI D.down), .bool D.armed, .int .i64 D.left, .int .i64 D.writes]
structure DAt (w : World) (o : Nat → Nat) (j b : Nat) (gv nv pv : Value) (D : Dk) : Prop where
  blk : Blk w b 57 (dcells gv nv pv D)
  g : w.ownsRow 0 76 65 gv D.good.length (flat kc D.good)
  n : w.ownsRow 0 76 65 nv D.now.length (flat kc D.now)
  p : w.ownsRow 0 79 66 pv D.pend.length (flat wc D.pend)
  ob : o b = j
  og : ∀ k, gv.ownBlock = some k → o k = j ∧ k ≠ b
  on : ∀ k, nv.ownBlock = some k → o k = j ∧ k ≠ b
  op : ∀ k, pv.ownBlock = some k → o k = j ∧ k ≠ b
  gn : ∀ k, gv.ownBlock = some k → nv.ownBlock ≠ some k
  gp : ∀ k, gv.ownBlock = some k → pv.ownBlock ≠ some k
  np : ∀ k, nv.ownBlock = some k → pv.ownBlock ≠ some k
def DIs (w : World) (o : Nat → Nat) (j b : Nat) (D : Dk) : Prop := ∃ gv nv pv, DAt w o j b gv nv pv D

theorem Mv.of_grown {I : List Nat} {w w' : World} {o : Nat → Nat} {r : Option Nat} (h : w.grownBy w' r) (hr : ∀ k, r = some k → k < w.heap.size → o k ∈ I) : Mv I w o w' (newTo o w 0) :=
  Mv.of_turn 0 (turn_grown h) (fun k hk hlt => by
    cases r with
    | none => cases hk
    | some c =>
      simp at hk
      subst hk
      exact hr _ rfl hlt)
/-- A step that makes no block needs no new owners. -/
theorem Mv.of_set {I : List Nat} {w w' : World} {o : Nat → Nat} {g : Nat} (h : w.grownBy w' (some g)) (hg : g < w.heap.size → o g ∈ I) : Mv I w o w' o :=
  ⟨h.os, h.tape, h.output, h.size, fun _ _ => rfl, fun k hk hn => h.block k hk (fun e => by have := Option.some.inj e; subst this; exact hn (hg hk))⟩

section
variable {w w' : World} {o o' : Nat → Nat} {j b : Nat} {gv nv pv : Value} {D : Dk}
theorem DAt.mv {I : List Nat} (h : DAt w o j b gv nv pv D) (m : Mv I w o w' o') (hj : j ∉ I) : DAt w' o' j b gv nv pv D := by
  have hb := h.blk.lt
  have hx : ∀ {v : Value} {e : TypeId} {k n : Nat} {xs : List Value}, w.ownsRow 0 e k v n xs → (∀ i, v.ownBlock = some i → o i = j ∧ i ≠ b) → w'.ownsRow 0 e k v n xs ∧ (∀ i, v.ownBlock = some i → o' i = j ∧ i ≠ b) := fun hr ho =>
    ⟨ownsRow_block hr (fun i hi => m.block i (hr.lt i hi).2 (by rw [(ho i hi).1]; exact hj)), fun i hi => ⟨by rw [m.ext i (hr.lt i hi).2]; exact (ho i hi).1, (ho i hi).2⟩⟩
  exact ⟨h.blk.block (m.block b hb (by rw [h.ob]; exact hj)), (hx h.g h.og).1, (hx h.n h.on).1, (hx h.p h.op).1, by rw [m.ext b hb]; exact h.ob, (hx h.g h.og).2, (hx h.n h.on).2, (hx h.p h.op).2, h.gn, h.gp, h.np⟩
theorem DAt.below (h : DAt w o j b gv nv pv D) (hb : Below w.heap.size w w') : DAt w' (newTo o w 0) j b gv nv pv D := h.mv (Mv.of_below (I := []) 0 hb) (by simp)
/-- The first three cells stay, the last four turn. -/
theorem DAt.cells {E : Dk} (h : DAt w o j b gv nv pv D) {w' : World} (hg : w.grownBy w' (some b)) (hB : Blk w' b 57 (dcells gv nv pv E)) (e1 : E.good = D.good) (e2 : E.now = D.now) (e3 : E.pend = D.pend) : DAt w' o j b gv nv pv E ∧ Mv [j] w o w' o := by
  have hx : ∀ {v : Value} {e : TypeId} {k n : Nat} {xs : List Value}, w.ownsRow 0 e k v n xs → (∀ i, v.ownBlock = some i → o i = j ∧ i ≠ b) → w'.ownsRow 0 e k v n xs := fun hr ho =>
    ownsRow_block hr (fun i hi => hg.block i (hr.lt i hi).2 (fun e => (ho i hi).2 (Option.some.inj e)))
  refine ⟨⟨hB, ?_, ?_, ?_, h.ob, h.og, h.on, h.op, h.gn, h.gp, h.np⟩, Mv.of_set hg (fun _ => by rw [h.ob]; simp)⟩
  · rw [e1]; exact hx h.g h.og
  · rw [e2]; exact hx h.n h.on
  · rw [e3]; exact hx h.p h.op
theorem DAt.setSt (h : DAt w o j b gv nv pv D) (d : Bool) : DAt (w.setCell ⟨b, 3, none⟩ (.int .i64 (stI d))) o j b gv nv pv { D with down := d } ∧ Mv [j] w o (w.setCell ⟨b, 3, none⟩ (.int .i64 (stI d))) o :=
  h.cells (grown_setCell _ _ _ _) (h.blk.set 3 _) rfl rfl rfl
theorem DAt.setArmed (h : DAt w o j b gv nv pv D) (d : Bool) : DAt (w.setCell ⟨b, 4, none⟩ (.bool d)) o j b gv nv pv { D with armed := d } ∧ Mv [j] w o (w.setCell ⟨b, 4, none⟩ (.bool d)) o :=
  h.cells (grown_setCell _ _ _ _) (h.blk.set 4 _) rfl rfl rfl
theorem DAt.setLeft (h : DAt w o j b gv nv pv D) (d : Int) : DAt (w.setCell ⟨b, 5, none⟩ (.int .i64 d)) o j b gv nv pv { D with left := d } ∧ Mv [j] w o (w.setCell ⟨b, 5, none⟩ (.int .i64 d)) o :=
  h.cells (grown_setCell _ _ _ _) (h.blk.set 5 _) rfl rfl rfl
theorem DAt.setWrites (h : DAt w o j b gv nv pv D) (d : Int) : DAt (w.setCell ⟨b, 6, none⟩ (.int .i64 d)) o j b gv nv pv { D with writes := d } ∧ Mv [j] w o (w.setCell ⟨b, 6, none⟩ (.int .i64 d)) o :=
  h.cells (grown_setCell _ _ _ _) (h.blk.set 6 _) rfl rfl rfl
theorem own_of_slice {v : Value} {e : TypeId} {k n : Nat} {xs : List Value} (h : w.ownsRow 0 e k v n xs) (hn : 0 < n) : ∃ g cap, v = .slice (some ⟨g, 0, none⟩) n cap ∧ n ≤ cap ∧ cap ≤ 9223372036854775807 ∧ g < w.heap.size := by
  have hlt := h.lt
  rcases h.2 with ⟨rfl, h0⟩ | ⟨g, cap, cur, rfl, h3, h4, h5, h6, _⟩
  · omega
  · exact ⟨g, cap, rfl, h5, h6, (hlt g rfl).2⟩
/-- A sector of what is there now is written. -/
theorem DAt.setNow {g n cap : Nat} (h : DAt w o j b gv (.slice (some ⟨g, 0, none⟩) n cap) pv D) {i : Nat} (hi : i < D.now.length) (s : Sec) :
    DAt (w.setCells g (i * 65) (kc s)) o j b gv (.slice (some ⟨g, 0, none⟩) n cap) pv { D with now := D.now.set i s } ∧ Mv [j] w o (w.setCells g (i * 65) (kc s)) o := by
  have hG := grown_setCells g (kc s) (i * 65) w
  have hn : n = D.now.length := row_len kc_len (by omega) (by
    have := h.n
    rcases this.2 with ⟨e, _⟩ | ⟨g', cap', cur, e, _⟩
    · cases e
    · cases e; exact this)
  have ob := h.on g rfl
  refine ⟨⟨h.blk.past' hG (fun e => ob.2 (Option.some.inj e)), ?_, ?_, ?_, h.ob, h.og, h.on, h.op, h.gn, h.gp, h.np⟩, Mv.of_set hG (fun _ => by rw [ob.1]; simp)⟩
  · exact ownsRow_block h.g (fun k hk => hG.block k (h.g.lt k hk).2 (fun e => h.gn k hk (by have := Option.some.inj e; subst this; rfl)))
  · have := h.n
    rw [← hn] at this
    have h2 := row_put kc_len this hi hn s
    dsimp only
    rw [List.length_set, ← hn]
    exact h2
  · exact ownsRow_block h.p (fun k hk => hG.block k (h.p.lt k hk).2 (fun e => h.np g rfl (by have := Option.some.inj e; subst this; exact hk)))
/-- A sector of what is there for good is written. -/
theorem DAt.setGood {g n cap : Nat} (h : DAt w o j b (.slice (some ⟨g, 0, none⟩) n cap) nv pv D) {i : Nat} (hi : i < D.good.length) (s : Sec) :
    DAt (w.setCells g (i * 65) (kc s)) o j b (.slice (some ⟨g, 0, none⟩) n cap) nv pv { D with good := D.good.set i s } ∧ Mv [j] w o (w.setCells g (i * 65) (kc s)) o := by
  have hG := grown_setCells g (kc s) (i * 65) w
  have hn : n = D.good.length := row_len kc_len (by omega) (by
    have := h.g
    rcases this.2 with ⟨e, _⟩ | ⟨g', cap', cur, e, _⟩
    · cases e
    · cases e; exact this)
  have ob := h.og g rfl
  refine ⟨⟨h.blk.past' hG (fun e => ob.2 (Option.some.inj e)), ?_, ?_, ?_, h.ob, h.og, h.on, h.op, h.gn, h.gp, h.np⟩, Mv.of_set hG (fun _ => by rw [ob.1]; simp)⟩
  · have := h.g
    rw [← hn] at this
    have h2 := row_put kc_len this hi hn s
    dsimp only
    rw [List.length_set, ← hn]
    exact h2
  · exact ownsRow_block h.n (fun k hk => hG.block k (h.n.lt k hk).2 (fun e => h.gn g rfl (by have := Option.some.inj e; subst this; exact hk)))
  · exact ownsRow_block h.p (fun k hk => hG.block k (h.p.lt k hk).2 (fun e => h.gp g rfl (by have := Option.some.inj e; subst this; exact hk)))
/-- What is there now becomes what is there for good. -/
theorem DAt.copyNow {g n cap : Nat} (h : DAt w o j b gv (.slice (some ⟨g, 0, none⟩) n cap) pv D) (hl : D.good.length = D.now.length) :
    DAt (w.setCells g 0 (flat kc D.good)) o j b gv (.slice (some ⟨g, 0, none⟩) n cap) pv { D with now := D.good } ∧ Mv [j] w o (w.setCells g 0 (flat kc D.good)) o := by
  have hG := grown_setCells g (flat kc D.good) 0 w
  have hn : n = D.now.length := row_len kc_len (by omega) (by
    have := h.n
    rcases this.2 with ⟨e, _⟩ | ⟨g', cap', cur, e, _⟩
    · cases e
    · cases e; exact this)
  have ob := h.on g rfl
  refine ⟨⟨h.blk.past' hG (fun e => ob.2 (Option.some.inj e)), ?_, ?_, ?_, h.ob, h.og, h.on, h.op, h.gn, h.gp, h.np⟩, Mv.of_set hG (fun _ => by rw [ob.1]; simp)⟩
  · exact ownsRow_block h.g (fun k hk => hG.block k (h.g.lt k hk).2 (fun e => h.gn k hk (by have := Option.some.inj e; subst this; rfl)))
  · have := h.n
    rw [← hn] at this
    have h2 := row_copied (qs := D.good) kc_len this (by omega)
    dsimp only
    rw [hl, ← hn]
    exact h2
  · exact ownsRow_block h.p (fun k hk => hG.block k (h.p.lt k hk).2 (fun e => h.np g rfl (by have := Option.some.inj e; subst this; exact hk)))
/-- One more is pending: behind append (from the world w on, in which only blocks came), and the store. -/
theorem DAt.addPend {w5 : World} {pv' : Value} {q : Wr} (h : DAt w o j b gv nv pv D) (hg : w.grownBy w5 pv.ownBlock) (hrow : w5.ownsRow 0 79 66 pv' (D.pend ++ [q]).length (flat wc (D.pend ++ [q]))) (hwh : ∀ k, pv'.ownBlock = some k → pv.ownBlock = some k ∨ w.heap.size ≤ k) :
    ∃ o', DAt (w5.setCell ⟨b, 2, none⟩ pv') o' j b gv nv pv' { D with pend := D.pend ++ [q] } ∧ Mv [j] w o (w5.setCell ⟨b, 2, none⟩ pv') o' := by
  have hb := h.blk.lt
  have G2 := grown_setCell w5 b 2 pv'
  have M : Mv [j] w o (w5.setCell ⟨b, 2, none⟩ pv') (newBy o w (fun k => if pv'.ownBlock = some k then j else 0)) := by
    refine ⟨G2.os.trans hg.os, G2.tape.trans hg.tape, G2.output.trans hg.output, Nat.le_trans hg.size G2.size, fun k hk => newBy_old hk, fun k hk hn => ?_⟩
    refine (G2.block k (Nat.lt_of_lt_of_le hk hg.size) (fun e => hn ?_)).trans (hg.block k hk (fun e => hn ?_))
    · have := Option.some.inj e
      subst this
      rw [h.ob]; simp
    · rw [(h.op k e.symm).1]; simp
  have hkb : ∀ k, pv'.ownBlock = some k → k ≠ b := fun k hk => by
    rcases hwh k hk with r | r
    · exact (h.op k r).2
    · omega
  have hx : ∀ {v : Value} {e : TypeId} {k n : Nat} {xs : List Value}, w.ownsRow 0 e k v n xs → (∀ i, v.ownBlock = some i → o i = j ∧ i ≠ b) → (∀ i, v.ownBlock = some i → pv.ownBlock ≠ some i) →
      (w5.setCell ⟨b, 2, none⟩ pv').ownsRow 0 e k v n xs ∧ (∀ i, v.ownBlock = some i → newBy o w (fun k => if pv'.ownBlock = some k then j else 0) i = j ∧ i ≠ b) ∧ (∀ i, v.ownBlock = some i → pv'.ownBlock ≠ some i) := fun hr ho hp =>
    ⟨ownsRow_block hr (fun i hi => (G2.block i (Nat.lt_of_lt_of_le (hr.lt i hi).2 hg.size) (fun e => (ho i hi).2 (Option.some.inj e))).trans (hg.block i (hr.lt i hi).2 (fun e => hp i hi e.symm))),
      fun i hi => ⟨by rw [newBy_old (hr.lt i hi).2]; exact (ho i hi).1, (ho i hi).2⟩, fun i hi e => by
        rcases hwh i e with r | r
        · exact hp i hi r
        · have := (hr.lt i hi).2; omega⟩
  refine ⟨_, ⟨?_, (hx h.g h.og h.gp).1, (hx h.n h.on h.np).1, ?_, ?_, (hx h.g h.og h.gp).2.1, (hx h.n h.on h.np).2.1, fun k hk => ⟨?_, hkb k hk⟩, h.gn, (hx h.g h.og h.gp).2.2, (hx h.n h.on h.np).2.2⟩, M⟩
  · exact (h.blk.past' hg (fun e => (h.op b e).2 rfl)).set 2 pv'
  · exact ownsRow_block hrow (fun k hk => G2.block k (hrow.lt k hk).2 (fun e => hkb k hk (Option.some.inj e)))
  · rw [newBy_old hb]; exact h.ob
  · rcases hwh k hk with r | r
    · rw [newBy_old (h.p.lt k r).2]; exact (h.op k r).1
    · rw [newBy_new r]; exact if_pos hk
/-- Nothing is pending. -/
theorem DAt.noPend (h : DAt w o j b gv nv pv D) : DAt (w.setCell ⟨b, 2, none⟩ (.slice none 0 0)) o j b gv nv (.slice none 0 0) { D with pend := [] } ∧ Mv [j] w o (w.setCell ⟨b, 2, none⟩ (.slice none 0 0)) o := by
  have G2 := grown_setCell w b 2 (.slice none 0 0)
  have hx : ∀ {v : Value} {e : TypeId} {k n : Nat} {xs : List Value}, w.ownsRow 0 e k v n xs → (∀ i, v.ownBlock = some i → o i = j ∧ i ≠ b) → (w.setCell ⟨b, 2, none⟩ (.slice none 0 0)).ownsRow 0 e k v n xs := fun hr ho =>
    ownsRow_block hr (fun i hi => G2.block i (hr.lt i hi).2 (fun e => (ho i hi).2 (Option.some.inj e)))
  exact ⟨⟨h.blk.set 2 _, hx h.g h.og, hx h.n h.on, World.ownsRow_nil _ _ _ _, h.ob, h.og, h.on, (fun k hk => by cases hk), h.gn, (fun k _ hk => by cases hk), (fun k _ hk => by cases hk)⟩, Mv.of_set G2 (fun _ => by rw [h.ob]; simp)⟩
theorem DAt.c0 (h : DAt w o j b gv nv pv D) : w.cell? ⟨b, 0, none⟩ = some gv := h.blk.cell 0 _ rfl
theorem DAt.c1 (h : DAt w o j b gv nv pv D) : w.cell? ⟨b, 1, none⟩ = some nv := h.blk.cell 1 _ rfl
theorem DAt.c2 (h : DAt w o j b gv nv pv D) : w.cell? ⟨b, 2, none⟩ = some pv := h.blk.cell 2 _ rfl
theorem DAt.c3 (h : DAt w o j b gv nv pv D) : w.cell? ⟨b, 3, none⟩ = some (.int .i64 (stI D.down)) := h.blk.cell 3 _ rfl
theorem DAt.c4 (h : DAt w o j b gv nv pv D) : w.cell? ⟨b, 4, none⟩ = some (.bool D.armed) := h.blk.cell 4 _ rfl
theorem DAt.c5 (h : DAt w o j b gv nv pv D) : w.cell? ⟨b, 5, none⟩ = some (.int .i64 D.left) := h.blk.cell 5 _ rfl
theorem DAt.c6 (h : DAt w o j b gv nv pv D) : w.cell? ⟨b, 6, none⟩ = some (.int .i64 D.writes) := h.blk.cell 6 _ rfl
end
theorem DIs.mv {I : List Nat} {w w' : World} {o o' : Nat → Nat} {j b : Nat} {D : Dk} (h : DIs w o j b D) (m : Mv I w o w' o') (hj : j ∉ I) : DIs w' o' j b D := by
  obtain ⟨gv, nv, pv, h⟩ := h
  exact ⟨gv, nv, pv, h.mv m hj⟩
theorem DIs.below {w w' : World} {o : Nat → Nat} {j b : Nat} {D : Dk} (h : DIs w o j b D) (hb : Below w.heap.size w w') : DIs w' (newTo o w 0) j b D := h.mv (Mv.of_below (I := []) 0 hb) (by simp)
end Go.Proofs.YtkcighejmjgalaaDoor
