/-
  What each part of an operation's text is taken to.
-/
import Derived.Test.YtcchokedfbogfaaTxt
namespace Go.Proofs.Ytcchokedfbogfaa
set_option linter.unusedVariables false
set_option linter.unusedSimpArgs false
set_option synthInstance.maxSize 20000
set_option maxHeartbeats 2000000
set_option maxRecDepth 20000
open Go.RowKit Go.Maps

/-- A value that is no byte. -/
def noB (u : Value) : Bool := match u with
  | .int .u8 _ => false
  | _ => true
/-- Bytes stay while a block without bytes is written: they lie in no such block. -/
theorem Rd.pastX {w w' : World} {v : Value} {l : List Int} {c : Nat} {e : TypeId} {vs : List Value} (h : Rd w v l) (hX : Blk w c e vs) (hn : ∀ u ∈ vs, noB u = true) (hg : w.grownBy w' (some c)) : Rd w' v l := by
  obtain ⟨ho, a, cap, rfl, h1, h2, h3, h4⟩ := h
  refine ⟨ho, a, cap, rfl, h1, h2, h3, fun hp => ?_⟩
  obtain ⟨d, off, rfl, hc⟩ := h4 hp
  refine ⟨d, off, rfl, fun j hj => hg.cell (hc j hj) fun e => ?_⟩
  obtain rfl : d = c := by simpa using e
  have hcj := hc j hj
  have : vs[off + j]? = some (.int .u8 (l.getD j 0)) := by
    unfold Blk at hX
    simpa [World.cell?, hX] using hcj
  have := hn _ (List.mem_of_getElem? this)
  cases this
theorem Rdr.pastX {w w' : World} {b c : Nat} {l : List Int} {k : Int} {e : TypeId} {vs : List Value} (h : Rdr w b l k) (hX : Blk w c e vs) (hn : ∀ u ∈ vs, noB u = true) (hg : w.grownBy w' (some c)) (hb : b ≠ c) : Rdr w' b l k := by
  obtain ⟨v, hv, hrd⟩ := h.left
  have hbl : w'.heap[b]? = w.heap[b]? := hg.block b (World.block_lt_of_cell? w _ hv) (fun e => hb (Option.some.inj e))
  exact ⟨⟨v, (World.cell?_of_block hbl).trans hv, hrd.pastX hX hn hg⟩, (World.cell?_of_block hbl).trans h.wrong, (World.frozen?_of_block hbl).trans h.f0, (World.frozen?_of_block hbl).trans h.f1, fun o ho => (World.cell?_of_block hbl).trans (h.two o ho), h.gone⟩
theorem oc_noB (q : OpT) : ∀ u ∈ oc q, noB u = true := fun u hu => by
  simp only [oc, List.mem_cons, List.not_mem_nil, or_false] at hu
  rcases hu with rfl | rfl | rfl | rfl | rfl | rfl | rfl | rfl | rfl | rfl <;> rfl
/-- The operation that is read, and its reader. -/
structure RSt (w : World) (rb ob : Nat) (l : List Int) (k : Int) (q : OpT) : Prop where
  rd : Rdr w rb l k
  blk : Blk w ob 26 (oc q)
  dat : Rd w q.v q.b
  ne : rb ≠ ob
theorem RSt.below {w w' : World} {rb ob : Nat} {l : List Int} {k : Int} {q : OpT} (h : RSt w rb ob l k q) (hb : Below w.heap.size w w') : RSt w' rb ob l k q :=
  ⟨h.rd.kept (below_grown hb), h.blk.below hb, h.dat.below hb, h.ne⟩
/-- The reader has gone on. -/
theorem RSt.read {w w' : World} {rb ob : Nat} {l l' : List Int} {k k' : Int} {q : OpT} (h : RSt w rb ob l k q) (hr : Rdr w' rb l' k') (hg : w.grownBy w' (some rb)) : RSt w' rb ob l' k' q :=
  ⟨hr, h.blk.past hg (fun e => h.ne e.symm), h.dat.past h.rd hg, h.ne⟩
/-- Something was stored into the operation. -/
theorem RSt.put {w w' : World} {rb ob : Nat} {l : List Int} {k : Int} {q q' : OpT} (h : RSt w rb ob l k q) (hg : w.grownBy w' (some ob)) (hb : Blk w' ob 26 (oc q')) (hd : Rd w q'.v q'.b) : RSt w' rb ob l k q' :=
  ⟨h.rd.pastX h.blk (oc_noB q) hg h.ne, hb, hd.pastX h.blk (oc_noB q) hg, h.ne⟩
theorem Turn.same' {ft : List Nat} {w' : World} (w : World) (h : Turn ft w.drew w') : Turn ft w w' := ⟨h.os, h.tape, h.output, h.size, h.block⟩
theorem take59 {w : World} {rb ob : Nat} {l : List Int} {k : Int} {q : OpT} (h : RSt w rb ob l k q) (hl : l.length ≤ 1000000000) : Calls Try.prog 59 #[hv ob, ptr rb] w fun e w' => e = .returned (.tuple #[]) ∧ Turn [rb, ob] w w' ∧ RSt w' rb ob (gotS l k).2.1 (gotS l k).2.2 { q with n := (gotS l k).1 } := by
  have HC : Hid (∀ w', Rdr w' rb l k → Calls Try.prog 80 #[ptr rb] w' fun e w'' => e = .returned (sv (gotS l k).1) ∧ Rdr w'' rb (gotS l k).2.1 (gotS l k).2.2 ∧ w'.grownBy w'' (some rb)) := fun w' h => get_any w' rb l k h
  generalize (gotS l k).1 = X at HC ⊢
  generalize (gotS l k).2.1 = l2 at HC ⊢
  generalize (gotS l k).2.2 = k2 at HC ⊢
  obtain ⟨w1, hw1⟩ : ∃ w1, w1 = w.alloc (.cells #[ptr ob] 53) := ⟨_, rfl⟩
  obtain ⟨B, hB⟩ : ∃ B, B = w.heap.size := ⟨_, rfl⟩
  have HB1 : Hid (Below w.heap.size w w1) := by show Below _ _ _; rw [hw1]; exact balloc (Below.refl _ _) _
  have hb0 : Blk w1 B 53 [ptr ob] := by rw [hw1, hB]; exact blk_new w _ 53
  have h1 : RSt w1 rb ob l k q := h.below HB1.out
  have hrb : rb ≠ B := by rw [hB]; have := h.rd.lt; omega
  have hob : ob ≠ B := by rw [hB]; have := h.blk.lt; omega
  have H1 : Hid (RSt w1 rb ob l k q) := h1
  have HBB : Hid (Blk w1 B 53 [ptr ob]) := hb0
  have HNE : Hid (rb ≠ B ∧ ob ≠ B) := ⟨hrb, hob⟩
  clear h hl h1 hb0 hrb hob
  obtain ⟨X1, X2⟩ := X
  unfold sv at HC
  dsimp only at HC
  go_enter Try.func59, Try.ntmps59
  go_upto_region 1 with fail
  rw [← hw1]
  rw [← hB]
  clear hw1 hB
  have c0 := fun z : WIn (fun w' => Blk w' B 53 [ptr ob]) => z.ok.cell 0 _ rfl
  have ne : Nonempty (WIn (fun w' => Blk w' B 53 [ptr ob])) := ⟨⟨w1, HBB.out⟩⟩
  refine wp_region_ord (C := fun w' => ∃ z : WIn (fun w' => Blk w' B 53 [ptr ob]), w' = z.w) [(false, 0), (false, 1), (false, 2), (true, 3), (false, 4), (false, 5), (true, 6)] (by kernel_rfl) (by kernel_rfl) ⟨⟨w1.drew, HBB.out.drew⟩, rfl⟩ ?_
  iterate 3 (refine ord_still rfl rfl ?_; go_big_quiet_step (fail); refine wpQuiet_nil ?_)
  refine ord_mem rfl rfl ?_
  go_simp
  refine (HC.out w1.drew (H1.out.below (below_drewn w1 1)).rd).mono ?_
  rintro r w3 ⟨rfl, hr3, hg3⟩
  have HG3 : Hid (Turn [rb, ob] w1 w3) := (show Turn _ _ _ from Turn.same' w1 (Turn.of_grown hg3 (by simp)))
  have h3 := (H1.out.below (below_drewn w1 1)).read hr3 hg3
  have HB3 : Hid (Blk w3 B 53 [ptr ob]) := (show Blk _ _ _ _ from HBB.out.drew.past hg3 (fun e => HNE.out.1 e.symm))
  refine ⟨⟨⟨w3, HB3.out⟩, rfl⟩, ?_⟩
  go_simp
  iterate 2 (refine ord_still rfl rfl ?_; go_big_quiet_step (fail); refine wpQuiet_nil ?_)
  obtain ⟨k0, ⟨a1, a2⟩, ⟨n1, n2⟩, ⟨p1, p2⟩, d, s, ua, un, uc, b⟩ := q
  have hb3 := h3.blk
  unfold oc at hb3
  dsimp only at hb3
  have e3 := hb3.cell 3 _ rfl; have g3 := hb3.frozen 3
  have e4 := hb3.cell 4 _ rfl; have g4 := hb3.frozen 4
  obtain ⟨w4, hw4⟩ : ∃ w4, w4 = ((w3.setCell ⟨ob, 3, none⟩ (.int .i64 X1)).setCell ⟨ob, 4, none⟩ (.int .i64 X2)) := ⟨_, rfl⟩
  have hg4 : w3.grownBy w4 (some ob) := by rw [hw4]; exact (grown_trans (grown_setCell w3 ob 3 (.int .i64 X1)) (grown_setCell _ ob 4 (.int .i64 X2)) (fun k hk => .inl hk))
  have hb4 := ((hb3.set 3 (.int .i64 X1)).set 4 (.int .i64 X2))
  rw [← hw4] at hb4
  have HE : Hid (RSt w4 rb ob l2 k2 ⟨k0, (a1, a2), (X1, X2), (p1, p2), d, s, ua, un, uc, b⟩) := (show RSt _ _ _ _ _ _ from h3.put hg4 hb4 h3.dat)
  have HT : Hid (Turn [rb, ob] w1 w4) := (show Turn _ _ _ from HG3.out.same (Turn.of_grown hg4 (by simp)))
  have HB4 : Hid (Blk w4 B 53 [ptr ob]) := (show Blk _ _ _ _ from HB3.out.past hg4 (fun e => HNE.out.2 e.symm))
  have HW4 : Hid (w4 = ((w3.setCell ⟨ob, 3, none⟩ (.int .i64 X1)).setCell ⟨ob, 4, none⟩ (.int .i64 X2))) := hw4
  clear hw4 hg4 hb4 hb3 h3
  refine ord_mem rfl rfl ?_
  go_simp
  rw [← HW4.out]
  refine ⟨⟨⟨w4, HB4.out⟩, rfl⟩, ?_⟩
  go_simp
  refine ord_end ?_
  clear c0 ne
  go_wp2
  go_end0
  exact ⟨rfl, (Turn.of_below HB1.out).same HT.out, HE.out⟩
theorem take61 {w : World} {rb ob : Nat} {l : List Int} {k : Int} {q : OpT} (h : RSt w rb ob l k q) (hl : l.length ≤ 1000000000) : Calls Try.prog 61 #[hv ob, ptr rb] w fun e w' => e = .returned (.tuple #[]) ∧ Turn [rb, ob] w w' ∧ RSt w' rb ob (gotS l k).2.1 (gotS l k).2.2 { q with p := (gotS l k).1 } := by
  have HC : Hid (∀ w', Rdr w' rb l k → Calls Try.prog 80 #[ptr rb] w' fun e w'' => e = .returned (sv (gotS l k).1) ∧ Rdr w'' rb (gotS l k).2.1 (gotS l k).2.2 ∧ w'.grownBy w'' (some rb)) := fun w' h => get_any w' rb l k h
  generalize (gotS l k).1 = X at HC ⊢
  generalize (gotS l k).2.1 = l2 at HC ⊢
  generalize (gotS l k).2.2 = k2 at HC ⊢
  obtain ⟨w1, hw1⟩ : ∃ w1, w1 = w.alloc (.cells #[ptr ob] 53) := ⟨_, rfl⟩
  obtain ⟨B, hB⟩ : ∃ B, B = w.heap.size := ⟨_, rfl⟩
  have HB1 : Hid (Below w.heap.size w w1) := by show Below _ _ _; rw [hw1]; exact balloc (Below.refl _ _) _
  have hb0 : Blk w1 B 53 [ptr ob] := by rw [hw1, hB]; exact blk_new w _ 53
  have h1 : RSt w1 rb ob l k q := h.below HB1.out
  have hrb : rb ≠ B := by rw [hB]; have := h.rd.lt; omega
  have hob : ob ≠ B := by rw [hB]; have := h.blk.lt; omega
  have H1 : Hid (RSt w1 rb ob l k q) := h1
  have HBB : Hid (Blk w1 B 53 [ptr ob]) := hb0
  have HNE : Hid (rb ≠ B ∧ ob ≠ B) := ⟨hrb, hob⟩
  clear h hl h1 hb0 hrb hob
  obtain ⟨X1, X2⟩ := X
  unfold sv at HC
  dsimp only at HC
  go_enter Try.func61, Try.ntmps61
  go_upto_region 1 with fail
  rw [← hw1]
  rw [← hB]
  clear hw1 hB
  have c0 := fun z : WIn (fun w' => Blk w' B 53 [ptr ob]) => z.ok.cell 0 _ rfl
  have ne : Nonempty (WIn (fun w' => Blk w' B 53 [ptr ob])) := ⟨⟨w1, HBB.out⟩⟩
  refine wp_region_ord (C := fun w' => ∃ z : WIn (fun w' => Blk w' B 53 [ptr ob]), w' = z.w) [(false, 0), (false, 1), (false, 2), (true, 3), (false, 4), (false, 5), (true, 6)] (by kernel_rfl) (by kernel_rfl) ⟨⟨w1.drew, HBB.out.drew⟩, rfl⟩ ?_
  iterate 3 (refine ord_still rfl rfl ?_; go_big_quiet_step (fail); refine wpQuiet_nil ?_)
  refine ord_mem rfl rfl ?_
  go_simp
  refine (HC.out w1.drew (H1.out.below (below_drewn w1 1)).rd).mono ?_
  rintro r w3 ⟨rfl, hr3, hg3⟩
  have HG3 : Hid (Turn [rb, ob] w1 w3) := (show Turn _ _ _ from Turn.same' w1 (Turn.of_grown hg3 (by simp)))
  have h3 := (H1.out.below (below_drewn w1 1)).read hr3 hg3
  have HB3 : Hid (Blk w3 B 53 [ptr ob]) := (show Blk _ _ _ _ from HBB.out.drew.past hg3 (fun e => HNE.out.1 e.symm))
  refine ⟨⟨⟨w3, HB3.out⟩, rfl⟩, ?_⟩
  go_simp
  iterate 2 (refine ord_still rfl rfl ?_; go_big_quiet_step (fail); refine wpQuiet_nil ?_)
  obtain ⟨k0, ⟨a1, a2⟩, ⟨n1, n2⟩, ⟨p1, p2⟩, d, s, ua, un, uc, b⟩ := q
  have hb3 := h3.blk
  unfold oc at hb3
  dsimp only at hb3
  have e5 := hb3.cell 5 _ rfl; have g5 := hb3.frozen 5
  have e6 := hb3.cell 6 _ rfl; have g6 := hb3.frozen 6
  obtain ⟨w4, hw4⟩ : ∃ w4, w4 = ((w3.setCell ⟨ob, 5, none⟩ (.int .i64 X1)).setCell ⟨ob, 6, none⟩ (.int .i64 X2)) := ⟨_, rfl⟩
  have hg4 : w3.grownBy w4 (some ob) := by rw [hw4]; exact (grown_trans (grown_setCell w3 ob 5 (.int .i64 X1)) (grown_setCell _ ob 6 (.int .i64 X2)) (fun k hk => .inl hk))
  have hb4 := ((hb3.set 5 (.int .i64 X1)).set 6 (.int .i64 X2))
  rw [← hw4] at hb4
  have HE : Hid (RSt w4 rb ob l2 k2 ⟨k0, (a1, a2), (n1, n2), (X1, X2), d, s, ua, un, uc, b⟩) := (show RSt _ _ _ _ _ _ from h3.put hg4 hb4 h3.dat)
  have HT : Hid (Turn [rb, ob] w1 w4) := (show Turn _ _ _ from HG3.out.same (Turn.of_grown hg4 (by simp)))
  have HB4 : Hid (Blk w4 B 53 [ptr ob]) := (show Blk _ _ _ _ from HB3.out.past hg4 (fun e => HNE.out.2 e.symm))
  have HW4 : Hid (w4 = ((w3.setCell ⟨ob, 5, none⟩ (.int .i64 X1)).setCell ⟨ob, 6, none⟩ (.int .i64 X2))) := hw4
  clear hw4 hg4 hb4 hb3 h3
  refine ord_mem rfl rfl ?_
  go_simp
  rw [← HW4.out]
  refine ⟨⟨⟨w4, HB4.out⟩, rfl⟩, ?_⟩
  go_simp
  refine ord_end ?_
  clear c0 ne
  go_wp2
  go_end0
  exact ⟨rfl, (Turn.of_below HB1.out).same HT.out, HE.out⟩
theorem take63 {w : World} {rb ob : Nat} {l : List Int} {k : Int} {q : OpT} (h : RSt w rb ob l k q) (hl : l.length ≤ 1000000000) : Calls Try.prog 63 #[hv ob, ptr rb] w fun e w' => e = .returned (.tuple #[]) ∧ Turn [rb, ob] w w' ∧ RSt w' rb ob (rBytes l k 24).2.1 (rBytes l k 24).2.2 { q with s := strOfNums (rBytes l k 24).1 } := by
  have HC : Hid (∀ w', Rdr w' rb l k → Calls Try.prog 82 #[ptr rb, .int .i64 24] w' fun e w'' => e = .returned (.string (strOfNums (rBytes l k 24).1)) ∧ Rdr w'' rb (rBytes l k 24).2.1 (rBytes l k 24).2.2 ∧ w'.grownBy w'' (some rb)) := fun w' h => rtext_any w' rb l k 24 h hl (by omega)
  generalize strOfNums (rBytes l k 24).1 = X at HC ⊢
  generalize (rBytes l k 24).2.1 = l2 at HC ⊢
  generalize (rBytes l k 24).2.2 = k2 at HC ⊢
  obtain ⟨w1, hw1⟩ : ∃ w1, w1 = w.alloc (.cells #[ptr ob] 53) := ⟨_, rfl⟩
  obtain ⟨B, hB⟩ : ∃ B, B = w.heap.size := ⟨_, rfl⟩
  have HB1 : Hid (Below w.heap.size w w1) := by show Below _ _ _; rw [hw1]; exact balloc (Below.refl _ _) _
  have hb0 : Blk w1 B 53 [ptr ob] := by rw [hw1, hB]; exact blk_new w _ 53
  have h1 : RSt w1 rb ob l k q := h.below HB1.out
  have hrb : rb ≠ B := by rw [hB]; have := h.rd.lt; omega
  have hob : ob ≠ B := by rw [hB]; have := h.blk.lt; omega
  have H1 : Hid (RSt w1 rb ob l k q) := h1
  have HBB : Hid (Blk w1 B 53 [ptr ob]) := hb0
  have HNE : Hid (rb ≠ B ∧ ob ≠ B) := ⟨hrb, hob⟩
  clear h hl h1 hb0 hrb hob
  go_enter Try.func63, Try.ntmps63
  go_upto_region 1 with fail
  rw [← hw1]
  rw [← hB]
  clear hw1 hB
  have c0 := fun z : WIn (fun w' => Blk w' B 53 [ptr ob]) => z.ok.cell 0 _ rfl
  have ne : Nonempty (WIn (fun w' => Blk w' B 53 [ptr ob])) := ⟨⟨w1, HBB.out⟩⟩
  refine wp_region_ord (C := fun w' => ∃ z : WIn (fun w' => Blk w' B 53 [ptr ob]), w' = z.w) [(false, 0), (false, 1), (false, 2), (true, 3), (false, 4), (false, 5), (true, 6)] (by kernel_rfl) (by kernel_rfl) ⟨⟨w1.drew, HBB.out.drew⟩, rfl⟩ ?_
  iterate 3 (refine ord_still rfl rfl ?_; go_big_quiet_step (fail); refine wpQuiet_nil ?_)
  refine ord_mem rfl rfl ?_
  go_simp
  refine (HC.out w1.drew (H1.out.below (below_drewn w1 1)).rd).mono ?_
  rintro r w3 ⟨rfl, hr3, hg3⟩
  have HG3 : Hid (Turn [rb, ob] w1 w3) := (show Turn _ _ _ from Turn.same' w1 (Turn.of_grown hg3 (by simp)))
  have h3 := (H1.out.below (below_drewn w1 1)).read hr3 hg3
  have HB3 : Hid (Blk w3 B 53 [ptr ob]) := (show Blk _ _ _ _ from HBB.out.drew.past hg3 (fun e => HNE.out.1 e.symm))
  refine ⟨⟨⟨w3, HB3.out⟩, rfl⟩, ?_⟩
  go_simp
  iterate 2 (refine ord_still rfl rfl ?_; go_big_quiet_step (fail); refine wpQuiet_nil ?_)
  obtain ⟨k0, ⟨a1, a2⟩, ⟨n1, n2⟩, ⟨p1, p2⟩, d, s, ua, un, uc, b⟩ := q
  have hb3 := h3.blk
  unfold oc at hb3
  dsimp only at hb3
  have e8 := hb3.cell 8 _ rfl; have g8 := hb3.frozen 8
  obtain ⟨w4, hw4⟩ : ∃ w4, w4 = (w3.setCell ⟨ob, 8, none⟩ (.string X)) := ⟨_, rfl⟩
  have hg4 : w3.grownBy w4 (some ob) := by rw [hw4]; exact (grown_setCell w3 ob 8 (.string X))
  have hb4 := (hb3.set 8 (.string X))
  rw [← hw4] at hb4
  have HE : Hid (RSt w4 rb ob l2 k2 ⟨k0, (a1, a2), (n1, n2), (p1, p2), d, X, ua, un, uc, b⟩) := (show RSt _ _ _ _ _ _ from h3.put hg4 hb4 h3.dat)
  have HT : Hid (Turn [rb, ob] w1 w4) := (show Turn _ _ _ from HG3.out.same (Turn.of_grown hg4 (by simp)))
  have HB4 : Hid (Blk w4 B 53 [ptr ob]) := (show Blk _ _ _ _ from HB3.out.past hg4 (fun e => HNE.out.2 e.symm))
  have HW4 : Hid (w4 = (w3.setCell ⟨ob, 8, none⟩ (.string X))) := hw4
  clear hw4 hg4 hb4 hb3 h3
  refine ord_mem rfl rfl ?_
  go_simp
  rw [← HW4.out]
  refine ⟨⟨⟨w4, HB4.out⟩, rfl⟩, ?_⟩
  go_simp
  refine ord_end ?_
  clear c0 ne
  go_wp2
  go_end0
  exact ⟨rfl, (Turn.of_below HB1.out).same HT.out, HE.out⟩
theorem take65 {w : World} {rb ob : Nat} {l : List Int} {k : Int} {q : OpT} (h : RSt w rb ob l k q) (hl : l.length ≤ 1000000000) : Calls Try.prog 65 #[hv ob, ptr rb] w fun e w' => e = .returned (.tuple #[]) ∧ Turn [rb, ob] w w' ∧ RSt w' rb ob (rBool l k).2.1 (rBool l k).2.2 { q with d := (rBool l k).1 } := by
  have HC : Hid (∀ w', Rdr w' rb l k → Calls Try.prog 84 #[ptr rb] w' fun e w'' => e = .returned (.bool (rBool l k).1) ∧ Rdr w'' rb (rBool l k).2.1 (rBool l k).2.2 ∧ w'.grownBy w'' (some rb)) := fun w' h => rbool_any w' rb l k h
  generalize (rBool l k).1 = X at HC ⊢
  generalize (rBool l k).2.1 = l2 at HC ⊢
  generalize (rBool l k).2.2 = k2 at HC ⊢
  obtain ⟨w1, hw1⟩ : ∃ w1, w1 = w.alloc (.cells #[ptr ob] 53) := ⟨_, rfl⟩
  obtain ⟨B, hB⟩ : ∃ B, B = w.heap.size := ⟨_, rfl⟩
  have HB1 : Hid (Below w.heap.size w w1) := by show Below _ _ _; rw [hw1]; exact balloc (Below.refl _ _) _
  have hb0 : Blk w1 B 53 [ptr ob] := by rw [hw1, hB]; exact blk_new w _ 53
  have h1 : RSt w1 rb ob l k q := h.below HB1.out
  have hrb : rb ≠ B := by rw [hB]; have := h.rd.lt; omega
  have hob : ob ≠ B := by rw [hB]; have := h.blk.lt; omega
  have H1 : Hid (RSt w1 rb ob l k q) := h1
  have HBB : Hid (Blk w1 B 53 [ptr ob]) := hb0
  have HNE : Hid (rb ≠ B ∧ ob ≠ B) := ⟨hrb, hob⟩
  clear h hl h1 hb0 hrb hob
  go_enter Try.func65, Try.ntmps65
  go_upto_region 1 with fail
  rw [← hw1]
  rw [← hB]
  clear hw1 hB
  have c0 := fun z : WIn (fun w' => Blk w' B 53 [ptr ob]) => z.ok.cell 0 _ rfl
  have ne : Nonempty (WIn (fun w' => Blk w' B 53 [ptr ob])) := ⟨⟨w1, HBB.out⟩⟩
  refine wp_region_ord (C := fun w' => ∃ z : WIn (fun w' => Blk w' B 53 [ptr ob]), w' = z.w) [(false, 0), (false, 1), (false, 2), (true, 3), (false, 4), (false, 5), (true, 6)] (by kernel_rfl) (by kernel_rfl) ⟨⟨w1.drew, HBB.out.drew⟩, rfl⟩ ?_
  iterate 3 (refine ord_still rfl rfl ?_; go_big_quiet_step (fail); refine wpQuiet_nil ?_)
  refine ord_mem rfl rfl ?_
  go_simp
  refine (HC.out w1.drew (H1.out.below (below_drewn w1 1)).rd).mono ?_
  rintro r w3 ⟨rfl, hr3, hg3⟩
  have HG3 : Hid (Turn [rb, ob] w1 w3) := (show Turn _ _ _ from Turn.same' w1 (Turn.of_grown hg3 (by simp)))
  have h3 := (H1.out.below (below_drewn w1 1)).read hr3 hg3
  have HB3 : Hid (Blk w3 B 53 [ptr ob]) := (show Blk _ _ _ _ from HBB.out.drew.past hg3 (fun e => HNE.out.1 e.symm))
  refine ⟨⟨⟨w3, HB3.out⟩, rfl⟩, ?_⟩
  go_simp
  iterate 2 (refine ord_still rfl rfl ?_; go_big_quiet_step (fail); refine wpQuiet_nil ?_)
  obtain ⟨k0, ⟨a1, a2⟩, ⟨n1, n2⟩, ⟨p1, p2⟩, d, s, ua, un, uc, b⟩ := q
  have hb3 := h3.blk
  unfold oc at hb3
  dsimp only at hb3
  have e7 := hb3.cell 7 _ rfl; have g7 := hb3.frozen 7
  obtain ⟨w4, hw4⟩ : ∃ w4, w4 = (w3.setCell ⟨ob, 7, none⟩ (.bool X)) := ⟨_, rfl⟩
  have hg4 : w3.grownBy w4 (some ob) := by rw [hw4]; exact (grown_setCell w3 ob 7 (.bool X))
  have hb4 := (hb3.set 7 (.bool X))
  rw [← hw4] at hb4
  have HE : Hid (RSt w4 rb ob l2 k2 ⟨k0, (a1, a2), (n1, n2), (p1, p2), X, s, ua, un, uc, b⟩) := (show RSt _ _ _ _ _ _ from h3.put hg4 hb4 h3.dat)
  have HT : Hid (Turn [rb, ob] w1 w4) := (show Turn _ _ _ from HG3.out.same (Turn.of_grown hg4 (by simp)))
  have HB4 : Hid (Blk w4 B 53 [ptr ob]) := (show Blk _ _ _ _ from HB3.out.past hg4 (fun e => HNE.out.2 e.symm))
  have HW4 : Hid (w4 = (w3.setCell ⟨ob, 7, none⟩ (.bool X))) := hw4
  clear hw4 hg4 hb4 hb3 h3
  refine ord_mem rfl rfl ?_
  go_simp
  rw [← HW4.out]
  refine ⟨⟨⟨w4, HB4.out⟩, rfl⟩, ?_⟩
  go_simp
  refine ord_end ?_
  clear c0 ne
  go_wp2
  go_end0
  exact ⟨rfl, (Turn.of_below HB1.out).same HT.out, HE.out⟩
theorem take67 {w : World} {rb ob : Nat} {l : List Int} {k : Int} {q : OpT} (h : RSt w rb ob l k q) (hl : l.length ≤ 1000000000) : Calls Try.prog 67 #[hv ob, ptr rb] w fun e w' => e = .returned (.tuple #[]) ∧ Turn [rb, ob] w w' ∧ ∃ va vc, RSt w' rb ob (rBytes l k 400).2.1 (rBytes l k 400).2.2 { q with b := (rBytes l k 400).1, va := va, vn := (rBytes l k 400).1.length, vc := vc } := by
  have HC : Hid (∀ w', Rdr w' rb l k → Calls Try.prog 86 #[ptr rb, .int .i64 400] w' fun e w'' => ∃ v, e = .returned v ∧ Rd w'' v (rBytes l k 400).1 ∧ Rdr w'' rb (rBytes l k 400).2.1 (rBytes l k 400).2.2 ∧ w'.grownBy w'' (some rb)) := fun w' h => rbytes_any w' rb l k 400 h hl (by omega)
  generalize (rBytes l k 400).1 = X at HC ⊢
  generalize (rBytes l k 400).2.1 = l2 at HC ⊢
  generalize (rBytes l k 400).2.2 = k2 at HC ⊢
  obtain ⟨w1, hw1⟩ : ∃ w1, w1 = w.alloc (.cells #[ptr ob] 53) := ⟨_, rfl⟩
  obtain ⟨B, hB⟩ : ∃ B, B = w.heap.size := ⟨_, rfl⟩
  have HB1 : Hid (Below w.heap.size w w1) := by show Below _ _ _; rw [hw1]; exact balloc (Below.refl _ _) _
  have hb0 : Blk w1 B 53 [ptr ob] := by rw [hw1, hB]; exact blk_new w _ 53
  have h1 : RSt w1 rb ob l k q := h.below HB1.out
  have hrb : rb ≠ B := by rw [hB]; have := h.rd.lt; omega
  have hob : ob ≠ B := by rw [hB]; have := h.blk.lt; omega
  have H1 : Hid (RSt w1 rb ob l k q) := h1
  have HBB : Hid (Blk w1 B 53 [ptr ob]) := hb0
  have HNE : Hid (rb ≠ B ∧ ob ≠ B) := ⟨hrb, hob⟩
  clear h hl h1 hb0 hrb hob
  go_enter Try.func67, Try.ntmps67
  go_upto_region 1 with fail
  rw [← hw1]
  rw [← hB]
  clear hw1 hB
  have c0 := fun z : WIn (fun w' => Blk w' B 53 [ptr ob]) => z.ok.cell 0 _ rfl
  have ne : Nonempty (WIn (fun w' => Blk w' B 53 [ptr ob])) := ⟨⟨w1, HBB.out⟩⟩
  refine wp_region_ord (C := fun w' => ∃ z : WIn (fun w' => Blk w' B 53 [ptr ob]), w' = z.w) [(false, 0), (false, 1), (false, 2), (true, 3), (false, 4), (false, 5), (true, 6)] (by kernel_rfl) (by kernel_rfl) ⟨⟨w1.drew, HBB.out.drew⟩, rfl⟩ ?_
  iterate 3 (refine ord_still rfl rfl ?_; go_big_quiet_step (fail); refine wpQuiet_nil ?_)
  refine ord_mem rfl rfl ?_
  go_simp
  refine (HC.out w1.drew (H1.out.below (below_drewn w1 1)).rd).mono ?_
  rintro r w3 ⟨v3, rfl, hv3, hr3, hg3⟩
  have HG3 : Hid (Turn [rb, ob] w1 w3) := (show Turn _ _ _ from Turn.same' w1 (Turn.of_grown hg3 (by simp)))
  have h3 := (H1.out.below (below_drewn w1 1)).read hr3 hg3
  have HB3 : Hid (Blk w3 B 53 [ptr ob]) := (show Blk _ _ _ _ from HBB.out.drew.past hg3 (fun e => HNE.out.1 e.symm))
  refine ⟨⟨⟨w3, HB3.out⟩, rfl⟩, ?_⟩
  go_simp
  obtain ⟨va, vc, rfl⟩ := hv3.len
  iterate 2 (refine ord_still rfl rfl ?_; go_big_quiet_step (fail); refine wpQuiet_nil ?_)
  obtain ⟨k0, ⟨a1, a2⟩, ⟨n1, n2⟩, ⟨p1, p2⟩, d, s, ua, un, uc, b⟩ := q
  have hb3 := h3.blk
  unfold oc at hb3
  dsimp only at hb3
  have e9 := hb3.cell 9 _ rfl; have g9 := hb3.frozen 9
  obtain ⟨w4, hw4⟩ : ∃ w4, w4 = (w3.setCell ⟨ob, 9, none⟩ (.slice va X.length vc)) := ⟨_, rfl⟩
  have hg4 : w3.grownBy w4 (some ob) := by rw [hw4]; exact (grown_setCell w3 ob 9 (.slice va X.length vc))
  have hb4 := (hb3.set 9 (.slice va X.length vc))
  rw [← hw4] at hb4
  have HE : Hid (RSt w4 rb ob l2 k2 ⟨k0, (a1, a2), (n1, n2), (p1, p2), d, s, va, X.length, vc, X⟩) := (show RSt _ _ _ _ _ _ from h3.put hg4 hb4 hv3)
  have HT : Hid (Turn [rb, ob] w1 w4) := (show Turn _ _ _ from HG3.out.same (Turn.of_grown hg4 (by simp)))
  have HB4 : Hid (Blk w4 B 53 [ptr ob]) := (show Blk _ _ _ _ from HB3.out.past hg4 (fun e => HNE.out.2 e.symm))
  have HW4 : Hid (w4 = (w3.setCell ⟨ob, 9, none⟩ (.slice va X.length vc))) := hw4
  clear hw4 hg4 hb4 hb3 h3 hv3
  refine ord_mem rfl rfl ?_
  go_simp
  rw [← HW4.out]
  refine ⟨⟨⟨w4, HB4.out⟩, rfl⟩, ?_⟩
  go_simp
  refine ord_end ?_
  clear c0 ne
  go_wp2
  go_end0
  exact ⟨rfl, (Turn.of_below HB1.out).same HT.out, va, vc, HE.out⟩
end Go.Proofs.Ytcchokedfbogfaa
