/-
  The reference's Take.
-/
import Derived.Test.YtigfklcclfpcjaaRBuf2
import Derived.Test.YtigfklcclfpcjaaBuf5
namespace Go.Proofs.Ytigfklcclfpcjaa
set_option linter.unusedVariables false
set_option linter.unusedSimpArgs false
set_option synthInstance.maxSize 20000
set_option maxHeartbeats 400000
set_option maxRecDepth 20000
open Go.RowKit Go.Maps

theorem less_at {M : List Ent} {a i : Int} {k : Nat} {e : Ent} (hs : Srt M) (hk : M[k]? = some e) (he : e.w = a ∧ e.i = i) : lessM M a i = M.take k ++ M.drop (k + 1) := by
  have hkl := (List.getElem?_eq_some_iff.1 hk).1
  have hM : M = M.take k ++ e :: M.drop (k + 1) := by
    obtain ⟨_, h2⟩ := List.getElem?_eq_some_iff.1 hk
    rw [← h2]
    simp
  have key : ∀ f ∈ M.take k ++ M.drop (k + 1), atB a i f = false := fun f hf => by
    cases hb : atB a i f with
    | false => rfl
    | true =>
      exfalso
      have h1 := (atB_iff _ _ _).1 hb
      have hp : (M.take k ++ e :: M.drop (k + 1)).Pairwise (fun e f => keyB e f = true) := by rw [← hM]; exact hs
      rw [List.pairwise_append, List.pairwise_cons] at hp
      rcases List.mem_append.1 hf with r | r
      · have := (keyB_iff _ _).1 (hp.2.2 f r e (by simp))
        omega
      · have := (keyB_iff _ _).1 (hp.2.1.1 f r)
        omega
  have he' : atB a i e = true := (atB_iff _ _ _).2 he
  unfold lessM
  conv => lhs; rw [hM]
  rw [List.filter_append, List.filter_cons, he']
  simp only [Bool.not_true, Bool.false_eq_true, if_false]
  rw [← List.filter_append]
  exact List.filter_eq_self.2 (fun f hf => by rw [key f hf]; rfl)

theorem rtake_none {w : World} {o : Nat → Nat} {j b : Nat} {most : Int} {M : List Ent} {a i : Int} (h : RBufIs w o j b most M) (hf : findM M a i = none) : Calls Try.prog 13 #[ptr b, .int .i64 a, .int .i64 i] w fun r w' => r = .returned (.tuple #[ev zeroE (.slice none 0 0), .bool false]) ∧ Below w.heap.size w w' := by
  obtain ⟨v, ps, h⟩ := h
  obtain ⟨w1, hw1⟩ : ∃ w1, w1 = w.alloc (.cells #[.int .i64 0, .int .i64 0, .int .u64 0, .int .i64 0, .int .i64 0, .int .i64 0, .slice none 0 0, .int .u64 0] 38) := ⟨_, rfl⟩
  have hb1 : Below w.heap.size w w1 := by rw [hw1]; exact balloc (Below.refl _ _) _
  have X1 : Blk w1 w.heap.size 38 [.int .i64 0, .int .i64 0, .int .u64 0, .int .i64 0, .int .i64 0, .int .i64 0, .slice none 0 0, .int .u64 0] := by rw [hw1]; exact blk_new w _ 38
  have h1 := h.below hb1
  have FD := rfind_none h1.blk h1.out.rowE a i (h1.none hf)
  have HFD : Hid (Calls _ _ _ _ _) := FD
  have HB1 : Hid (Below w.heap.size w w1) := hb1
  have HW1 : Hid (_ = _) := hw1
  have z0 := X1.cell 0 _ rfl; have z1 := X1.cell 1 _ rfl; have z2 := X1.cell 2 _ rfl; have z3 := X1.cell 3 _ rfl; have z4 := X1.cell 4 _ rfl; have z5 := X1.cell 5 _ rfl; have z6 := X1.cell 6 _ rfl; have z7 := X1.cell 7 _ rfl
  have f0 := X1.frozen 0; have f1 := X1.frozen 1; have f2 := X1.frozen 2; have f3 := X1.frozen 3; have f4 := X1.frozen 4; have f5 := X1.frozen 5; have f6 := X1.frozen 6; have f7 := X1.frozen 7
  unfold ev zeroE
  dsimp only
  clear h h1 FD hw1 hb1 X1 hf
  go_enter Try.func13, Try.ntmps13
  go_upto_region 1 with fail
  rw [← HW1.out]
  clear HW1
  obtain ⟨n, hn⟩ : ∃ n, n = w.heap.size := ⟨_, rfl⟩
  rw [← hn] at z0 z1 z2 z3 z4 z5 z6 z7 f0 f1 f2 f3 f4 f5 f6 f7 ⊢
  have HNN : Hid (n = w.heap.size) := hn
  clear hn
  go_wp2_with (go_at_call 31; go_must (refine HFD.out.mono ?_; rintro r w3 ⟨rfl, hw3⟩; replace hw3 := hw3.symm; subst hw3))
  have G := grown_set8 w1 n (.int .i64 0) (.int .i64 0) (.int .u64 0) (.int .i64 0) (.int .i64 0) (.int .i64 0) (.slice none 0 0) (.int .u64 0)
  refine bodyPost_ret (v := .tuple #[.agg #[.int .i64 0, .int .i64 0, .int .u64 0, .int .i64 0, .int .i64 0, .int .i64 0, .slice none 0 0, .int .u64 0], .bool false]) ?_ rfl ⟨rfl, ?_⟩
  · rw [results_cell_tmp rfl]
    go_simp
  · exact bgrown HB1.out (by have := HNN.out; omega) G

/-- What Take leaves of the reference's buffer. -/
theorem rtake_end {w w5 w7 : World} {o : Nat → Nat} {j b nr : Nat} {most : Int} {v v' : Value} {ps : List (Ent × Value)} {M : List Ent} {k : Nat} {N : List Ent} (h : RBufAt w o j b most v ps M) (hj0 : j ≠ 0) (hb : Below w.heap.size w w5)
    (hrow : w5.ownsRow 0 38 8 v' (ps.take k ++ ps.drop (k + 1)).length (flatE (ps.take k ++ ps.drop (k + 1)))) (hnew : ∀ i, v'.ownBlock = some i → w.heap.size ≤ i ∧ i ≠ nr) (hnr : w.heap.size ≤ nr) (hi : N = M.take k ++ M.drop (k + 1)) (hg : (w5.setCell ⟨b, 1, none⟩ v').grownBy w7 (some nr)) :
    ∃ o', RBufIs w7 o' j b most N ∧ Mv [j] w o w7 o' := by
  have h5 := h.below hb
  have G := grown_setCell w5 b 1 v'
  have hblt := h.blk.lt
  have M1 : Mv [j] w o w7 (newTo o w 0) := by
    refine ⟨(hg.os.trans G.os).trans hb.os, (hg.tape.trans G.tape).trans hb.tape, (hg.output.trans G.output).trans hb.output, Nat.le_trans hb.size (Nat.le_trans G.size hg.size), fun i hi' => newTo_old hi', fun i hi' hn => ?_⟩
    have hs5 := Nat.lt_of_lt_of_le hi' hb.size
    have hs6 := Nat.lt_of_lt_of_le hs5 G.size
    refine ((hg.block i hs6 (fun e => by have := Option.some.inj e; omega)).trans (G.block i hs5 (fun e => hn ?_))).trans (hb.block i hi')
    have := Option.some.inj e
    subst this
    rw [h.ob]; simp
  have B6 := h5.blk.set 1 v'
  refine ⟨_, ⟨v', ps.take k ++ ps.drop (k + 1), B6.past' hg (fun e => by have := Option.some.inj e; omega), ?_, ⟨?_, fun i hi' => ⟨?_, Nat.zero_le _⟩, ?_⟩, ?_⟩, M1⟩
  · rw [newTo_old hblt]; exact h.ob
  · refine ownsRow_block hrow (fun i hi' => ?_)
    have h6 := (hrow.lt i hi').2
    have h7 := hnew i hi'
    exact (hg.block i (Nat.lt_of_lt_of_le h6 G.size) (fun e => h7.2 (Option.some.inj e))).trans (G.block i h6 (fun e => by have := Option.some.inj e; omega))
  · exact newTo_new (hnew i hi').1
  · have hE := h.out.ents.mv M1 (by simp; omega)
    exact (hE.take k).append (hE.drop (k + 1))
  · rw [List.map_append, List.map_take, List.map_drop, h.map, hi]

theorem rtake_hit {w : World} {o : Nat → Nat} {j b : Nat} {most : Int} {M : List Ent} {a i : Int} {e : Ent} (h : RBufIs w o j b most M) (hs : Srt M) (hj0 : j ≠ 0) (hfew : M.length ≤ 16) (hf : findM M a i = some e) :
    ∃ x, Kp0 w o x e.b ∧ EOk e ∧ Calls Try.prog 13 #[ptr b, .int .i64 a, .int .i64 i] w fun r w' => r = .returned (.tuple #[ev e x, .bool true]) ∧ ∃ o', RBufIs w' o' j b most (lessM M a i) ∧ Mv [j] w o w' o' := by
  obtain ⟨v, ps, h⟩ := h
  obtain ⟨k, x, hk, hbf⟩ := h.some hs hf
  have hEx := h.out.ents _ (List.mem_of_getElem? hk)
  refine ⟨x, hEx.2, hEx.1, ?_⟩
  have hat : atB a i (e, x).1 = true := (atB_iff _ _ _).2 (findM_some hf).2
  have hMk : M[k]? = some e := by rw [← h.map, List.getElem?_map, hk]; rfl
  have HLs : Hid (lessM M a i = M.take k ++ M.drop (k + 1)) := less_at hs hMk (findM_some hf).2
  have hkl : k < ps.length := (List.getElem?_eq_some_iff.1 hk).1
  have hlen := h.len
  have hps : ps.length ≤ 16 := by omega
  obtain ⟨w1, hw1⟩ : ∃ w1, w1 = w.alloc (.cells #[.int .i64 0, .int .i64 0, .int .u64 0, .int .i64 0, .int .i64 0, .int .i64 0, .slice none 0 0, .int .u64 0] 38) := ⟨_, rfl⟩
  have hb1 : Below w.heap.size w w1 := by rw [hw1]; exact balloc (Below.refl _ _) _
  have X1 : Blk w1 w.heap.size 38 [.int .i64 0, .int .i64 0, .int .u64 0, .int .i64 0, .int .i64 0, .int .i64 0, .slice none 0 0, .int .u64 0] := by rw [hw1]; exact blk_new w _ 38
  have FD := rfind_hit (h.below hb1).blk (h.below hb1).out.rowE a i hk hat hbf
  have HFD : Hid (Calls _ _ _ _ _) := FD
  have HRw : Hid (∀ w', Below w.heap.size w w' → Blk w' b 32 [.int .i64 most, v] ∧ RowE w' v ps) := fun w' hb => ⟨(h.below hb).blk, (h.below hb).out.rowE⟩
  have HTE : Hid (∀ (w5 w7 : World) (v' : Value) (nr : Nat), Below w.heap.size w w5 → w5.ownsRow 0 38 8 v' (ps.take k ++ ps.drop (k + 1)).length (flatE (ps.take k ++ ps.drop (k + 1))) → (∀ i, v'.ownBlock = some i → w.heap.size ≤ i ∧ i ≠ nr) → w.heap.size ≤ nr → (w5.setCell ⟨b, 1, none⟩ v').grownBy w7 (some nr) → ∃ o', RBufIs w7 o' j b most (lessM M a i) ∧ Mv [j] w o w7 o') := fun w5 w7 v' nr hb h1 h2 h3 h4 => rtake_end h hj0 hb h1 h2 h3 HLs.out h4
  have HOne : Hid (∀ u ∈ flatE ps, u.oneCell' = true) := h.out.ents.one
  have HKq : Hid (ps[k]? = some (e, x)) := hk
  have hblt := h.blk.lt
  obtain ⟨av, cv, hvv⟩ := h.out.rowE.len
  have hcv := h.out.rowE
  rw [hvv] at hcv
  have hcap := hcv.cap.2
  subst hvv
  obtain ⟨g, off, ea, hc⟩ := (HRw.out w1 hb1).2.at hk
  subst ea
  obtain ⟨ax, cx, hxx⟩ := hEx.2.1.len
  dsimp only at hxx
  subst hxx
  obtain ⟨ew, ei, ep, et, eu, en, eb, eg⟩ := e
  unfold ec at hc
  unfold ev
  dsimp only at *
  have l1 := (HRw.out w1 hb1).1.cell 1 _ rfl
  have c0 := hc 0 _ rfl; have c1 := hc 1 _ rfl; have c2 := hc 2 _ rfl; have c3 := hc 3 _ rfl; have c4 := hc 4 _ rfl; have c5 := hc 5 _ rfl; have c6 := hc 6 _ rfl; have c7 := hc 7 _ rfl
  simp only [Nat.add_zero] at c0
  have HX1 : Hid (Blk w1 w.heap.size 38 [.int .i64 0, .int .i64 0, .int .u64 0, .int .i64 0, .int .i64 0, .int .i64 0, .slice none 0 0, .int .u64 0]) := X1
  have HB1 : Hid (Below w.heap.size w w1) := hb1
  have HW1 : Hid (_ = _) := hw1
  obtain ⟨w2, hw2⟩ : ∃ w2, w2 = w1.alloc (.cells #[.int .i64 ew, .int .i64 ei, .int .u64 ep, .int .i64 et, .int .i64 eu, .int .i64 en, .slice ax eb.length cx, .int .u64 eg] 38) := ⟨_, rfl⟩
  have HB2 : Hid (Below w.heap.size w w2) := by show Below _ _ _; rw [hw2]; exact balloc hb1 _
  have HE2 : Hid (Blk w2 w1.heap.size 38 [.int .i64 ew, .int .i64 ei, .int .u64 ep, .int .i64 et, .int .i64 eu, .int .i64 en, .slice ax eb.length cx, .int .u64 eg]) := by show Blk _ _ _ _; rw [hw2]; exact blk_new w1 _ 38
  have HZ2 : Hid (Blk w2 w.heap.size 38 [.int .i64 0, .int .i64 0, .int .u64 0, .int .i64 0, .int .i64 0, .int .i64 0, .slice none 0 0, .int .u64 0]) := by show Blk _ _ _ _; rw [hw2]; exact X1.alloc _
  have HW2 : Hid (_ = _) := hw2
  have HNZ : Hid (w.heap.size < w1.heap.size) := X1.lt
  clear h hEx hat hMk hlen FD hk hbf hf hcv hc hw1 hb1 X1 hw2
  go_enter Try.func13, Try.ntmps13
  go_upto_region 1 with fail
  rw [← HW1.out]
  clear HW1
  obtain ⟨n, hn⟩ : ∃ n, n = w.heap.size := ⟨_, rfl⟩
  rw [← hn] at HX1 HZ2 HNZ ⊢
  have HNN : Hid (n = w.heap.size) := hn
  clear hn
  go_upto_region 5 with (go_at_call 31; go_must (refine HFD.out.mono ?_; rintro r w3 ⟨rfl, hw3⟩; replace hw3 := hw3.symm; subst hw3))
  rw [← HW2.out]
  clear HW2 c0 c1 c2 c3 c4 c5 c6 c7 l1
  generalize w1.heap.size = ne0 at HE2 HNZ ⊢
  have l1 := fun z : WIn (fun w' => Below w2.heap.size w2 w') => (HRw.out z.w (bnext HB2.out z.ok)).1.cell 1 _ rfl
  have ne : Nonempty (WIn (fun w' => Below w2.heap.size w2 w')) := ⟨⟨w2, Below.refl _ _⟩⟩
  refine wp_region_treeZ (C := fun w' => ∃ z : WIn (fun w' => Below w2.heap.size w2 w'), w' = z.w) 19 (.still 0 (.still 2 (.still 3 (.still 4 (.still 5 (.still 6 (.still 7 (.still 9 (.still 10 (.still 11 (.still 12 (.still 13 (.still 14 (.still 15 (.one 1 (.one 8 (.one 16 (.one 17 (.still 18 .done))))))))))))))))))) rfl (by kernel_rfl) (by kernel_rfl) ⟨⟨w2.drew, (Below.refl _ _).drew⟩, rfl⟩ ?_
  have HBd : Hid (Below w2.heap.size w2 w2.drew) := (show Below _ _ _ from (Below.refl _ _).drew)
  generalize w2.drew = wd at HBd ⊢
  have ek1 : (k : Int) + 1 = ((k + 1 : Nat) : Int) := by omega
  obtain ⟨k1, hk1⟩ : ∃ k1, k1 = k + 1 := ⟨_, rfl⟩
  rw [← hk1] at ek1
  have HK1 : Hid (k1 = k + 1) := hk1
  have hk1l : k1 ≤ ps.length := by omega
  clear hk1
  by_cases hck : cv = k1
  · subst hck
    iterate 14 (refine tree_still rfl rfl ?_; go_big_quiet_step (fail); refine wpQuiet_nil ?_)
    refine tree_one rfl rfl ?_
    go_simp
    have HBu : Hid (Below w2.heap.size w2 (wd.alloc (.cells #[] 38))) := (show Below _ _ _ from balloc HBd.out _)
    have HOu : Hid ((wd.alloc (.cells #[] 38)).ownsRow 0 38 8 (.slice (some ⟨wd.heap.size, 0, none⟩) 0 0) ([] : List (Ent × Value)).length (flatE [])) := ⟨rfl, .inr ⟨wd.heap.size, 0, #[], rfl, Nat.zero_le _, heap_alloc_new wd _, Nat.le_refl _, Nat.zero_le _, rfl, rfl⟩⟩
    have HZ : Hid (w2.heap.size ≤ wd.heap.size) := HBd.out.size
    refine ⟨⟨⟨_, HBu.out⟩, rfl⟩, ?_⟩
    generalize wd.heap.size = z0 at HOu HZ ⊢
    generalize wd.alloc (.cells #[] 38) = u1 at HBu HOu ⊢
    refine tree_one rfl rfl ?_
    refine wp_of_list rfl ?_
    refine wpList_append_ents rfl (.tmp 25) (.tmp 31) rfl _ [] rfl HOu.out _ (ps.take k) rfl (RowE.take (HRw.out _ (bnext HB2.out HBu.out)).2 (by omega)) (fun u hu => HOne.out u (by rw [← flatE_take] at hu; exact List.mem_of_mem_take hu)) (by simp; omega) ?_
    intro vA wA hrA hgA hwA
    rw [List.nil_append] at hrA
    have HrA : Hid (wA.ownsRow 0 38 8 vA (ps.take k).length (flatE (ps.take k))) := hrA
    have HBA : Hid (Below w2.heap.size w2 wA) := bgrown HBu.out HZ.out hgA
    have HnA : Hid (∀ i, vA.ownBlock = some i → w2.heap.size ≤ i) := fun i hi => by
      rcases hwA i hi with r | r
      · cases r
        exact HZ.out
      · exact Nat.le_trans HBu.out.size r
    obtain ⟨aA, cA, hvA, _⟩ := slice_of_own hrA
    have hnl : (ps.take k).length = k := by rw [List.length_take]; omega
    rw [hnl] at hvA
    subst hvA
    clear hrA hgA hwA hnl
    refine ⟨rfl, ⟨⟨wA, HBA.out⟩, rfl⟩, ?_⟩
    go_simp
    refine tree_one rfl rfl ?_
    refine wp_of_list rfl ?_
    have HRD := (show RowE wA (.slice (some ⟨g, off, none⟩) 0 0) (ps.drop cv) from by have h9 := RowE.drop0 (HRw.out wA (bnext HB2.out HBA.out)).2 (by omega); rw [show ps.length - cv = 0 by omega] at h9; exact h9)
    refine wpList_append_ents rfl (.tmp 32) (.tmp 39) rfl _ (ps.take k) rfl HrA.out _ (ps.drop cv) rfl (by first | exact HRD | (have h9 := HRD; rw [Option.map_some, Addr.add_lit] at h9; exact h9)) (fun u hu => HOne.out u (by rw [← flatE_drop] at hu; exact List.mem_of_mem_drop hu)) (by simp; omega) ?_
    intro vD wD hrD hgD hwD
    have HrD : Hid (wD.ownsRow 0 38 8 vD (ps.take k ++ ps.drop cv).length (flatE (ps.take k ++ ps.drop cv))) := hrD
    have HBD : Hid (Below w2.heap.size w2 wD) := (show Below _ _ _ from HBA.out.grown hgD HBA.out.size (fun i hi => HnA.out i hi))
    have HnD : Hid (∀ i, vD.ownBlock = some i → w2.heap.size ≤ i) := fun i hi => by
      rcases hwD i hi with r | r
      · exact HnA.out i r
      · exact Nat.le_trans HBA.out.size r
    have BD := (HRw.out wD (bnext HB2.out HBD.out)).1
    have b1 := BD.cell 1 _ rfl
    have g1 := BD.frozen 1
    have hbn : b < w2.heap.size := Nat.lt_of_lt_of_le hblt HB2.out.size
    have hbz : b ≠ n := by have := HNN.out; omega
    have hbe : b ≠ ne0 := by have := HNN.out; have := HNZ.out; omega
    have E6 := (HE2.out.below HBD.out).past (grown_setCell wD b 1 vD) (fun e' => hbe e'.symm)
    have Z6 := (HZ2.out.below HBD.out).past (grown_setCell wD b 1 vD) (fun e' => hbz e'.symm)
    obtain ⟨aD, cD, hvD, _⟩ := slice_of_own hrD
    generalize (ps.take k ++ ps.drop cv).length = nD at hvD
    subst hvD
    have m0 := E6.cell 0 _ rfl; have m1 := E6.cell 1 _ rfl; have m2 := E6.cell 2 _ rfl; have m3 := E6.cell 3 _ rfl; have m4 := E6.cell 4 _ rfl; have m5 := E6.cell 5 _ rfl; have m6 := E6.cell 6 _ rfl; have m7 := E6.cell 7 _ rfl
    have y0 := Z6.cell 0 _ rfl; have y1 := Z6.cell 1 _ rfl; have y2 := Z6.cell 2 _ rfl; have y3 := Z6.cell 3 _ rfl; have y4 := Z6.cell 4 _ rfl; have y5 := Z6.cell 5 _ rfl; have y6 := Z6.cell 6 _ rfl; have y7 := Z6.cell 7 _ rfl
    have q0 := Z6.frozen 0; have q1 := Z6.frozen 1; have q2 := Z6.frozen 2; have q3 := Z6.frozen 3; have q4 := Z6.frozen 4; have q5 := Z6.frozen 5; have q6 := Z6.frozen 6; have q7 := Z6.frozen 7
    clear hrD hgD hwD BD HRD E6 Z6
    refine ⟨rfl, ⟨⟨wD, HBD.out⟩, rfl⟩, ?_⟩
    go_simp
    refine tree_one rfl rfl ?_
    go_simp
    refine ⟨⟨⟨wD, HBD.out⟩, rfl⟩, ?_⟩
    refine tree_still rfl rfl ?_
    go_big_quiet_step (fail)
    refine wpQuiet_nil ?_
    refine tree_done ?_
    refine ⟨rfl, ?_⟩
    go_simp
    clear l1 ne
    obtain ⟨w6, hw6⟩ : ∃ w6, w6 = wD.setCell ⟨b, 1, none⟩ (.slice aD nD cD) := ⟨_, rfl⟩
    rw [← hw6] at m0 m1 m2 m3 m4 m5 m6 m7 y0 y1 y2 y3 y4 y5 y6 y7 q0 q1 q2 q3 q4 q5 q6 q7 ⊢
    have HW6 : Hid (w6 = wD.setCell ⟨b, 1, none⟩ (.slice aD nD cD)) := hw6
    clear hw6
    go_wp2
    have G := grown_set8 w6 n (.int .i64 ew) (.int .i64 ei) (.int .u64 ep) (.int .i64 et) (.int .i64 eu) (.int .i64 en) (.slice ax eb.length cx) (.int .u64 eg)
    refine bodyPost_ret (v := .tuple #[.agg #[.int .i64 ew, .int .i64 ei, .int .u64 ep, .int .i64 et, .int .i64 eu, .int .i64 en, .slice ax eb.length cx, .int .u64 eg], .bool true]) ?_ rfl ?_
    · rw [results_cell_tmp rfl]
      go_simp
    · generalize (((((((w6.setCell ⟨n, 0, none⟩ (.int .i64 ew)).setCell ⟨n, 1, none⟩ (.int .i64 ei)).setCell ⟨n, 2, none⟩ (.int .u64 ep)).setCell ⟨n, 3, none⟩ (.int .i64 et)).setCell ⟨n, 4, none⟩ (.int .i64 eu)).setCell ⟨n, 5, none⟩ (.int .i64 en)).setCell ⟨n, 6, none⟩ (.slice ax eb.length cx)).setCell ⟨n, 7, none⟩ (.int .u64 eg) = w9 at G ⊢
      rw [HW6.out] at G
      have hkk : cv = k + 1 := HK1.out
      have hRR := HrD.out
      rw [hkk] at hRR
      exact ⟨rfl, HTE.out wD w9 _ n (bnext HB2.out HBD.out) hRR (fun i hi => ⟨Nat.le_trans HB2.out.size (HnD.out i hi), by have := HnD.out i hi; have := HZ2.out.lt; omega⟩) (by have := HNN.out; omega) G⟩
  · have hck2 : ¬ k1 = cv := fun e' => hck e'.symm
    iterate 14 (refine tree_still rfl rfl ?_; go_big_quiet_step (fail); refine wpQuiet_nil ?_)
    refine tree_one rfl rfl ?_
    go_simp
    have HBu : Hid (Below w2.heap.size w2 (wd.alloc (.cells #[] 38))) := (show Below _ _ _ from balloc HBd.out _)
    have HOu : Hid ((wd.alloc (.cells #[] 38)).ownsRow 0 38 8 (.slice (some ⟨wd.heap.size, 0, none⟩) 0 0) ([] : List (Ent × Value)).length (flatE [])) := ⟨rfl, .inr ⟨wd.heap.size, 0, #[], rfl, Nat.zero_le _, heap_alloc_new wd _, Nat.le_refl _, Nat.zero_le _, rfl, rfl⟩⟩
    have HZ : Hid (w2.heap.size ≤ wd.heap.size) := HBd.out.size
    refine ⟨⟨⟨_, HBu.out⟩, rfl⟩, ?_⟩
    generalize wd.heap.size = z0 at HOu HZ ⊢
    generalize wd.alloc (.cells #[] 38) = u1 at HBu HOu ⊢
    refine tree_one rfl rfl ?_
    refine wp_of_list rfl ?_
    refine wpList_append_ents rfl (.tmp 25) (.tmp 31) rfl _ [] rfl HOu.out _ (ps.take k) rfl (RowE.take (HRw.out _ (bnext HB2.out HBu.out)).2 (by omega)) (fun u hu => HOne.out u (by rw [← flatE_take] at hu; exact List.mem_of_mem_take hu)) (by simp; omega) ?_
    intro vA wA hrA hgA hwA
    rw [List.nil_append] at hrA
    have HrA : Hid (wA.ownsRow 0 38 8 vA (ps.take k).length (flatE (ps.take k))) := hrA
    have HBA : Hid (Below w2.heap.size w2 wA) := bgrown HBu.out HZ.out hgA
    have HnA : Hid (∀ i, vA.ownBlock = some i → w2.heap.size ≤ i) := fun i hi => by
      rcases hwA i hi with r | r
      · cases r
        exact HZ.out
      · exact Nat.le_trans HBu.out.size r
    obtain ⟨aA, cA, hvA, _⟩ := slice_of_own hrA
    have hnl : (ps.take k).length = k := by rw [List.length_take]; omega
    rw [hnl] at hvA
    subst hvA
    clear hrA hgA hwA hnl
    refine ⟨rfl, ⟨⟨wA, HBA.out⟩, rfl⟩, ?_⟩
    go_simp
    refine tree_one rfl rfl ?_
    refine wp_of_list rfl ?_
    have HRD := RowE.drop (HRw.out wA (bnext HB2.out HBA.out)).2 (k := k1) (by omega) hck
    refine wpList_append_ents rfl (.tmp 32) (.tmp 39) rfl _ (ps.take k) rfl HrA.out _ (ps.drop k1) rfl (by first | exact HRD | (have h9 := HRD; rw [Option.map_some, Addr.add_lit] at h9; exact h9)) (fun u hu => HOne.out u (by rw [← flatE_drop] at hu; exact List.mem_of_mem_drop hu)) (by simp; omega) ?_
    intro vD wD hrD hgD hwD
    have HrD : Hid (wD.ownsRow 0 38 8 vD (ps.take k ++ ps.drop k1).length (flatE (ps.take k ++ ps.drop k1))) := hrD
    have HBD : Hid (Below w2.heap.size w2 wD) := (show Below _ _ _ from HBA.out.grown hgD HBA.out.size (fun i hi => HnA.out i hi))
    have HnD : Hid (∀ i, vD.ownBlock = some i → w2.heap.size ≤ i) := fun i hi => by
      rcases hwD i hi with r | r
      · exact HnA.out i r
      · exact Nat.le_trans HBA.out.size r
    have BD := (HRw.out wD (bnext HB2.out HBD.out)).1
    have b1 := BD.cell 1 _ rfl
    have g1 := BD.frozen 1
    have hbn : b < w2.heap.size := Nat.lt_of_lt_of_le hblt HB2.out.size
    have hbz : b ≠ n := by have := HNN.out; omega
    have hbe : b ≠ ne0 := by have := HNN.out; have := HNZ.out; omega
    have E6 := (HE2.out.below HBD.out).past (grown_setCell wD b 1 vD) (fun e' => hbe e'.symm)
    have Z6 := (HZ2.out.below HBD.out).past (grown_setCell wD b 1 vD) (fun e' => hbz e'.symm)
    obtain ⟨aD, cD, hvD, _⟩ := slice_of_own hrD
    generalize (ps.take k ++ ps.drop k1).length = nD at hvD
    subst hvD
    have m0 := E6.cell 0 _ rfl; have m1 := E6.cell 1 _ rfl; have m2 := E6.cell 2 _ rfl; have m3 := E6.cell 3 _ rfl; have m4 := E6.cell 4 _ rfl; have m5 := E6.cell 5 _ rfl; have m6 := E6.cell 6 _ rfl; have m7 := E6.cell 7 _ rfl
    have y0 := Z6.cell 0 _ rfl; have y1 := Z6.cell 1 _ rfl; have y2 := Z6.cell 2 _ rfl; have y3 := Z6.cell 3 _ rfl; have y4 := Z6.cell 4 _ rfl; have y5 := Z6.cell 5 _ rfl; have y6 := Z6.cell 6 _ rfl; have y7 := Z6.cell 7 _ rfl
    have q0 := Z6.frozen 0; have q1 := Z6.frozen 1; have q2 := Z6.frozen 2; have q3 := Z6.frozen 3; have q4 := Z6.frozen 4; have q5 := Z6.frozen 5; have q6 := Z6.frozen 6; have q7 := Z6.frozen 7
    clear hrD hgD hwD BD HRD E6 Z6
    refine ⟨rfl, ⟨⟨wD, HBD.out⟩, rfl⟩, ?_⟩
    go_simp
    refine tree_one rfl rfl ?_
    go_simp
    refine ⟨⟨⟨wD, HBD.out⟩, rfl⟩, ?_⟩
    refine tree_still rfl rfl ?_
    go_big_quiet_step (fail)
    refine wpQuiet_nil ?_
    refine tree_done ?_
    refine ⟨rfl, ?_⟩
    go_simp
    clear l1 ne
    obtain ⟨w6, hw6⟩ : ∃ w6, w6 = wD.setCell ⟨b, 1, none⟩ (.slice aD nD cD) := ⟨_, rfl⟩
    rw [← hw6] at m0 m1 m2 m3 m4 m5 m6 m7 y0 y1 y2 y3 y4 y5 y6 y7 q0 q1 q2 q3 q4 q5 q6 q7 ⊢
    have HW6 : Hid (w6 = wD.setCell ⟨b, 1, none⟩ (.slice aD nD cD)) := hw6
    clear hw6
    go_wp2
    have G := grown_set8 w6 n (.int .i64 ew) (.int .i64 ei) (.int .u64 ep) (.int .i64 et) (.int .i64 eu) (.int .i64 en) (.slice ax eb.length cx) (.int .u64 eg)
    refine bodyPost_ret (v := .tuple #[.agg #[.int .i64 ew, .int .i64 ei, .int .u64 ep, .int .i64 et, .int .i64 eu, .int .i64 en, .slice ax eb.length cx, .int .u64 eg], .bool true]) ?_ rfl ?_
    · rw [results_cell_tmp rfl]
      go_simp
    · generalize (((((((w6.setCell ⟨n, 0, none⟩ (.int .i64 ew)).setCell ⟨n, 1, none⟩ (.int .i64 ei)).setCell ⟨n, 2, none⟩ (.int .u64 ep)).setCell ⟨n, 3, none⟩ (.int .i64 et)).setCell ⟨n, 4, none⟩ (.int .i64 eu)).setCell ⟨n, 5, none⟩ (.int .i64 en)).setCell ⟨n, 6, none⟩ (.slice ax eb.length cx)).setCell ⟨n, 7, none⟩ (.int .u64 eg) = w9 at G ⊢
      rw [HW6.out] at G
      have hkk : k1 = k + 1 := HK1.out
      have hRR := HrD.out
      rw [hkk] at hRR
      exact ⟨rfl, HTE.out wD w9 _ n (bnext HB2.out HBD.out) hRR (fun i hi => ⟨Nat.le_trans HB2.out.size (HnD.out i hi), by have := HnD.out i hi; have := HZ2.out.lt; omega⟩) (by have := HNN.out; omega) G⟩

theorem rtake_any {w : World} {o : Nat → Nat} {j b : Nat} {most : Int} {M : List Ent} {a i : Int} (h : RBufIs w o j b most M) (hs : Srt M) (hj0 : j ≠ 0) (hfew : M.length ≤ 16) :
    Calls Try.prog 13 #[ptr b, .int .i64 a, .int .i64 i] w fun r w' => ∃ x, r = .returned (.tuple #[ev (tkE M a i) x, .bool (tkB M a i)]) ∧ ∃ o', RBufIs w' o' j b most (lessM M a i) ∧ Mv [j] w o w' o' ∧ Kp0 w' o' x (tkE M a i).b := by
  cases hf : findM M a i with
  | none =>
    have e1 : tkE M a i = zeroE := by unfold tkE; rw [hf]; rfl
    have e2 : tkB M a i = false := by unfold tkB; rw [hf]; rfl
    have e3 := lessM_none hf
    rw [e1, e2, e3]
    refine (rtake_none h hf).mono ?_
    rintro r w' ⟨rfl, hb⟩
    exact ⟨_, rfl, _, h.below hb, Mv.of_below 0 hb, kp0_nil _ _⟩
  | some e =>
    have e1 : tkE M a i = e := by unfold tkE; rw [hf]; rfl
    have e2 : tkB M a i = true := by unfold tkB; rw [hf]; rfl
    rw [e1, e2]
    obtain ⟨x, hk, he, C⟩ := rtake_hit h hs hj0 hfew hf
    refine C.mono ?_
    rintro r w' ⟨rfl, o', g1, g2⟩
    exact ⟨x, rfl, o', g1, g2, hk.mv g2 (by simp; omega)⟩
end Go.Proofs.Ytigfklcclfpcjaa
