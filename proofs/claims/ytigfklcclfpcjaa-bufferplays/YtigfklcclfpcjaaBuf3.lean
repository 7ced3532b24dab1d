/-
  Hold, Take, First by the plain list.
-/
import Derived.Test.YtigfklcclfpcjaaBuf2
namespace Go.Proofs.Ytigfklcclfpcjaa
set_option linter.unusedVariables false
set_option linter.unusedSimpArgs false
set_option synthInstance.maxSize 20000
set_option maxHeartbeats 400000
set_option maxRecDepth 20000
open Go.RowKit Go.Maps

section
variable {w : World} {o : Nat → Nat} {j b : Nat} {most : Int} {v : Value} {ps : List (Ent × Value)} {M : List Ent}
theorem hold_any {e : Ent} {x : Value} (h : BufIs w o j b most M) (hj0 : j ≠ 0) (he : EOk e) (hx : Kp0 w o x e.b) :
    Calls Try.prog 10 #[ptr b, ev e x] w fun r w' => r = .returned (.int .i64 (holdM most M e).1) ∧ ∃ o', BufIs w' o' j b most (holdM most M e).2 ∧ Mv [j] w o w' o' := by
  obtain ⟨v, ps, h⟩ := h
  have EQ : ∀ K : Int × List Ent, holdM most M e = K → (Calls Try.prog 10 #[ptr b, ev e x] w fun r w' => r = .returned (.int .i64 K.1) ∧ ∃ o', BufIs w' o' j b most K.2 ∧ Mv [j] w o w' o') → Calls Try.prog 10 #[ptr b, ev e x] w fun r w' => r = .returned (.int .i64 (holdM most M e).1) ∧ ∃ o', BufIs w' o' j b most (holdM most M e).2 ∧ Mv [j] w o w' o' := fun K hK hc => by rw [hK]; exact hc
  cases hr : rightB e with
  | false =>
    refine EQ (1, M) (by unfold holdM; rw [hr, if_neg (by simp)]) ?_
    refine (hold_bad (o := o) (b := b) hx.1 hr).mono ?_
    rintro r w' ⟨rfl, hb⟩
    exact ⟨rfl, _, ⟨v, ps, h.below hb⟩, Mv.of_below 0 hb⟩
  | true =>
    cases hf : findM M e.w e.i with
    | some f =>
      have hm : metM M e = if sameB f e = true then 8 else 9 := by unfold metM; rw [hf]
      refine EQ (metM M e, M) (by unfold holdM; rw [hr, if_pos rfl, hf, hm]) ?_
      refine (hold_met h hx.1 hr (by rw [hm]; split <;> omega)).mono ?_
      rintro r w' ⟨rfl, hb⟩
      exact ⟨rfl, _, ⟨v, ps, h.below hb⟩, Mv.of_below 0 hb⟩
    | none =>
      have hm : metM M e = 0 := by unfold metM; rw [hf]
      by_cases hfl : most ≤ (M.length : Int)
      · refine EQ (3, M) (by unfold holdM; rw [hr, if_pos rfl, hf]; dsimp only; rw [if_pos hfl]) ?_
        refine (hold_free h hj0 he hx hr hm true (by simp [hfl])).mono ?_
        rintro r w' ⟨rfl, hb⟩
        have hb' : Below w.heap.size w w' := by have := hb.out; rwa [if_pos rfl] at this
        exact ⟨rfl, _, ⟨v, ps, h.below hb'⟩, Mv.of_below 0 hb'⟩
      · refine EQ (0, insM e M) (by unfold holdM; rw [hr, if_pos rfl, hf]; dsimp only; rw [if_neg hfl]) ?_
        refine (hold_free h hj0 he hx hr hm false (by simp; omega)).mono ?_
        rintro r w' ⟨rfl, hq⟩
        have hq' : QMoved w o w' j b 61 [.int .i64 most] (fun qs => ∃ y, Heaped (ps ++ [(e, y)]) qs) := by have := hq.out; rwa [if_neg (by simp)] at this
        obtain ⟨o', qs, ⟨v', h1⟩, h2, y, h3⟩ := hq'
        refine ⟨rfl, o', ⟨v', qs, h1, h.has.put hf h3, fun f hf' => ?_, ?_, h.top⟩, h2⟩
        · rcases List.mem_cons.1 ((ins_perm e M).mem_iff.1 hf') with r | r
          · rw [r]; exact (rightB_iff e).1 hr
          · exact h.right f r
        · rw [ins_length]
          omega

theorem btake_nil (w : World) (a i : Int) : Calls Try.prog 12 #[.pointer none, .int .i64 a, .int .i64 i] w fun r w' => r = .returned (.tuple #[ev zeroE (.slice none 0 0), .bool false]) ∧ Below w.heap.size w w' := by
  unfold ev zeroE
  dsimp only
  go_enter Try.func12, Try.ntmps12
  go_wp2
  refine bodyPost_ret (v := .tuple #[.agg #[.int .i64 0, .int .i64 0, .int .u64 0, .int .i64 0, .int .i64 0, .int .i64 0, .slice none 0 0, .int .u64 0], .bool false]) ?_ rfl ⟨rfl, ?_⟩
  · rw [results_cell_tmp rfl]
    go_simp
  · exact balloc (Below.refl _ _) _

theorem btake_none {a i : Int} (h : BufIs w o j b most M) (hf : findM M a i = none) : Calls Try.prog 12 #[ptr b, .int .i64 a, .int .i64 i] w fun r w' => r = .returned (.tuple #[ev zeroE (.slice none 0 0), .bool false]) ∧ Below w.heap.size w w' := by
  obtain ⟨v, ps, h⟩ := h
  obtain ⟨w1, hw1⟩ : ∃ w1, w1 = w.alloc (.cells #[.int .i64 0, .int .i64 0, .int .u64 0, .int .i64 0, .int .i64 0, .int .i64 0, .slice none 0 0, .int .u64 0] 38) := ⟨_, rfl⟩
  have hb1 : Below w.heap.size w w1 := by rw [hw1]; exact balloc (Below.refl _ _) _
  have X1 : Blk w1 w.heap.size 38 [.int .i64 0, .int .i64 0, .int .u64 0, .int .i64 0, .int .i64 0, .int .i64 0, .slice none 0 0, .int .u64 0] := by rw [hw1]; exact blk_new w _ 38
  have h1 := h.below hb1
  have IX : ∀ w2, Below w1.heap.size w1 w2 → Calls Try.prog 48 #[v, .func (.func 34) #[.agg #[.int .i64 a, .int .i64 i]] #[]] w2 fun r w3 => r = .returned (.int .i64 (-1)) ∧ Below w2.heap.size w2 w3 := fun w2 hb2 => idxAt_none (h1.below hb2).q.rowE (h1.below hb2).rds _ _ ((h1.below hb2).none hf)
  have TK := take_none h1.q IX
  rw [len1] at TK
  unfold ev zeroE at *
  dsimp only at *
  have HTK : Hid (Calls _ _ _ _ _) := TK
  have HX1 : Hid (Blk w1 w.heap.size 38 [.int .i64 0, .int .i64 0, .int .u64 0, .int .i64 0, .int .i64 0, .int .i64 0, .slice none 0 0, .int .u64 0]) := X1
  have HB1 : Hid (Below w.heap.size w w1) := hb1
  have HW1 : Hid (_ = _) := hw1
  clear h h1 IX TK hw1 hb1 X1
  go_enter Try.func12, Try.ntmps12
  go_upto_region 1 with fail
  rw [← HW1.out]
  clear HW1
  obtain ⟨n, hn⟩ : ∃ n, n = w.heap.size := ⟨_, rfl⟩
  rw [← hn] at HX1 ⊢
  have HNN : Hid (n = w.heap.size) := hn
  clear hn
  go_wp2_with (go_at_call 33; go_must (refine HTK.out.mono ?_; rintro r w2 ⟨rfl, hb2⟩; have X2 := HX1.out.below hb2; have z0 := X2.cell 0 _ rfl; have z1 := X2.cell 1 _ rfl; have z2 := X2.cell 2 _ rfl; have z3 := X2.cell 3 _ rfl; have z4 := X2.cell 4 _ rfl; have z5 := X2.cell 5 _ rfl; have z6 := X2.cell 6 _ rfl; have z7 := X2.cell 7 _ rfl; have f0 := X2.frozen 0; have f1 := X2.frozen 1; have f2 := X2.frozen 2; have f3 := X2.frozen 3; have f4 := X2.frozen 4; have f5 := X2.frozen 5; have f6 := X2.frozen 6; have f7 := X2.frozen 7; have HB2 : Hid (Below w1.heap.size w1 w2) := hb2; clear hb2 X2))
  have G := grown_set8 w2 n (.int .i64 0) (.int .i64 0) (.int .u64 0) (.int .i64 0) (.int .i64 0) (.int .i64 0) (.slice none 0 0) (.int .u64 0)
  refine bodyPost_ret (v := .tuple #[.agg #[.int .i64 0, .int .i64 0, .int .u64 0, .int .i64 0, .int .i64 0, .int .i64 0, .slice none 0 0, .int .u64 0], .bool false]) ?_ rfl ⟨rfl, ?_⟩
  · rw [results_cell_tmp rfl]
    go_simp
  · exact bgrown (bnext HB1.out HB2.out) (by have := HNN.out; omega) G

/-- An entry that is taken out. -/
theorem btake_core {a i : Int} {k : Nat} {q : Ent × Value} {F : Nat} (h : BufAt w o j b most v ps M) (hj0 : j ≠ 0) (hk : ps[k]? = some q)
    (IX : ∀ w2, Below w.heap.size w w2 → Calls Try.prog 48 #[v, .func (.func F) #[.agg #[.int .i64 a, .int .i64 i]] #[]] w2 fun r w3 => r = .returned (.int .i64 (k : Int)) ∧ Below w2.heap.size w2 w3) :
    Calls Try.prog 33 #[.pointer (some ⟨b, 1, none⟩), .func (.func F) #[.agg #[.int .i64 a, .int .i64 i]] #[]] w fun r w' => r = .returned (.tuple #[ev q.1 q.2, .bool true]) ∧ QMoved w o w' j b 61 [.int .i64 most] (HeapedBut ps q) := by
  have TK := take_hit h.q hj0 hk (by have := h.pslen; omega) h.has.heap IX
  rw [len1] at TK
  exact TK

theorem BufAt.taken {w' : World} {q : Ent × Value} (h : BufAt w o j b most v ps M) (hq : q ∈ ps) (hm : QMoved w o w' j b 61 [.int .i64 most] (HeapedBut ps q)) (hj0 : j ≠ 0) : ∃ o', BufIs w' o' j b most (lessM M q.1.w q.1.i) ∧ Kp0 w' o' q.2 q.1.b ∧ Mv [j] w o w' o' := by
  obtain ⟨o', qs, ⟨v', h1⟩, h2, h3⟩ := hm
  have hmem := h.has.mem hq
  have hl := lessM_length h.has.srt hmem
  refine ⟨o', ⟨v', qs, h1, h.has.less hmem h3, fun e he => h.right e (List.mem_filter.1 he).1, ?_, h.top⟩, (h.q.ents q hq).2.mv h2 (by simp; omega), h2⟩
  have := h.few
  omega

theorem btake_hit {a i : Int} {e : Ent} (h : BufIs w o j b most M) (hj0 : j ≠ 0) (hf : findM M a i = some e) : ∃ x, Kp0 w o x e.b ∧ EOk e ∧ Calls Try.prog 12 #[ptr b, .int .i64 a, .int .i64 i] w fun r w' => r = .returned (.tuple #[ev e x, .bool true]) ∧ ∃ o', BufIs w' o' j b most (lessM M a i) ∧ Mv [j] w o w' o' := by
  obtain ⟨v, ps, h⟩ := h
  obtain ⟨k, x, hk, hbf⟩ := h.some hf
  obtain ⟨hmem, hw, hi⟩ := findM_some hf
  have hat : atB a i (e, x).1 = true := (atB_iff _ _ _).2 ⟨hw, hi⟩
  have hE := h.q.ents (e, x) (List.mem_of_getElem? hk)
  refine ⟨x, hE.2, hE.1, ?_⟩
  obtain ⟨c, hc1, hcj, hcf⟩ := fresh_owner w o j
  obtain ⟨w1, hw1⟩ : ∃ w1, w1 = w.alloc (.cells #[.int .i64 0, .int .i64 0, .int .u64 0, .int .i64 0, .int .i64 0, .int .i64 0, .slice none 0 0, .int .u64 0] 38) := ⟨_, rfl⟩
  have hb1 : Below w.heap.size w w1 := by rw [hw1]; exact balloc (Below.refl _ _) _
  have X1 : Blk w1 w.heap.size 38 [.int .i64 0, .int .i64 0, .int .u64 0, .int .i64 0, .int .i64 0, .int .i64 0, .slice none 0 0, .int .u64 0] := by rw [hw1]; exact blk_new w _ 38
  have h1 : BufAt w1 (newTo (newTo o w c) w1 0) j b most v ps M := (h.mv (Mv.of_below (I := []) c hb1) (by simp) (by simp)).mv (Mv.of_below (I := []) 0 (Below.refl _ _)) (by simp) (by simp)
  have IX : ∀ w2, Below w1.heap.size w1 w2 → Calls Try.prog 48 #[v, .func (.func 34) #[.agg #[.int .i64 a, .int .i64 i]] #[]] w2 fun r w3 => r = .returned (.int .i64 (k : Int)) ∧ Below w2.heap.size w2 w3 := fun w2 hb2 => idxAt_hit (h1.below hb2).q.rowE (h1.below hb2).rds _ _ hk hat hbf
  have TK := btake_core h1 hj0 hk IX
  have TE := fun (w3 w4 : World) hm hg => take_end (w2 := w1) (w3 := w3) (w4 := w4) (b := b) (T := 61) (pre := [.int .i64 most]) (R := HeapedBut ps (e, x)) hcj hc1 hcf X1.lt hb1 (Below.refl _ _) hm hg
  have HRs : Hid (∀ w3, QMoved w1 (newTo (newTo o w c) w1 0) w3 j b 61 [.int .i64 most] (HeapedBut ps (e, x)) → Blk w3 w.heap.size 38 [.int .i64 0, .int .i64 0, .int .u64 0, .int .i64 0, .int .i64 0, .int .i64 0, .slice none 0 0, .int .u64 0]) := fun w3 hm => by
    obtain ⟨o3, qs, hq, m3, hR⟩ := hm
    refine X1.block (m3.block _ X1.lt ?_)
    rw [newTo_old X1.lt, newTo_new (Nat.le_refl _)]
    simp
    omega
  have FI := fun (w4 : World) (hm : QMoved w o w4 j b 61 [.int .i64 most] (HeapedBut ps (e, x))) => h.taken (List.mem_of_getElem? hk) hm hj0
  dsimp only at FI
  rw [hw, hi] at FI
  obtain ⟨ax, cx, hxx⟩ := hE.2.1.len
  dsimp only at hxx TK
  subst hxx
  obtain ⟨ew, ei, ep, et, eu, en, eb, eg⟩ := e
  unfold ev at *
  dsimp only at *
  have HTK : Hid (Calls _ _ _ _ _) := TK
  have HTE : Hid (_) := TE
  have HFI : Hid (_) := FI
  have HX1 : Hid (Blk w1 w.heap.size 38 [.int .i64 0, .int .i64 0, .int .u64 0, .int .i64 0, .int .i64 0, .int .i64 0, .slice none 0 0, .int .u64 0]) := X1
  have HW1 : Hid (_ = _) := hw1
  clear h h1 IX TK TE FI hw1 hb1 X1 hk hbf hat hE hmem hf hcf hw hi
  go_enter Try.func12, Try.ntmps12
  go_upto_region 1 with fail
  rw [← HW1.out]
  clear HW1
  obtain ⟨n, hn⟩ : ∃ n, n = w.heap.size := ⟨_, rfl⟩
  rw [← hn] at HX1 HRs ⊢
  have HNN : Hid (n = w.heap.size) := hn
  clear hn
  go_wp2_with (go_at_call 33; go_must (refine HTK.out.mono ?_; rintro r w3 ⟨rfl, hm3⟩; have X3 := HRs.out w3 hm3; have z0 := X3.cell 0 _ rfl; have z1 := X3.cell 1 _ rfl; have z2 := X3.cell 2 _ rfl; have z3 := X3.cell 3 _ rfl; have z4 := X3.cell 4 _ rfl; have z5 := X3.cell 5 _ rfl; have z6 := X3.cell 6 _ rfl; have z7 := X3.cell 7 _ rfl; have f0 := X3.frozen 0; have f1 := X3.frozen 1; have f2 := X3.frozen 2; have f3 := X3.frozen 3; have f4 := X3.frozen 4; have f5 := X3.frozen 5; have f6 := X3.frozen 6; have f7 := X3.frozen 7; have HM3 : Hid (_) := hm3; clear hm3 X3))
  have G := grown_set8 w3 n (.int .i64 ew) (.int .i64 ei) (.int .u64 ep) (.int .i64 et) (.int .i64 eu) (.int .i64 en) (.slice ax eb.length cx) (.int .u64 eg)
  refine bodyPost_ret (v := .tuple #[.agg #[.int .i64 ew, .int .i64 ei, .int .u64 ep, .int .i64 et, .int .i64 eu, .int .i64 en, .slice ax eb.length cx, .int .u64 eg], .bool true]) ?_ rfl ?_
  · rw [results_cell_tmp rfl]
    go_simp
  · generalize (((((((w3.setCell ⟨n, 0, none⟩ (.int .i64 ew)).setCell ⟨n, 1, none⟩ (.int .i64 ei)).setCell ⟨n, 2, none⟩ (.int .u64 ep)).setCell ⟨n, 3, none⟩ (.int .i64 et)).setCell ⟨n, 4, none⟩ (.int .i64 eu)).setCell ⟨n, 5, none⟩ (.int .i64 en)).setCell ⟨n, 6, none⟩ (.slice ax eb.length cx)).setCell ⟨n, 7, none⟩ (.int .u64 eg) = w9 at G ⊢
    rw [HNN.out] at G
    obtain ⟨o', g1, g2, g3⟩ := HFI.out w9 (HTE.out w3 w9 HM3.out G)
    exact ⟨rfl, o', g1, g3⟩

theorem bfirst_none (h : BufIs w o j b most []) : Calls Try.prog 20 #[ptr b] w fun r w' => r = .returned (.tuple #[ev zeroE (.slice none 0 0), .bool false]) ∧ Below w.heap.size w w' := by
  have BL : ∀ w', Below w.heap.size w w' → Calls Try.prog 22 #[ptr b] w' fun r w2 => r = .returned (.int .i64 0) ∧ w2 = w' := fun w' hb => blen_any (h.below hb)
  obtain ⟨w1, hw1⟩ : ∃ w1, w1 = w.alloc (.cells #[.int .i64 0, .int .i64 0, .int .u64 0, .int .i64 0, .int .i64 0, .int .i64 0, .slice none 0 0, .int .u64 0] 38) := ⟨_, rfl⟩
  have HB1 : Hid (Below w.heap.size w w1) := by show Below _ _ _; rw [hw1]; exact balloc (Below.refl _ _) _
  have HX1 : Hid (Blk w1 w.heap.size 38 [.int .i64 0, .int .i64 0, .int .u64 0, .int .i64 0, .int .i64 0, .int .i64 0, .slice none 0 0, .int .u64 0]) := by show Blk _ _ _ _; rw [hw1]; exact blk_new w _ 38
  have HBL : Hid (_) := BL
  unfold ev zeroE at *
  dsimp only at *
  clear h BL
  go_enter Try.func20, Try.ntmps20
  go_upto_region 1 with fail
  rw [← hw1]
  obtain ⟨n, hn⟩ : ∃ n, n = w.heap.size := ⟨_, rfl⟩
  rw [← hn] at HX1 ⊢
  have HNN : Hid (n = w.heap.size) := hn
  clear hn hw1
  have z0 := HX1.out.cell 0 _ rfl; have z1 := HX1.out.cell 1 _ rfl; have z2 := HX1.out.cell 2 _ rfl; have z3 := HX1.out.cell 3 _ rfl; have z4 := HX1.out.cell 4 _ rfl; have z5 := HX1.out.cell 5 _ rfl; have z6 := HX1.out.cell 6 _ rfl; have z7 := HX1.out.cell 7 _ rfl
  have f0 := HX1.out.frozen 0; have f1 := HX1.out.frozen 1; have f2 := HX1.out.frozen 2; have f3 := HX1.out.frozen 3; have f4 := HX1.out.frozen 4; have f5 := HX1.out.frozen 5; have f6 := HX1.out.frozen 6; have f7 := HX1.out.frozen 7
  go_wp2_with (go_at_call 22; go_must (refine (HBL.out w1 HB1.out).mono ?_; rintro r w2 ⟨rfl, hw2⟩; replace hw2 := hw2.symm; subst hw2))
  have G := grown_set8 w1 n (.int .i64 0) (.int .i64 0) (.int .u64 0) (.int .i64 0) (.int .i64 0) (.int .i64 0) (.slice none 0 0) (.int .u64 0)
  refine bodyPost_ret (v := .tuple #[.agg #[.int .i64 0, .int .i64 0, .int .u64 0, .int .i64 0, .int .i64 0, .int .i64 0, .slice none 0 0, .int .u64 0], .bool false]) ?_ rfl ⟨rfl, ?_⟩
  · rw [results_cell_tmp rfl]
    go_simp
  · exact bgrown HB1.out (by have := HNN.out; omega) G

theorem bfirst_nil (w : World) : Calls Try.prog 20 #[.pointer none] w fun r w' => r = .returned (.tuple #[ev zeroE (.slice none 0 0), .bool false]) ∧ Below w.heap.size w w' := by
  have BL : ∀ w', Calls Try.prog 22 #[.pointer none] w' fun r w2 => r = .returned (.int .i64 0) ∧ w2 = w' := fun w' => by
    go_enter Try.func22, Try.ntmps22
    go_wp2
    go_ret
    exact ⟨rfl, rfl⟩
  have HBL : Hid (_) := BL
  unfold ev zeroE at *
  dsimp only at *
  clear BL
  go_enter Try.func20, Try.ntmps20
  go_wp2_with (go_at_call 22; go_must (refine (HBL.out _).mono ?_; rintro r w2 ⟨rfl, hw2⟩; replace hw2 := hw2.symm; subst hw2))
  refine bodyPost_ret (v := .tuple #[.agg #[.int .i64 0, .int .i64 0, .int .u64 0, .int .i64 0, .int .i64 0, .int .i64 0, .slice none 0 0, .int .u64 0], .bool false]) ?_ rfl ⟨rfl, ?_⟩
  · rw [results_cell_tmp rfl]
    go_simp
  · exact balloc (Below.refl _ _) _

theorem bfirst_some {e : Ent} {M' : List Ent} (h : BufIs w o j b most (e :: M')) : EOk e ∧ Calls Try.prog 20 #[ptr b] w fun r w' => ∃ y, r = .returned (.tuple #[ev e y, .bool true]) ∧ Kp0 w' (newTo o w 0) y e.b ∧ Below w.heap.size w w' := by
  have BL : ∀ w', Below w.heap.size w w' → Calls Try.prog 22 #[ptr b] w' fun r w2 => r = .returned (.int .i64 ((e :: M').length : Int)) ∧ w2 = w' := fun w' hb => blen_any (h.below hb)
  have hml := h.len
  obtain ⟨v, ps, h⟩ := h
  have hl := h.has.len
  obtain ⟨q, hq⟩ : ∃ q, ps[0]? = some q := ⟨_, List.getElem?_eq_getElem (by rw [hl]; simp)⟩
  have hqe : q.1 = e := by have := h.has.first hq; simpa using this.symm
  have hE := h.q.ents q (List.mem_of_getElem? hq)
  have hlen : q.1.b.length ≤ 1100 := (h.right _ (h.has.mem (List.mem_of_getElem? hq))).2.2.2.2.2.2
  have FQ : ∀ w', Below w.heap.size w w' → Calls Try.prog 37 #[.pointer (some ⟨b, 1, none⟩)] w' fun r w2 => r = .returned (ev q.1 q.2) ∧ Below w'.heap.size w' w2 := fun w' hb => by
    have F := firstQ_any (h.below hb).q hq
    rw [len1] at F
    exact F
  have CP := fun w' (hb : Below w.heap.size w w') => copied_any w' q.1 q.2 (hE.2.1.below hb) (by omega)
  obtain ⟨e', x⟩ := q
  dsimp only at *
  subst hqe
  refine ⟨hE.1, ?_⟩
  obtain ⟨ax, cx, hxx⟩ := hE.2.1.len
  subst hxx
  obtain ⟨ew, ei, ep, et, eu, en, eb, eg⟩ := e'
  unfold ev at *
  dsimp only at *
  obtain ⟨w1, hw1⟩ : ∃ w1, w1 = w.alloc (.cells #[.int .i64 0, .int .i64 0, .int .u64 0, .int .i64 0, .int .i64 0, .int .i64 0, .slice none 0 0, .int .u64 0] 38) := ⟨_, rfl⟩
  have HB1 : Hid (Below w.heap.size w w1) := by show Below _ _ _; rw [hw1]; exact balloc (Below.refl _ _) _
  have HX1 : Hid (Blk w1 w.heap.size 38 [.int .i64 0, .int .i64 0, .int .u64 0, .int .i64 0, .int .i64 0, .int .i64 0, .slice none 0 0, .int .u64 0]) := by show Blk _ _ _ _; rw [hw1]; exact blk_new w _ 38
  have hpos : 0 < (((⟨ew, ei, ep, et, eu, en, eb, eg⟩ : Ent) :: M').length) := by simp
  generalize ((⟨ew, ei, ep, et, eu, en, eb, eg⟩ : Ent) :: M').length = ml at *
  have HBL : Hid (_) := BL
  have HFQ : Hid (_) := FQ
  have HCP : Hid (_) := CP
  clear h BL FQ CP hE hq hlen hl
  go_enter Try.func20, Try.ntmps20
  go_upto_region 1 with fail
  rw [← hw1]
  obtain ⟨n, hn⟩ : ∃ n, n = w.heap.size := ⟨_, rfl⟩
  rw [← hn] at HX1 ⊢
  have HNN : Hid (n = w.heap.size) := hn
  clear hn hw1
  go_wp2_with (first
    | (go_at_call 22; go_must (refine (HBL.out w1 HB1.out).mono ?_; rintro r w2 ⟨rfl, hw2⟩; replace hw2 := hw2.symm; subst hw2))
    | (go_at_call 37; go_must (refine (HFQ.out w1 HB1.out).mono ?_; rintro r w2 ⟨rfl, hb2⟩; have HB2 : Hid (Below w.heap.size w w2) := bnext HB1.out hb2; have HX2 : Hid (Blk w2 n 38 [.int .i64 0, .int .i64 0, .int .u64 0, .int .i64 0, .int .i64 0, .int .i64 0, .slice none 0 0, .int .u64 0]) := HX1.out.below hb2; clear hb2))
    | (go_at_call 29; go_must (refine (HCP.out w2 HB2.out).mono ?_; rintro r w3 ⟨y, rfl, ho3, hb3⟩; obtain ⟨ay, cy, hyy⟩ := ho3.rd.len; subst hyy; have X3 := HX2.out.below hb3; have z0 := X3.cell 0 _ rfl; have z1 := X3.cell 1 _ rfl; have z2 := X3.cell 2 _ rfl; have z3 := X3.cell 3 _ rfl; have z4 := X3.cell 4 _ rfl; have z5 := X3.cell 5 _ rfl; have z6 := X3.cell 6 _ rfl; have z7 := X3.cell 7 _ rfl; have f0 := X3.frozen 0; have f1 := X3.frozen 1; have f2 := X3.frozen 2; have f3 := X3.frozen 3; have f4 := X3.frozen 4; have f5 := X3.frozen 5; have f6 := X3.frozen 6; have f7 := X3.frozen 7; have HB3 : Hid (Below w.heap.size w w3) := bnext HB2.out hb3; have HO3 : Hid (Own w2.heap.size 5 w3 (.slice ay eb.length cy) eb) := ho3; clear hb3 X3 ho3)))
  have G := grown_set8 w3 n (.int .i64 ew) (.int .i64 ei) (.int .u64 ep) (.int .i64 et) (.int .i64 eu) (.int .i64 en) (.slice ay eb.length cy) (.int .u64 eg)
  refine bodyPost_ret (v := .tuple #[.agg #[.int .i64 ew, .int .i64 ei, .int .u64 ep, .int .i64 et, .int .i64 eu, .int .i64 en, .slice ay eb.length cy, .int .u64 eg], .bool true]) ?_ rfl ⟨.slice ay eb.length cy, rfl, ?_, ?_⟩
  · rw [results_cell_tmp rfl]
    go_simp
  · exact Kp0.of_new (w1 := w) (own_past HO3.out HX2.out.lt G) HB2.out.size
  · exact bgrown HB3.out (by have := HNN.out; omega) G
end
end Go.Proofs.Ytigfklcclfpcjaa
