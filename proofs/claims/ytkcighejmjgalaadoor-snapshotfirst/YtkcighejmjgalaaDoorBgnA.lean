/-
  The steps of begin (closures); what begin comes to (bgn), and its stages, by owners.
-/
import Derived.Test.YtkcighejmjgalaaDoorSto
namespace Go.Proofs.YtkcighejmjgalaaDoor
set_option linter.unusedVariables false
set_option linter.unusedSimpArgs false
set_option synthInstance.maxSize 20000
set_option maxHeartbeats 2000000
set_option maxRecDepth 20000
open Go.RowKit Go.Maps

theorem tree_calm {P : Program} {C : World → Prop} {Q : Exit → Act → World → Prop} {a : Act} {w : World} {l : List Oper} {i : Nat} {o : Oper} {n : Nat} {t : OT n} (v : Value) (hi : l[i]? = some o) (hw : Region.wanted o (yielded l.toArray a.tmps) = true)
    (h1 : ∀ w', C w' → Oper.quietUpon P (fun w'' => w'' = w') w' v ((execOp a.eval o).run P w')) (h2 : wpTree P l.toArray C Q n t (a.put o.dst v) w) : wpTree P l.toArray C Q (n + 1) (OT.still i t) a w := by
  refine ⟨o, by simpa using hi, ?_⟩
  unfold stepOp
  rw [if_neg (by simp)]
  exact ⟨v, .inl ⟨hw, h1⟩, h2⟩
/-- What the steps have caught, and the store. -/
structure BxW (sb s3 s4 s5 p q db : Nat) (jv : Value) (num : Int) (f : Bool) (n : Int) (bv : Value) (base size : Nat) (w : World) : Prop where
  st : Blk w sb 62 (stc db jv num f)
  b3 : Blk w s3 29 [ptr sb]
  b4 : Blk w s4 34 [.int .u32 n]
  b5 : Blk w s5 30 [bv]
  bp : Blk w p 3 [.int .i64 (base : Int)]
  bq : Blk w q 3 [.int .i64 (size : Int)]
section
variable {sb s3 s4 s5 p q db : Nat} {jv : Value} {num : Int} {f : Bool} {n : Int} {bv : Value} {base size : Nat} {w w' : World}
theorem BxW.past {c : Nat} (h : BxW sb s3 s4 s5 p q db jv num f n bv base size w) (hg : w.grownBy w' (some c)) (hc : c ≠ sb ∧ c ≠ s3 ∧ c ≠ s4 ∧ c ≠ s5 ∧ c ≠ p ∧ c ≠ q) : BxW sb s3 s4 s5 p q db jv num f n bv base size w' :=
  ⟨h.st.past hg hc.1.symm, h.b3.past hg hc.2.1.symm, h.b4.past hg hc.2.2.1.symm, h.b5.past hg hc.2.2.2.1.symm, h.bp.past hg hc.2.2.2.2.1.symm, h.bq.past hg hc.2.2.2.2.2.symm⟩
theorem BxW.drew (h : BxW sb s3 s4 s5 p q db jv num f n bv base size w) : BxW sb s3 s4 s5 p q db jv num f n bv base size w.drew := ⟨h.st, h.b3, h.b4, h.b5, h.bp, h.bq⟩

theorem c48 {jx : Nat} {x : Value} {Q : Int → Option Addr → World → Prop} (hB : BxW sb s3 s4 s5 p q db jv num f n bv base size w) (hne : jx ≠ sb ∧ jx ≠ s3 ∧ jx ≠ s4 ∧ jx ≠ s5 ∧ jx ≠ p ∧ jx ≠ q)
    (hC : Calls Tryd.prog 49 #[ptr db, .int .i64 (base : Int), .int .i64 (size : Int), .int .u32 n] w.drew fun r w' => ∃ k a, r = .returned (.tuple #[.pointer a, .int .i64 k]) ∧ BxW sb s3 s4 s5 p q db jv num f n bv base size w' ∧ Blk w' jx 60 [x] ∧ Q k a w') :
    Calls Tryd.prog 48 #[ptr s3, ptr p, ptr q, ptr s4, ptr jx] w fun r w' => ∃ k, r = .returned (.int .i64 k) ∧ ∃ a w1, Q k a w1 ∧ w' = w1.setCell ⟨jx, 0, none⟩ (.pointer a) := by
  have HC : Hid (Calls Tryd.prog 49 #[ptr db, .int .i64 (base : Int), .int .i64 (size : Int), .int .u32 n] w.drew fun r w' => ∃ k a, r = .returned (.tuple #[.pointer a, .int .i64 k]) ∧ BxW sb s3 s4 s5 p q db jv num f n bv base size w' ∧ Blk w' jx 60 [x] ∧ Q k a w') := hC
  have e0 : ∀ z : WIn (BxW sb s3 s4 s5 p q db jv num f n bv base size), z.w.cell? ⟨s3, 0, none⟩ = some (ptr sb) := fun z => z.ok.b3.cell 0 _ rfl
  have e1 : ∀ z : WIn (BxW sb s3 s4 s5 p q db jv num f n bv base size), z.w.cell? ⟨sb, 0, none⟩ = some (ptr db) := fun z => z.ok.st.cell 0 _ rfl
  have e2 : ∀ z : WIn (BxW sb s3 s4 s5 p q db jv num f n bv base size), z.w.cell? ⟨p, 0, none⟩ = some (.int .i64 (base : Int)) := fun z => z.ok.bp.cell 0 _ rfl
  have e3 : ∀ z : WIn (BxW sb s3 s4 s5 p q db jv num f n bv base size), z.w.cell? ⟨q, 0, none⟩ = some (.int .i64 (size : Int)) := fun z => z.ok.bq.cell 0 _ rfl
  have e4 : ∀ z : WIn (BxW sb s3 s4 s5 p q db jv num f n bv base size), z.w.cell? ⟨s4, 0, none⟩ = some (.int .u32 n) := fun z => z.ok.b4.cell 0 _ rfl
  have ne : Nonempty (WIn (BxW sb s3 s4 s5 p q db jv num f n bv base size)) := ⟨⟨w, hB⟩⟩
  have HB : Hid (BxW sb s3 s4 s5 p q db jv num f n bv base size w.drew) := hB.drew
  have HNe : Hid (jx ≠ sb ∧ jx ≠ s3 ∧ jx ≠ s4 ∧ jx ≠ s5 ∧ jx ≠ p ∧ jx ≠ q) := hne
  clear hB hC hne
  go_enter Tryd.func48, Tryd.ntmps48
  go_upto_region 1 with fail
  refine wp_region_tree (C := fun w' => ∃ z : WIn (BxW sb s3 s4 s5 p q db jv num f n bv base size), w' = z.w) (.still 0 (.still 1 (.still 2 (.still 3 (.still 4 (.still 5 (.still 6 (.one 7 (.still 8 (.still 9 (.still 10 (.one 11 (.still 12 .done))))))))))))) (by kernel_rfl) (by kernel_rfl) ⟨⟨w.drew, HB.out⟩, rfl⟩ ?_
  generalize w.drew = wd at *
  iterate 7 (refine tree_still rfl rfl ?_; go_big_quiet_step (fail); refine wpQuiet_nil ?_)
  refine tree_one rfl rfl ?_
  go_simp
  refine HC.out.mono ?_
  rintro r w1 ⟨k, a, rfl, hB1, hj1, hq1⟩
  have HB1 : Hid (BxW sb s3 s4 s5 p q db jv num f n bv base size w1) := hB1
  have HQ1 : Hid (Q k a w1) := hq1
  have l1 : w1.cell? ⟨jx, 0, none⟩ = some x := hj1.cell 0 _ rfl
  have l2 := hj1.frozen 0
  have HB2 : Hid (BxW sb s3 s4 s5 p q db jv num f n bv base size (w1.setCell ⟨jx, 0, none⟩ (.pointer a))) := hB1.past (grown_setCell _ _ _ _) HNe.out
  clear hB1 hq1 hj1
  refine ⟨⟨⟨w1, HB1.out⟩, rfl⟩, ?_⟩
  iterate 3 (refine tree_still rfl rfl ?_; go_big_quiet_step (fail); refine wpQuiet_nil ?_)
  refine tree_one rfl rfl ?_
  go_simp
  refine ⟨⟨⟨_, HB2.out⟩, rfl⟩, ?_⟩
  refine tree_still rfl rfl ?_
  go_big_quiet_step (fail)
  refine wpQuiet_nil ?_
  refine tree_done ?_
  clear e0 e1 e2 e3 e4 ne
  go_wp2
  go_ret
  exact ⟨k, rfl, a, w1, HQ1.out, rfl⟩
theorem c50 {jx : Nat} {x : Value} {Q : Ending → World → Prop} (hB : BxW sb s3 s4 s5 p q db jv num f n bv base size w) (hj : Blk w jx 60 [x])
    (hC : Calls Tryd.prog 28 #[x, bv] w fun r w' => ∃ k, r = .returned (.int .i64 k) ∧ Q r w') :
    Calls Tryd.prog 50 #[ptr jx, ptr s5] w fun r w' => ∃ k, r = .returned (.int .i64 k) ∧ Q r w' := by
  have HC : Hid (Calls Tryd.prog 28 #[x, bv] w fun r w' => ∃ k, r = .returned (.int .i64 k) ∧ Q r w') := hC
  have l1 : w.cell? ⟨jx, 0, none⟩ = some x := hj.cell 0 _ rfl
  have l2 : w.cell? ⟨s5, 0, none⟩ = some bv := hB.b5.cell 0 _ rfl
  clear hB hj hC
  go_enter Tryd.func50, Tryd.ntmps50
  go_wp2_with fail
  refine HC.out.mono ?_
  rintro r w1 ⟨k, rfl, hq⟩
  have HQ : Hid (Q (.returned (.int .i64 k)) w1) := hq
  clear hq
  go_wp2
  go_ret
  exact ⟨k, rfl, HQ.out⟩
theorem c55 {Q : Ending → World → Prop} (hB : BxW sb s3 s4 s5 p q db jv num f n bv base size w)
    (hC : Calls Tryd.prog 56 #[ptr db] w fun r w' => ∃ k, r = .returned (.int .i64 k) ∧ Q r w') :
    Calls Tryd.prog 55 #[ptr s3] w fun r w' => ∃ k, r = .returned (.int .i64 k) ∧ Q r w' := by
  have HC : Hid (Calls Tryd.prog 56 #[ptr db] w fun r w' => ∃ k, r = .returned (.int .i64 k) ∧ Q r w') := hC
  have l1 : w.cell? ⟨s3, 0, none⟩ = some (ptr sb) := hB.b3.cell 0 _ rfl
  have l2 : w.cell? ⟨sb, 0, none⟩ = some (ptr db) := hB.st.cell 0 _ rfl
  clear hB hC
  go_enter Tryd.func55, Tryd.ntmps55
  go_wp2_with fail
  refine HC.out.mono ?_
  rintro r w1 ⟨k, rfl, hq⟩
  have HQ : Hid (Q (.returned (.int .i64 k)) w1) := hq
  clear hq
  go_wp2
  go_ret
  exact ⟨k, rfl, HQ.out⟩
theorem c51 {Q : Ending → World → Prop} (hB : BxW sb s3 s4 s5 p q db jv num f n bv base size w) (hn : U32 n) (hT : Tab w)
    (hC : ∀ w1 v, Below w.heap.size w w1 → Rd w1 v (headL n) → Calls Tryd.prog 52 #[ptr db, .int .i64 (placeN n : Int), v] w1 fun r w' => ∃ k, r = .returned (.int .i64 k) ∧ BxW sb s3 s4 s5 p q db jv num f n bv base size w' ∧ Q r w') :
    Calls Tryd.prog 51 #[ptr s3, ptr s4] w fun r w' => ∃ k, r = .returned (.int .i64 k) ∧ Q r w' := by
  have HC : Hid (∀ w1 v, Below w.heap.size w w1 → Rd w1 v (headL n) → Calls Tryd.prog 52 #[ptr db, .int .i64 (placeN n : Int), v] w1 fun r w' => ∃ k, r = .returned (.int .i64 k) ∧ BxW sb s3 s4 s5 p q db jv num f n bv base size w' ∧ Q r w') := hC
  have e0 : ∀ z : WIn (BxW sb s3 s4 s5 p q db jv num f n bv base size), z.w.cell? ⟨s3, 0, none⟩ = some (ptr sb) := fun z => z.ok.b3.cell 0 _ rfl
  have e1 : ∀ z : WIn (BxW sb s3 s4 s5 p q db jv num f n bv base size), z.w.cell? ⟨sb, 0, none⟩ = some (ptr db) := fun z => z.ok.st.cell 0 _ rfl
  have e4 : ∀ z : WIn (BxW sb s3 s4 s5 p q db jv num f n bv base size), z.w.cell? ⟨s4, 0, none⟩ = some (.int .u32 n) := fun z => z.ok.b4.cell 0 _ rfl
  have ne : Nonempty (WIn (BxW sb s3 s4 s5 p q db jv num f n bv base size)) := ⟨⟨w, hB⟩⟩
  have HB : Hid (BxW sb s3 s4 s5 p q db jv num f n bv base size w.drew) := hB.drew
  have HPl : Hid (Calls Tryd.prog 53 #[.int .u32 n] w.drew fun r w' => r = .returned (.int .i64 (placeN n : Int)) ∧ w' = w.drew) := place53 n w.drew hn
  have HHd : Hid (Calls Tryd.prog 54 #[.int .u32 n] w.drew fun r w' => ∃ x c, r = .returned (.slice x 64 c) ∧ Rd w' (.slice x 64 c) (headL n) ∧ Below w.heap.size w w') := by
    refine (head54 hT.drew hn).mono ?_
    rintro r w' ⟨rfl, hr, hb⟩
    exact ⟨_, _, rfl, hr, below_undrew hb⟩
  have HBw : Hid (BxW sb s3 s4 s5 p q db jv num f n bv base size w) := hB
  clear hB hC hT
  generalize placeN n = P at *
  go_enter Tryd.func51, Tryd.ntmps51
  go_upto_region 1 with fail
  refine wp_region_tree (C := fun w' => ∃ z : WIn (BxW sb s3 s4 s5 p q db jv num f n bv base size), w' = z.w) (.still 0 (.still 1 (.still 2 (.still 3 (.still 4 (.still 6 (.one 5 (.one 7 (.one 8 (.still 9 .done)))))))))) (by kernel_rfl) (by kernel_rfl) ⟨⟨w.drew, HB.out⟩, rfl⟩ ?_
  generalize w.drew = wd at *
  iterate 6 (refine tree_still rfl rfl ?_; go_big_quiet_step (fail); refine wpQuiet_nil ?_)
  refine tree_one rfl rfl ?_
  go_simp
  refine HPl.out.mono ?_
  rintro r w1 ⟨rfl, hw1⟩
  replace hw1 := hw1.symm
  subst hw1
  refine ⟨⟨⟨_, HB.out⟩, rfl⟩, ?_⟩
  refine tree_one rfl rfl ?_
  go_simp
  refine HHd.out.mono ?_
  rintro r w2 ⟨x, c, rfl, hr2, hb2⟩
  have HC2 := HC.out w2 _ hb2 hr2
  have HB2 : Hid (BxW sb s3 s4 s5 p q db jv num f n bv base size w2) := ⟨HBw.out.st.below hb2, HBw.out.b3.below hb2, HBw.out.b4.below hb2, HBw.out.b5.below hb2, HBw.out.bp.below hb2, HBw.out.bq.below hb2⟩
  clear hr2 hb2
  refine ⟨⟨⟨_, HB2.out⟩, rfl⟩, ?_⟩
  refine tree_one rfl rfl ?_
  go_simp
  refine HC2.mono ?_
  rintro r w3 ⟨k, rfl, hB3, hq3⟩
  have HB3 : Hid (BxW sb s3 s4 s5 p q db jv num f n bv base size w3) := hB3
  have HQ3 : Hid (Q (.returned (.int .i64 k)) w3) := hq3
  clear hB3 hq3 HC2
  refine ⟨⟨⟨_, HB3.out⟩, rfl⟩, ?_⟩
  refine tree_still rfl rfl ?_
  go_big_quiet_step (fail)
  refine wpQuiet_nil ?_
  refine tree_done ?_
  clear e0 e1 e4 ne
  go_wp2
  go_ret
  exact ⟨k, rfl, HQ3.out⟩
end
def bgC (D : Dk) (n : Int) : List (List Int) := cont D (hbase D.now.length n) (hsize D.now.length)
def bgJ (D : Dk) (n : Int) : Jk := beginJ (bgC D n) (hbase D.now.length n) (hsize D.now.length) n
def bgA (D : Dk) (n : Int) (l : List Int) : Int × Jk × Dk := (bgJ D n).append D l
def bgW (D : Dk) (n : Int) (l : List Int) : Int × Dk := (bgA D n l).2.2.write (placeN n : Int) (headL n)
def bgK (D : Dk) (n : Int) : Int := wrongK D (hbase D.now.length n : Int) (hsize D.now.length : Int) n
def bgn (D : Dk) (n : Int) (l : List Int) : Int × Jk × Dk :=
  if bgK D n ≠ 0 then (bgK D n, bgJ D n, D) else if latest (bgC D n) n = 4294967295 then (2, bgJ D n, D) else if (bgA D n l).1 ≠ 0 then bgA D n l
  else if (bgW D n l).1 ≠ 0 then ((bgW D n l).1, (bgA D n l).2.1, (bgW D n l).2) else ((bgW D n l).2.sync.1, (bgA D n l).2.1, (bgW D n l).2.sync.2)
section
variable {D : Dk} {n : Int} {l : List Int}
theorem bgn_1 (h : bgK D n ≠ 0) : bgn D n l = (bgK D n, bgJ D n, D) := by unfold bgn; rw [if_pos h]
theorem bgn_2 (h : bgK D n = 0) (h2 : latest (bgC D n) n = 4294967295) : bgn D n l = (2, bgJ D n, D) := by unfold bgn; rw [if_neg (by simp [h]), if_pos h2]
theorem bgn_3 (h : bgK D n = 0) (h2 : latest (bgC D n) n ≠ 4294967295) (h3 : (bgA D n l).1 ≠ 0) : bgn D n l = bgA D n l := by unfold bgn; rw [if_neg (by simp [h]), if_neg h2, if_pos h3]
theorem bgn_4 (h : bgK D n = 0) (h2 : latest (bgC D n) n ≠ 4294967295) (h3 : (bgA D n l).1 = 0) (h4 : (bgW D n l).1 ≠ 0) : bgn D n l = ((bgW D n l).1, (bgA D n l).2.1, (bgW D n l).2) := by unfold bgn; rw [if_neg (by simp [h]), if_neg h2, if_neg (by simp [h3]), if_pos h4]
theorem bgn_5 (h : bgK D n = 0) (h2 : latest (bgC D n) n ≠ 4294967295) (h3 : (bgA D n l).1 = 0) (h4 : (bgW D n l).1 = 0) : bgn D n l = ((bgW D n l).2.sync.1, (bgA D n l).2.1, (bgW D n l).2.sync.2) := by unfold bgn; rw [if_neg (by simp [h]), if_neg h2, if_neg (by simp [h3]), if_neg (by simp [h4])]
end
/-- What begin leaves. -/
def BgPost (w : World) (o : Nat → Nat) (j jj db : Nat) (D : Dk) (n : Int) (l : List Int) (v : Value) (kd : Int) (w' : World) : Prop :=
  kd = (bgn D n l).1 ∧ ∃ o', DIs w' o' j db (bgn D n l).2.2 ∧ Mv [j, jj] w o w' o' ∧ ((kd = 0 ∧ ∃ jb, v = ptr jb ∧ JAt w' o' jj jb db (bgn D n l).2.1) ∨ (kd ≠ 0 ∧ v = .pointer none))
structure BSt (w : World) (o : Nat → Nat) (c j jj js sb s3 s4 s5 p q db jx sl : Nat) (jv : Value) (num : Int) (f : Bool) (n : Int) (bv : Value) (base size : Nat) (fs : List Value) (jval : Value) (E : Dk) (wr : World) (o' : Nat → Nat) : Prop where
  bx : BxW sb s3 s4 s5 p q db jv num f n bv base size wr
  ow : o' s3 = 0 ∧ o' s4 = 0 ∧ o' s5 = 0 ∧ o' p = 0 ∧ o' q = 0 ∧ o' sl = 0
  os : o' sb = js
  xx : Blk wr jx 60 [jval]
  oj : o' jx = c
  st : Blk wr sl 81 fs
  d : DIs wr o' j db E
  mv : Mv [c, j, jj] w o wr o'
section
variable {w : World} {o : Nat → Nat} {c j jj js sb s3 s4 s5 p q db jx sl : Nat} {jv : Value} {num : Int} {f : Bool} {n : Int} {bv : Value} {base size : Nat} {fs : List Value} {jval : Value} {E E' : Dk} {wr w2 : World} {o' o2 : Nat → Nat}
theorem BSt.step (h : BSt w o c j jj js sb s3 s4 s5 p q db jx sl jv num f n bv base size fs jval E wr o') (m : Mv [j, jj] wr o' w2 o2) (hd : DIs w2 o2 j db E') (hcj : c ≠ j) (hcjj : c ≠ jj) (hsj : js ≠ j) (hsjj : js ≠ jj) (hj0 : j ≠ 0) (hjj0 : jj ≠ 0) :
    BSt w o c j jj js sb s3 s4 s5 p q db jx sl jv num f n bv base size fs jval E' w2 o2 := by
  have z : (0 : Nat) ∉ [j, jj] := by simp; exact ⟨hj0.symm, hjj0.symm⟩
  have zs' : js ∉ [j, jj] := by simp; exact ⟨hsj, hsjj⟩
  have zc : c ∉ [j, jj] := by simp; exact ⟨hcj, hcjj⟩
  obtain ⟨q1, q2, q3, q4, q5, q6⟩ := h.ow
  refine ⟨⟨h.bx.st.block (m.block sb h.bx.st.lt (by rw [h.os]; exact zs')), h.bx.b3.block (m.block s3 h.bx.b3.lt (by rw [q1]; exact z)), h.bx.b4.block (m.block s4 h.bx.b4.lt (by rw [q2]; exact z)), h.bx.b5.block (m.block s5 h.bx.b5.lt (by rw [q3]; exact z)), h.bx.bp.block (m.block p h.bx.bp.lt (by rw [q4]; exact z)), h.bx.bq.block (m.block q h.bx.bq.lt (by rw [q5]; exact z))⟩,
    ⟨(m.ext s3 h.bx.b3.lt).trans q1, (m.ext s4 h.bx.b4.lt).trans q2, (m.ext s5 h.bx.b5.lt).trans q3, (m.ext p h.bx.bp.lt).trans q4, (m.ext q h.bx.bq.lt).trans q5, (m.ext sl h.st.lt).trans q6⟩,
    (m.ext sb h.bx.st.lt).trans h.os, h.xx.block (m.block jx h.xx.lt (by rw [h.oj]; exact zc)), (m.ext jx h.xx.lt).trans h.oj, h.st.block (m.block sl h.st.lt (by rw [q6]; exact z)), hd, h.mv.trans (m.widen (by simp))⟩
theorem BSt.post (h : BSt w o c j jj js sb s3 s4 s5 p q db jx sl jv num f n bv base size fs jval E wr o') (hc : ∀ k, k < w.heap.size → o k ≠ c) : Mv [j, jj] w o wr o' := h.mv.restrict hc
end
section
variable {w : World} {o : Nat → Nat} {c j jj js sb s3 s4 s5 p q db jx sl : Nat} {jv : Value} {num : Int} {f : Bool} {n : Int} {bv : Value} {base size : Nat} {fs : List Value} {jval : Value} {E : Dk} {wr w1 : World} {o' o1 : Nat → Nat}
theorem BSt.apart (h : BSt w o c j jj js sb s3 s4 s5 p q db jx sl jv num f n bv base size fs jval E wr o') (hc0 : c ≠ 0) (hcs : c ≠ js) : jx ≠ sb ∧ jx ≠ s3 ∧ jx ≠ s4 ∧ jx ≠ s5 ∧ jx ≠ p ∧ jx ≠ q := by
  obtain ⟨q1, q2, q3, q4, q5, q6⟩ := h.ow
  have h1 := h.oj
  refine ⟨fun e => ?_, fun e => ?_, fun e => ?_, fun e => ?_, fun e => ?_, fun e => ?_⟩
  · exact hcs (by rw [← h1, e]; exact h.os)
  all_goals
    subst e
    omega
/-- The journal's variable is set. -/
theorem BSt.setJ (h : BSt w o c j jj js sb s3 s4 s5 p q db jx sl jv num f n bv base size fs jval E wr o') (m : Mv [] wr o' w1 o1) (v : Value) (hcj : c ≠ j) (hcjj : c ≠ jj) (hsj : js ≠ j) (hsjj : js ≠ jj) (hj0 : j ≠ 0) (hjj0 : jj ≠ 0) (hc0 : c ≠ 0) (hcs : c ≠ js) :
    BSt w o c j jj js sb s3 s4 s5 p q db jx sl jv num f n bv base size fs v E (w1.setCell ⟨jx, 0, none⟩ v) o1 ∧ Mv [c] w1 o1 (w1.setCell ⟨jx, 0, none⟩ v) o1 := by
  have h1 := h.step (m.widen (by simp)) (h.d.mv m (by simp)) hcj hcjj hsj hsjj hj0 hjj0
  have hg := grown_setCell w1 jx 0 v
  have m2 : Mv [c] w1 o1 (w1.setCell ⟨jx, 0, none⟩ v) o1 := Mv.of_set hg (fun _ => by rw [h1.oj]; simp)
  have hne := h1.apart hc0 hcs
  have hsl : jx ≠ sl := fun e => by
    have := h1.ow.2.2.2.2.2
    rw [← e, h1.oj] at this
    exact hc0 this
  exact ⟨⟨h1.bx.past hg hne, h1.ow, h1.os, h1.xx.set 0 v, h1.oj, h1.st.past hg hsl.symm, h1.d.mv m2 (by simpa using hcj.symm), h1.mv.trans (m2.widen (by simp))⟩, m2⟩
end
theorem stages {w : World} {o : Nat → Nat} {c j jj js sb s3 s4 s5 p q db jx sl N : Nat} {jv : Value} {num : Int} {f : Bool} {n : Int} {bv : Value} {l : List Int} {fs : List Value} {D : Dk} (hDk : DOk D N) (hN : N + 86 ≤ 2000) (hT : Tab w) (h0 : o 0 = 0) (h2 : 2 ≤ D.now.length) (hn : U32 n) (hn0 : n ≠ 0) (hb : Rd w bv l) (hl : l.length ≤ 1000000)
    (hcj : c ≠ j) (hcjj : c ≠ jj) (hsj : js ≠ j) (hsjj : js ≠ jj) (hj0 : j ≠ 0) (hjj0 : jj ≠ 0) (hc0 : c ≠ 0) (hcs : c ≠ js) (hjj : jj ≠ j) (hc : ∀ k, k < w.heap.size → o k ≠ c)
    {w5 : World} {o5 : Nat → Nat} (hS : BSt w o c j jj js sb s3 s4 s5 p q db jx sl jv num f n bv (hbase D.now.length n) (hsize D.now.length) fs (.pointer none) D w5 o5) (hm5 : Mv [c] w o w5 o5) :
    ∃ S : Nat → World → Prop, S 0 w5 ∧ (∀ k wr, S k wr → Blk wr sl 81 fs) ∧
      (∀ wr, S 0 wr → Calls Tryd.prog 48 #[ptr s3, ptr p, ptr q, ptr s4, ptr jx] wr fun r w' => ∃ kd, r = .returned (.int .i64 kd) ∧ ((kd = 0 ∧ S 1 w') ∨ (kd ≠ 0 ∧ BgPost w o j jj db D n l (.pointer none) kd w'))) ∧
      (∀ wr, S 1 wr → Calls Tryd.prog 50 #[ptr jx, ptr s5] wr fun r w' => ∃ kd, r = .returned (.int .i64 kd) ∧ ((kd = 0 ∧ S 2 w') ∨ (kd ≠ 0 ∧ BgPost w o j jj db D n l (.pointer none) kd w'))) ∧
      (∀ wr, S 2 wr → Calls Tryd.prog 51 #[ptr s3, ptr s4] wr fun r w' => ∃ kd, r = .returned (.int .i64 kd) ∧ ((kd = 0 ∧ S 3 w') ∨ (kd ≠ 0 ∧ BgPost w o j jj db D n l (.pointer none) kd w'))) ∧
      (∀ wr, S 3 wr → Calls Tryd.prog 55 #[ptr s3] wr fun r w' => ∃ kd, r = .returned (.int .i64 kd) ∧ ((kd = 0 ∧ S 4 w') ∨ (kd ≠ 0 ∧ BgPost w o j jj db D n l (.pointer none) kd w'))) ∧
      (∀ wr, S 4 wr → ∃ jb, wr.cell? ⟨jx, 0, none⟩ = some (ptr jb) ∧ BgPost w o j jj db D n l (ptr jb) 0 wr) := by
  have hl4 := hDk.few
  have hfit := hbase_fits n h2
  let B := BSt w o c j jj js sb s3 s4 s5 p q db jx sl jv num f n bv (hbase D.now.length n) (hsize D.now.length) fs
  let G1 : Prop := bgK D n = 0 ∧ latest (bgC D n) n ≠ 4294967295
  have hJok : G1 → JOk (bgJ D n) := fun g => beginJ_ok hn hn0 cont_oct (by omega) g.2
  have hAok : G1 → JOk (bgA D n l).2.1 := fun g => (hJok g).append D l
  have hAd : DOk (bgA D n l).2.2 (N + 84) := append_dok hDk
  have hWd : DOk (bgW D n l).2 (N + 85) := hAd.write
  have hbel : ∀ {wr o'}, Mv [c] w o wr o' → Below w.heap.size w wr := fun m => (m.restrict hc).below (Nat.le_refl _) (fun k _ => by simp)
  have z : (0 : Nat) ∉ [c, j, jj] := by simp; exact ⟨hc0.symm, hj0.symm, hjj0.symm⟩
  refine ⟨fun k wr => match k with
    | 0 => ∃ o', B (.pointer none) D wr o' ∧ Mv [c] w o wr o'
    | 1 => G1 ∧ ∃ o' jb, B (ptr jb) D wr o' ∧ JAt wr o' jj jb db (bgJ D n) ∧ Mv [c] w o wr o'
    | 2 => G1 ∧ (bgA D n l).1 = 0 ∧ ∃ o' jb, B (ptr jb) (bgA D n l).2.2 wr o' ∧ JAt wr o' jj jb db (bgA D n l).2.1
    | 3 => G1 ∧ (bgA D n l).1 = 0 ∧ (bgW D n l).1 = 0 ∧ ∃ o' jb, B (ptr jb) (bgW D n l).2 wr o' ∧ JAt wr o' jj jb db (bgA D n l).2.1
    | _ => G1 ∧ (bgA D n l).1 = 0 ∧ (bgW D n l).1 = 0 ∧ (bgW D n l).2.sync.1 = 0 ∧ ∃ o' jb, B (ptr jb) (bgW D n l).2.sync.2 wr o' ∧ JAt wr o' jj jb db (bgA D n l).2.1, ⟨o5, hS, hm5⟩, ?_, ?_, ?_, ?_, ?_, ?_⟩
  · intro k wr h
    match k, h with
    | 0, ⟨o', h, _⟩ => exact h.st
    | 1, ⟨_, o', jb, h, _⟩ => exact h.st
    | 2, ⟨_, _, o', jb, h, _⟩ => exact h.st
    | 3, ⟨_, _, _, o', jb, h, _⟩ => exact h.st
    | k + 4, ⟨_, _, _, _, o', jb, h, _⟩ => exact h.st
  · rintro wr ⟨o', h, hm⟩
    have hd := h.d.drew
    have key : Calls Tryd.prog 49 #[ptr db, .int .i64 (hbase D.now.length n : Int), .int .i64 (hsize D.now.length : Int), .int .u32 n] wr.drew fun r w' => ∃ k a, r = .returned (.tuple #[.pointer a, .int .i64 k]) ∧ ∃ o2, Mv [] wr o' w' o2 ∧ ((k = 0 ∧ G1 ∧ ∃ jb, a = some ⟨jb, 0, none⟩ ∧ JAt w' o2 jj jb db (bgJ D n)) ∨ (k ≠ 0 ∧ a = none ∧ k = (bgn D n l).1 ∧ (bgn D n l).2.2 = D)) := by
      by_cases hk : bgK D n = 0
      · by_cases hr : latest (bgC D n) n = 4294967295
        · refine (create_range hd hl4 hn hk hr).mono ?_
          rintro r w' ⟨rfl, hb2⟩
          exact ⟨2, none, rfl, _, mv_undrew (Mv.of_below 0 hb2), .inr ⟨by omega, rfl, by rw [bgn_2 hk hr], by rw [bgn_2 hk hr]⟩⟩
        · refine (create_ok hd hl4 hn hk hr jj).mono ?_
          rintro r w' ⟨jb, rfl, o2, j2, m2, _⟩
          exact ⟨0, _, rfl, o2, mv_undrew m2, .inl ⟨rfl, ⟨hk, hr⟩, jb, rfl, j2⟩⟩
      · refine (create_bad hd hl4 (by unfold I64; omega) (by unfold I64; omega) hn hk).mono ?_
        rintro r w' ⟨rfl, rfl⟩
        exact ⟨_, none, rfl, o', mv_drewn wr o', .inr ⟨hk, rfl, by rw [bgn_1 hk]; rfl, by rw [bgn_1 hk]⟩⟩
    refine (c48 (x := .pointer none) h.bx (h.apart hc0 hcs) (Q := fun k a w' => ∃ o2, Mv [] wr o' w' o2 ∧ ((k = 0 ∧ G1 ∧ ∃ jb, a = some ⟨jb, 0, none⟩ ∧ JAt w' o2 jj jb db (bgJ D n)) ∨ (k ≠ 0 ∧ a = none ∧ k = (bgn D n l).1 ∧ (bgn D n l).2.2 = D))) (key.mono ?_)).mono ?_
    · rintro r w' ⟨k, a, rfl, o2, m2, h2'⟩
      have h3 := h.step (m2.widen (by simp)) (h.d.mv m2 (by simp)) hcj hcjj hsj hsjj hj0 hjj0
      exact ⟨k, a, rfl, h3.bx, h3.xx, o2, m2, h2'⟩
    · rintro r w' ⟨k, rfl, a, w1, ⟨o2, m2, h2'⟩, rfl⟩
      obtain ⟨h3, m3⟩ := h.setJ m2 (.pointer a) hcj hcjj hsj hsjj hj0 hjj0 hc0 hcs
      refine ⟨k, rfl, ?_⟩
      rcases h2' with ⟨e, g, jb, rfl, j2⟩ | ⟨hk, rfl, e1, e2⟩
      · exact .inl ⟨e, g, o2, jb, h3, j2.mv m3 (by simpa using hcjj.symm), (hm.trans (m2.widen (by simp))).trans m3⟩
      · exact .inr ⟨hk, e1, o2, by rw [e2]; exact h3.d, h3.post hc, .inr ⟨hk, rfl⟩⟩
  · rintro wr ⟨g, o', jb, h, hj, hm⟩
    have key := append29 hj (hJok g) h.d hDk (by omega) hjj hj0 (hb.below (hbel hm)) hl
    refine (c50 h.bx h.xx (Q := fun r w' => r = .returned (.int .i64 (bgA D n l).1) ∧ ∃ o2, JAt w' o2 jj jb db (bgA D n l).2.1 ∧ DIs w' o2 j db (bgA D n l).2.2 ∧ Mv [j, jj] wr o' w' o2) (key.mono ?_)).mono ?_
    · rintro r w' ⟨rfl, hx⟩
      exact ⟨_, rfl, rfl, hx⟩
    · rintro r w' ⟨k, rfl, e, o2, j2, d2, m2⟩
      have ek : k = (bgA D n l).1 := by cases e; rfl
      subst ek
      have h3 := h.step m2 d2 hcj hcjj hsj hsjj hj0 hjj0
      refine ⟨_, rfl, ?_⟩
      by_cases hz : (bgA D n l).1 = 0
      · exact .inl ⟨hz, g, hz, o2, jb, h3, j2⟩
      · exact .inr ⟨hz, by rw [bgn_3 g.1 g.2 hz], o2, by rw [bgn_3 g.1 g.2 hz]; exact d2, h3.post hc, .inr ⟨hz, rfl⟩⟩
  · rintro wr ⟨g, ga, o', jb, h, hj⟩
    obtain ⟨ht, _⟩ := hT.mv h0 h.mv z
    refine (c51 h.bx hn ht (Q := fun r w' => r = .returned (.int .i64 (bgW D n l).1) ∧ ∃ o2, DIs w' o2 j db (bgW D n l).2 ∧ Mv [j] wr o' w' o2) (fun w1 v hb1 hr1 => ?_)).mono ?_
    · obtain ⟨gv, nv, pv, hd⟩ := h.d.below hb1
      refine (write_any hd hAd (by omega) (placeN n : Int) hr1).mono ?_
      rintro r w' ⟨rfl, o2, d2, m2⟩
      have m3 : Mv [j] wr o' w' o2 := (Mv.of_below 0 hb1).trans m2
      exact ⟨_, rfl, (h.step (m3.widen (by simp)) d2 hcj hcjj hsj hsjj hj0 hjj0).bx, rfl, o2, d2, m3⟩
    · rintro r w' ⟨k, rfl, e, o2, d2, m2⟩
      have ek : k = (bgW D n l).1 := by cases e; rfl
      subst ek
      have h3 := h.step (m2.widen (by simp)) d2 hcj hcjj hsj hsjj hj0 hjj0
      refine ⟨_, rfl, ?_⟩
      by_cases hz : (bgW D n l).1 = 0
      · exact .inl ⟨hz, g, ga, hz, o2, jb, h3, hj.mv m2 (by simpa using hjj)⟩
      · exact .inr ⟨hz, by rw [bgn_4 g.1 g.2 ga hz], o2, by rw [bgn_4 g.1 g.2 ga hz]; exact d2, h3.post hc, .inr ⟨hz, rfl⟩⟩
  · rintro wr ⟨g, ga, gw, o', jb, h, hj⟩
    obtain ⟨gv, nv, pv, hd⟩ := h.d
    have key := sync_any hd hWd (by omega)
    refine (c55 h.bx (Q := fun r w' => r = .returned (.int .i64 (bgW D n l).2.sync.1) ∧ ∃ o2, DIs w' o2 j db (bgW D n l).2.sync.2 ∧ Mv [j] wr o' w' o2) (key.mono ?_)).mono ?_
    · rintro r w' ⟨rfl, hx⟩
      exact ⟨_, rfl, rfl, hx⟩
    · rintro r w' ⟨k, rfl, e, o2, d2, m2⟩
      have ek : k = (bgW D n l).2.sync.1 := by cases e; rfl
      subst ek
      have h3 := h.step (m2.widen (by simp)) d2 hcj hcjj hsj hsjj hj0 hjj0
      refine ⟨_, rfl, ?_⟩
      by_cases hz : (bgW D n l).2.sync.1 = 0
      · exact .inl ⟨hz, g, ga, gw, hz, o2, jb, h3, hj.mv m2 (by simpa using hjj)⟩
      · exact .inr ⟨hz, by rw [bgn_5 g.1 g.2 ga gw], o2, by rw [bgn_5 g.1 g.2 ga gw]; exact d2, h3.post hc, .inr ⟨hz, rfl⟩⟩
  · rintro wr ⟨g, ga, gw, gs, o', jb, h, hj⟩
    refine ⟨jb, h.xx.cell 0 _ rfl, by rw [bgn_5 g.1 g.2 ga gw]; exact gs.symm, o', by rw [bgn_5 g.1 g.2 ga gw]; exact h.d, h.post hc, .inl ⟨rfl, jb, rfl, by rw [bgn_5 g.1 g.2 ga gw]; exact hj⟩⟩
end Go.Proofs.YtkcighejmjgalaaDoor
