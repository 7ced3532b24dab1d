/-
  The law OpSorts, walked.
-/
import Derived.Test.YtcchokedfbogfaaRs
import Derived.Test.YtcchokedfbogfaaLsF
import Derived.Test.YtcchokedfbogfaaLwO
namespace Go.Proofs.Ytcchokedfbogfaa
set_option linter.unusedVariables false
set_option linter.unusedSimpArgs false
set_option synthInstance.maxSize 20000
set_option maxHeartbeats 2000000
set_option maxRecDepth 20000
open Go.RowKit Go.Maps

theorem wpList_okw {P : Program} {w w' : World} {ops : Array Oper} {rest : List Oper} {o : Oper} {a : Act} {Q : Exit → Act → World → Prop} {v : Value} (hw : Region.wanted o (yielded ops a.tmps) = true) (hr : (execOp a.eval o).run P w = .ok (.value v) w') (h : wpList P ops Q rest (a.put o.dst v) w') : wpList P ops Q (o :: rest) a w :=
  wpList_wanted hw fun K hK => wp_ok hr (hK _ _ h)
theorem exec_box26 {o : Oper} {r : Operand → Value} {w : World} {q : OpT} (x : Operand) (ho : o.op = .box 26 x) (hx : r x = ov q) : (execOp r o).run Try.prog w = .ok (.value (.pointer (some ⟨w.heap.size, 0, none⟩))) (w.alloc (.cells (oc q).toArray 26)) := by
  obtain ⟨qk, ⟨qa1, qa2⟩, ⟨qn1, qn2⟩, ⟨qp1, qp2⟩, qd, qs, qva, qvn, qvc, qb⟩ := q
  unfold ov oc at hx
  unfold oc
  dsimp only at hx ⊢
  unfold execOp
  simp only [ho]
  go_simp
set_option maxHeartbeats 4000000 in
theorem sorts4 (v : Value) (l : List OpT) (q s : OpT) (w : World) (hv : RowF oc w v l) (hi : ∀ q ∈ l, QIn w q) (hq : QIn w q) (hs : QIn w s) :
    Calls Try.prog 4 #[v, ov q, ov s] w fun e w' => e = .returned (.bool true) ∧ Below w.heap.size w w' := by
  have HAL : Hid (∀ w', Calls Try.prog 9 #[] w' fun e w'' => e = .returned (.bool true) ∧ Below w'.heap.size w' w'') := fun w' => alive9 w'
  obtain ⟨a, c, rfl⟩ := hv.len
  have hcap := hv.caps
  have hln : l.length ≤ 9223372036854775807 := by omega
  have HLI : Hid (∀ w', Below w.heap.size w w' → Calls Try.prog 8 #[.slice a l.length c, .int .i64 60] w' fun e w'' => e = .returned (.bool (lightB l 60)) ∧ w'' = w') := fun w' hb => light8 (hv.below hb) hln
  have HL2 : Hid (∀ w' : World, Calls Try.prog 8 #[.slice (some ⟨w'.heap.size, 0, none⟩) 2 2, .int .i64 2] (w'.alloc (.cells (oc q ++ oc s).toArray 26)) fun e w'' => e = .returned (.bool (lightB [q, s] 2)) ∧ w'' = w'.alloc (.cells (oc q ++ oc s).toArray 26)) := fun w' => light8 (rowF_two w' q s 26) (by simp)
  have HS : Hid (lightB l 60 = true → ∀ w', Below w.heap.size w w' → Calls Try.prog 21 #[.slice a l.length c] w' fun e w'' => ∃ v' l' z, e = .returned v' ∧ Srtd l w'' v' l' z ∧ Below w'.heap.size w' w'') := fun h w' hb => sort21 (hv.below hb) (by have := light_few h; omega) fun x hx => ⟨(hi x hx).rd.below hb, light_short hi h x hx⟩
  have HR : Hid (lightB l 60 = true → ∀ w', Below w.heap.size w w' → Calls Try.prog 22 #[.slice a l.length c] w' fun e w'' => ∃ v' O, e = .returned v' ∧ FirstOf O l ∧ RowF oc w'' v' O ∧ Below w'.heap.size w' w'') := fun h w' hb => rsort22 (hv.below hb) (by have := light_few h; omega)
  have HRD : Hid (∀ w', Below w.heap.size w w' → ∀ q ∈ l, Rd w' q.v q.b) := fun w' hb x hx => (hi x hx).rd.below hb
  have H23 : Hid (∀ w', Below w.heap.size w w' → Calls Try.prog 23 #[ov q, ov s] w' fun e w'' => e = .returned (.bool (sameO q s)) ∧ Below w'.heap.size w' w'') := fun w' hb => same23 (hq.rd.below hb) (hs.rd.below hb)
  have H19 : Hid (∀ w', Below w.heap.size w w' → Calls Try.prog 19 #[ov q, ov s] w' fun e w'' => e = .returned (.bool (sameO q s)) ∧ Below w'.heap.size w' w'') := fun w' hb => rsame19 (hq.rd.below hb) (hs.rd.below hb)
  have H24 : Hid (∀ w', Calls Try.prog 24 #[ov q, ov s] w' fun e w'' => e = .returned (.bool (decide (ltP q.a s.a))) ∧ Below w'.heap.size w' w'') := fun w' => less24 q s w'
  have H25 : Hid (∀ w', Calls Try.prog 25 #[.agg #[.int .i64 q.a.1, .int .i64 q.a.2], .agg #[.int .i64 s.a.1, .int .i64 s.a.2]] w' fun e w'' => e = .returned (.bool (decide (ltP q.a s.a))) ∧ Below w'.heap.size w' w'') := fun w' => refless_any q.a s.a w'
  clear hv hi hq hs hln
  generalize sameO q s = sb at H23 H19
  generalize decide (ltP q.a s.a) = lb at H24 H25
  obtain ⟨w1, hw1⟩ : ∃ w1, w1 = (w.alloc (.cells (oc q).toArray 26)).alloc (.cells (oc s).toArray 26) := ⟨_, rfl⟩
  obtain ⟨B0, hB0⟩ : ∃ B0, B0 = w.heap.size := ⟨_, rfl⟩
  obtain ⟨B1, hB1⟩ : ∃ B1, B1 = w.heap.size + 1 := ⟨_, rfl⟩
  have HB1 : Hid (Below w.heap.size w w1) := by show Below _ _ _; rw [hw1]; exact balloc (balloc (Below.refl _ _) _) _
  have HX : Hid (∀ w', Below w1.heap.size w1 w' → w'.rangeAt B0 0 (oc q)) := fun w' h => by
    refine Blk.range0 (e := 26) (Blk.below ?_ h)
    rw [hw1, hB0]
    exact (blk_new w (oc q) 26).alloc _
  have HY : Hid (∀ w', Below w1.heap.size w1 w' → w'.rangeAt B1 0 (oc s)) := fun w' h => by
    refine Blk.range0 (e := 26) (Blk.below ?_ h)
    rw [hw1, hB1]
    have := blk_new (w.alloc (.cells (oc q).toArray 26)) (oc s) 26
    simpa using this
  have HX1 : Hid (w1.rangeAt B0 0 (oc q)) := HX.out w1 (Below.refl _ _)
  have HY1 : Hid (w1.rangeAt B1 0 (oc s)) := HY.out w1 (Below.refl _ _)
  go_enter Try.func4, Try.ntmps4
  go_upto_region 1 with (first
    | (refine wpList_okw rfl (exec_box26 (q := q) (.tmp 1) rfl rfl) ?_)
    | (refine wpList_okw rfl (exec_box26 (q := s) (.tmp 2) rfl rfl) ?_))
  rw [← hw1]
  rw [← hB1]
  rw [← hB0]
  clear hB0 hB1 hw1
  cases hlb : lightB l 60
  · rw [hlb] at HLI
    clear hlb
    go_wp2_with (first
      | (go_at_call 8; go_must (refine (HLI.out _ HB1.out).mono ?_; rintro r w2 ⟨rfl, hw2⟩; replace hw2 := hw2.symm; subst hw2))
      | (go_at_call 9; go_must (refine (HAL.out _).mono ?_; rintro r w3 ⟨rfl, hb3⟩)))
    go_ret
    exact ⟨rfl, bnext HB1.out hb3⟩
  · have HS' := HS.out hlb
    have HR' := HR.out hlb
    have HS2 : Hid (∀ w', Below w.heap.size w w' → Calls Try.prog 21 #[.slice a l.length c] w' fun e w'' => ∃ v' l' z, e = .returned v' ∧ Srtd l w'' v' l' z ∧ Below w'.heap.size w' w'') := HS'
    have HR2 : Hid (∀ w', Below w.heap.size w w' → Calls Try.prog 22 #[.slice a l.length c] w' fun e w'' => ∃ v' O, e = .returned v' ∧ FirstOf O l ∧ RowF oc w'' v' O ∧ Below w'.heap.size w' w'') := HR'
    rw [hlb] at HLI
    clear HS HR HS' HR' hlb
    cases hlb : lightB [q, s] 2
    · rw [hlb] at HL2
      clear hlb
      go_wp2_with (first
        | (refine wpList_okw rfl (exec_load26 (q := q) (.tmp 4) rfl rfl HX1.out) ?_)
        | (refine wpList_okw rfl (exec_load26 (q := s) (.tmp 5) rfl rfl HY1.out) ?_)
        | (refine wpList_okw rfl (exec_build2 (q := q) (s := s) (.tmp 11) (.tmp 12) rfl rfl rfl) ?_)
        | (go_at_call 8; go_must (first
            | (refine (HLI.out _ HB1.out).mono ?_; rintro r w2 ⟨rfl, hw2⟩; replace hw2 := hw2.symm; subst hw2; clear HLI)
            | (refine (HL2.out _).mono ?_; rintro r w2 ⟨rfl, hw2⟩; have HBL : Hid (Below w.heap.size w w2) := (show Below _ _ _ from by rw [hw2]; exact balloc HB1.out _); clear hw2)))
        | (go_at_call 9; go_must (refine (HAL.out _).mono ?_; rintro r w3 ⟨rfl, hb3⟩)))
      go_ret
      exact ⟨rfl, bnext HBL.out hb3⟩
    · rw [hlb] at HL2
      clear hlb
      go_upto_region 3 with (first
        | (refine wpList_okw rfl (exec_load26 (q := q) (.tmp 4) rfl rfl HX1.out) ?_)
        | (refine wpList_okw rfl (exec_load26 (q := s) (.tmp 5) rfl rfl HY1.out) ?_)
        | (refine wpList_okw rfl (exec_build2 (q := q) (s := s) (.tmp 11) (.tmp 12) rfl rfl rfl) ?_)
        | (go_at_call 8; go_must (first
            | (refine (HLI.out _ HB1.out).mono ?_; rintro r w2 ⟨rfl, hw2⟩; replace hw2 := hw2.symm; subst hw2; clear HLI)
            | (refine (HL2.out _).mono ?_; rintro r w2 ⟨rfl, hw2⟩; have HBL : Hid (Below w1.heap.size w1 w2) := (show Below _ _ _ from by rw [hw2]; exact balloc (Below.refl _ _) _); clear hw2))))
      clear HX1 HY1 HL2
      have HBw : Hid (Below w.heap.size w w2) := bnext HB1.out HBL.out
      have HPX : Hid (∀ z : WIn (fun w' => Below w2.heap.size w2 w'), z.w.rangeAt B0 0 (oc q)) := fun z => HX.out z.w (bnext HBL.out z.ok)
      have HPY : Hid (∀ z : WIn (fun w' => Below w2.heap.size w2 w'), z.w.rangeAt B1 0 (oc s)) := fun z => HY.out z.w (bnext HBL.out z.ok)
      have q0 : ∀ z : WIn (fun w' => Below w2.heap.size w2 w'), z.w.cell? ⟨B0, 1, none⟩ = some (.int .i64 q.a.1) := fun z => by have := HPX.out z 1 _ rfl; rwa [Nat.zero_add] at this
      have q1 : ∀ z : WIn (fun w' => Below w2.heap.size w2 w'), z.w.cell? ⟨B0, 2, none⟩ = some (.int .i64 q.a.2) := fun z => by have := HPX.out z 2 _ rfl; rwa [Nat.zero_add] at this
      have s0 : ∀ z : WIn (fun w' => Below w2.heap.size w2 w'), z.w.cell? ⟨B1, 1, none⟩ = some (.int .i64 s.a.1) := fun z => by have := HPY.out z 1 _ rfl; rwa [Nat.zero_add] at this
      have s1 : ∀ z : WIn (fun w' => Below w2.heap.size w2 w'), z.w.cell? ⟨B1, 2, none⟩ = some (.int .i64 s.a.2) := fun z => by have := HPY.out z 2 _ rfl; rwa [Nat.zero_add] at this
      have ne : Nonempty (WIn (fun w' => Below w2.heap.size w2 w')) := ⟨⟨w2, Below.refl _ _⟩⟩
      refine wp_region_tree (C := fun w' => ∃ z : WIn (fun w' => Below w2.heap.size w2 w'), w' = z.w) (.still 0 (.still 2 (.one 1 (.one 3 (.one 4 (.still 5 (.still 6 (.still 7 (.still 9 (.still 10 (.one 8 (.one 11 (.still 12 (.still 13 (.still 14 (.still 15 (.still 16 (.still 18 (.still 19 (.still 20 (.still 21 (.one 17 (.one 22 (.still 23 (.still 24 (.still 25 (.one 26 (.still 27 (.still 28 .done))))))))))))))))))))))))))))) (by kernel_rfl) (by kernel_rfl) ⟨⟨w2.drew, below_drewn w2 1⟩, rfl⟩ ?_
      iterate 2 (refine tree_still rfl rfl ?_; go_big_quiet_step (fail); refine wpQuiet_nil ?_)
      refine tree_one rfl rfl ?_
      go_simp
      refine (HS2.out _ (bnext HBw.out (below_drewn w2 1))).mono ?_
      rintro r w3 ⟨v3, l3, z3, rfl, h3, hb3⟩
      have HB3 : Hid (Below w2.heap.size w2 w3) := bnext (below_drewn w2 1) hb3
      have HS3 : Hid (Srtd l w3 v3 l3 z3) := h3
      clear h3 hb3
      refine ⟨⟨⟨w3, HB3.out⟩, rfl⟩, ?_⟩
      go_simp
      refine tree_one rfl rfl ?_
      go_simp
      refine (HR2.out _ (bnext HBw.out HB3.out)).mono ?_
      rintro r w4 ⟨v4, O, rfl, h4, h4r, hb4⟩
      have HB4 : Hid (Below w2.heap.size w2 w4) := bnext HB3.out hb4
      have HK20 : Hid (Calls Try.prog 20 #[v3, v4] w4 fun e w' => e = .returned (.bool true) ∧ Below w4.heap.size w4 w') := by
        refine all20 (HS3.out.row.below hb4) h4r (fun x hx => (HS3.out.rd x hx).below hb4) (fun x hx => HRD.out w4 (bnext HBw.out HB4.out) x (h4.mem hx)) ?_
        rw [HS3.out.alike, ← firsts_one HS3.out.srt HS3.out.keep h4.str h4.one]
      clear h4 h4r hb4
      refine ⟨⟨⟨w4, HB4.out⟩, rfl⟩, ?_⟩
      go_simp
      refine tree_one rfl rfl ?_
      go_simp
      refine HK20.out.mono ?_
      rintro r w5 ⟨rfl, hb5⟩
      have HB5 : Hid (Below w2.heap.size w2 w5) := bnext HB4.out hb5
      clear hb5
      refine ⟨⟨⟨w5, HB5.out⟩, rfl⟩, ?_⟩
      go_simp
      refine tree_still rfl rfl ?_; go_big_quiet_step (fail); refine wpQuiet_nil ?_
      iterate 2
        refine tree_still rfl rfl ?_
        refine quiet_ok1 rfl (fun w' hw' => by obtain ⟨z, rfl⟩ := hw'; exact exec_load26 (q := q) (.tmp 4) rfl rfl (HPX.out z)) ?_
        go_simp
        refine tree_still rfl rfl ?_
        refine quiet_ok1 rfl (fun w' hw' => by obtain ⟨z, rfl⟩ := hw'; exact exec_load26 (q := s) (.tmp 5) rfl rfl (HPY.out z)) ?_
        go_simp
      refine tree_one rfl rfl ?_
      go_simp
      refine (H23.out _ (bnext HBw.out HB5.out)).mono ?_
      rintro r w6 ⟨rfl, hb6⟩
      have HB6 : Hid (Below w2.heap.size w2 w6) := bnext HB5.out hb6
      clear hb6
      refine ⟨⟨⟨w6, HB6.out⟩, rfl⟩, ?_⟩
      go_simp
      refine tree_one rfl rfl ?_
      go_simp
      refine (H19.out _ (bnext HBw.out HB6.out)).mono ?_
      rintro r w7 ⟨rfl, hb7⟩
      have HB7 : Hid (Below w2.heap.size w2 w7) := bnext HB6.out hb7
      clear hb7
      refine ⟨⟨⟨w7, HB7.out⟩, rfl⟩, ?_⟩
      go_simp
      iterate 3 (refine tree_still rfl rfl ?_; go_big_quiet_step (fail); refine wpQuiet_nil ?_)
      refine tree_still rfl rfl ?_
      refine quiet_ok1 rfl (fun w' hw' => by obtain ⟨z, rfl⟩ := hw'; exact exec_load26 (q := q) (.tmp 4) rfl rfl (HPX.out z)) ?_
      go_simp
      refine tree_still rfl rfl ?_
      refine quiet_ok1 rfl (fun w' hw' => by obtain ⟨z, rfl⟩ := hw'; exact exec_load26 (q := s) (.tmp 5) rfl rfl (HPY.out z)) ?_
      go_simp
      iterate 4 (refine tree_still rfl rfl ?_; go_big_quiet_step (fail); refine wpQuiet_nil ?_)
      refine tree_one rfl rfl ?_
      go_simp
      refine (H24.out _).mono ?_
      rintro r w8 ⟨rfl, hb8⟩
      have HB8 : Hid (Below w2.heap.size w2 w8) := bnext HB7.out hb8
      clear hb8
      refine ⟨⟨⟨w8, HB8.out⟩, rfl⟩, ?_⟩
      go_simp
      refine tree_one rfl rfl ?_
      go_simp
      refine (H25.out _).mono ?_
      rintro r w9 ⟨rfl, hb9⟩
      have HB9 : Hid (Below w2.heap.size w2 w9) := bnext HB8.out hb9
      clear hb9
      refine ⟨⟨⟨w9, HB9.out⟩, rfl⟩, ?_⟩
      go_simp
      iterate 3 (refine tree_still rfl rfl ?_; go_big_quiet_step (fail); refine wpQuiet_nil ?_)
      refine tree_one rfl rfl ?_
      go_simp
      refine (HAL.out _).mono ?_
      rintro r w10 ⟨rfl, hb10⟩
      have HB10 : Hid (Below w2.heap.size w2 w10) := bnext HB9.out hb10
      clear hb10
      refine ⟨⟨⟨w10, HB10.out⟩, rfl⟩, ?_⟩
      go_simp
      iterate 2 (refine tree_still rfl rfl ?_; go_big_quiet_step (fail); refine wpQuiet_nil ?_)
      refine tree_done ?_
      clear ne
      go_wp2
      go_ret
      exact ⟨rfl, bnext HBw.out HB10.out⟩
end Go.Proofs.Ytcchokedfbogfaa
