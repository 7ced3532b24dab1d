/-
  The document's New, Arm, Sync, Write.
-/
import Derived.Test.YtfkkbloapnlbgaaRDsk
namespace Go.Proofs.Ytfkkbloapnlbgaa
set_option linter.unusedVariables false
set_option linter.unusedSimpArgs false
set_option synthInstance.maxSize 20000
set_option maxHeartbeats 4000000
set_option maxRecDepth 20000
open Go.RowKit Go.Maps

theorem rnew_bad (w : World) (n : Int) (hn : n < 1 ∨ 400 < n) : Calls Try.prog 10 #[.int .i64 n] w fun r w' => r = .returned (.tuple #[.pointer none, .int .i64 1]) ∧ w' = w := by
  by_cases h1 : n < 1
  · clear hn
    go_enter Try.func10, Try.ntmps10
    go_wp2
    refine bodyPost_ret (results_tmp2 rfl _ _ _) rfl ⟨rfl, rfl⟩
  · have h2 : 400 < n := by omega
    clear hn
    go_enter Try.func10, Try.ntmps10
    go_wp2
    refine bodyPost_ret (results_tmp2 rfl _ _ _) rfl ⟨rfl, rfl⟩
theorem rnew_any (w : World) (o : Nat → Nat) (j : Nat) (n : Int) (h1 : 1 ≤ n) (h2 : n ≤ 400) : Calls Try.prog 10 #[.int .i64 n] w fun r w' => r = .returned (.tuple #[ptr w.heap.size, .int .i64 0]) ∧ RIs w' (newTo o w j) j w.heap.size (newR n) ∧ Below w.heap.size w w' := by
  have HE : Hid (RIs (w.alloc (.cells #[.int .i64 n, .slice none 0 0, .slice none 0 0, .int .i64 (-1), .bool false, .bool false, .int .i64 0] 40)) (newTo o w j) j w.heap.size (newR n)) := ris_new w o j (newR n) rfl rfl
  go_enter Try.func10, Try.ntmps10
  go_wp2
  refine bodyPost_ret (results_tmp2 rfl _ _ _) rfl ⟨rfl, HE.out, balloc (Below.refl _ _) _⟩

section
variable {w : World} {o : Nat → Nat} {j b : Nat} {gv pv : Value} {R : Rk} {gs ps : List (RW × Value)}
theorem rarm_any (h : RAt w o j b gv pv R gs ps) (hj : j ≠ 0) (n : Int) : Calls Try.prog 29 #[ptr b, .int .i64 n] w fun r w' => r = .returned (.int .i64 (R.arm n).1) ∧ ∃ o', RIs w' o' j b (R.arm n).2 ∧ Mv [j] w o w' o' := by
  have HD : Hid (∃ o', RIs w o' j b R ∧ Mv [j] w o w o') := ⟨o, ⟨_, _, _, _, h⟩, Mv.refl _ _ _⟩
  have d1 := h.setArmed hj n
  have HE : Hid (∃ o', RIs (w.setCell ⟨b, 3, none⟩ (.int .i64 n)) o' j b { R with armed := n } ∧ Mv [j] w o (w.setCell ⟨b, 3, none⟩ (.int .i64 n)) o') := ⟨o, ⟨_, _, _, _, d1.1⟩, d1.2⟩
  have c3 := h.c3
  have c4 := h.c4
  have f3 := h.blk.frozen 3
  unfold Rk.arm
  clear h d1
  cases hd : R.down
  · rw [hd] at c4 HE
    clear hd
    rw [if_neg (by simp)]
    by_cases hn : n < 0
    · rw [if_pos hn]
      dsimp only
      go_enter Try.func29, Try.ntmps29
      go_wp2
      go_ret
      exact ⟨rfl, HD.out⟩
    · rw [if_neg hn]
      dsimp only
      go_enter Try.func29, Try.ntmps29
      go_wp2
      go_ret
      exact ⟨rfl, HE.out⟩
  · rw [hd] at c4
    clear hd
    rw [if_pos rfl]
    dsimp only
    go_enter Try.func29, Try.ntmps29
    go_wp2
    go_ret
    exact ⟨rfl, HD.out⟩

theorem rsync_any {N : Nat} (h : RAt w o j b gv pv R gs ps) (hj : j ≠ 0) (hok : ROk R N) (hN : N ≤ 2000) : Calls Try.prog 28 #[ptr b] w fun r w' => r = .returned (.int .i64 R.sync.1) ∧ ∃ o', RIs w' o' j b R.sync.2 ∧ Mv [j] w o w' o' := by
  have HD : Hid (∃ o', RIs w o' j b R ∧ Mv [j] w o w o') := ⟨o, ⟨_, _, _, _, h⟩, Mv.refl _ _ _⟩
  have c4 := h.c4
  have hgl := h.gl
  have hpl := h.pl
  have hlen : gs.length + ps.length ≤ 2000 := by have := hok.gl; omega
  clear hgl hpl
  unfold Rk.sync
  cases hd : R.down
  · rw [hd] at c4
    rw [if_neg (by simp)]
    dsimp only
    have h1 := h.mv (mv_drewn (I := []) w o) (by simp) (by simp)
    have HA : Hid (∀ (w5 : World) (gv' : Value), w.drew.grownBy w5 gv.ownBlock → w5.ownsRow 0 73 3 gv' (gs ++ ps).length (flat rc (gs ++ ps)) → (∀ k, gv'.ownBlock = some k → gv.ownBlock = some k ∨ w.drew.heap.size ≤ k) →
        (∃ o', RIs ((w5.setCell ⟨b, 1, none⟩ gv').setCell ⟨b, 2, none⟩ (.slice none 0 0)) o' j b { R with good := R.good ++ R.pend, pend := [] } ∧ Mv [j] w o ((w5.setCell ⟨b, 1, none⟩ gv').setCell ⟨b, 2, none⟩ (.slice none 0 0)) o')
          ∧ Blk w5 b 40 (rcells gv pv R)) := fun w5 gv' k1 k2 k3 => by
      obtain ⟨o2, d2, m2⟩ := h1.addGood hj h1.kp k1 k2 k3
      have d3 := d2.noPend hj
      have d4 := d3.1
      rw [h.ep] at d4
      exact ⟨⟨o2, ⟨_, _, _, _, d4⟩, mv_undrew (m2.trans d3.2)⟩, h1.blk.past' k1 (fun e => (h1.og b e).2 rfl)⟩
    have HG : Hid (w.drew.ownsRow 0 73 3 gv gs.length (flat rc gs)) := h1.g
    have HP : Hid (RowF rc w.drew pv ps) := rowF_own rc_len h1.p
    have HO : Hid (∀ u ∈ flat rc ps, u.oneCell' = true) := h1.kp.one
    have x1 := fun z : WIn (Same2 w b b) => (h.blk.block z.ok.b).cell 1 _ rfl
    have x2 := fun z : WIn (Same2 w b b) => (h.blk.block z.ok.b).cell 2 _ rfl
    have hbd : b < w.drew.heap.size := h.blk.lt
    have HS : Hid (∀ w5, w.drew.grownBy w5 gv.ownBlock → Same2 w b b w5) := fun w5 hg => by
      have := hg.block b hbd (fun e => (h.og b e.symm).2 rfl)
      exact ⟨this, this⟩
    obtain ⟨ag, cg, hvg, _⟩ := slice_of_own h.g
    obtain ⟨ap, cp, hvp, _⟩ := slice_of_own h.p
    subst hvg hvp
    have ne : Nonempty (WIn (Same2 w b b)) := ⟨⟨w, Same2.refl _ _ _⟩⟩
    rw [hd] at HA
    clear h h1 hd hok
    go_enter Try.func28, Try.ntmps28
    go_upto_region 3 with fail
    refine wp_region_treeZ (C := fun w' => ∃ z : WIn (Same2 w b b), w' = z.w) 12 (.still 0 (.still 1 (.still 2 (.still 3 (.still 4 (.still 5 (.still 6 (.still 7 (.still 8 (.one 9 (.one 10 (.one 11 .done)))))))))))) rfl (by kernel_rfl) (by kernel_rfl) ⟨⟨w.drew, ⟨rfl, rfl⟩⟩, rfl⟩ ?_
    generalize w.drew = wd at *
    iterate 9 (refine tree_still rfl rfl ?_; go_big_quiet_step (fail); refine wpQuiet_nil ?_)
    refine tree_one rfl rfl ?_
    refine wp_of_list rfl ?_
    refine wpList_append_rows ty38 rc_len (by omega) rfl (.tmp 11) (.tmp 15) rfl _ gs rfl HG.out _ ps rfl HP.out HO.out (by omega) ?_
    intro gv' w5 k1 k2 k3
    obtain ⟨av', cv', hvv', _⟩ := slice_of_own k1
    subst hvv'
    obtain ⟨hE, B5⟩ := HA.out w5 _ k2 k1 k3
    have HE : Hid (∃ o', RIs _ o' j b _ ∧ Mv [j] w o _ o') := hE
    have HS5 : Hid (Same2 w b b w5) := HS.out w5 k2
    have e1 := B5.cell 1 _ rfl
    have e2 := B5.cell 2 _ rfl
    have f1 := B5.frozen 1
    have f2 := B5.frozen 2
    generalize (gs ++ ps).length = N5 at *
    clear hE B5 k1 k2 k3 HA HG HP HO HS
    refine ⟨rfl, ⟨⟨_, HS5.out⟩, rfl⟩, ?_⟩
    go_simp
    iterate 2 (refine tree_one rfl rfl ?_; go_simp; refine ⟨⟨⟨_, HS5.out⟩, rfl⟩, ?_⟩)
    refine tree_done ?_
    refine ⟨rfl, ?_⟩
    go_simp
    clear x1 x2 ne
    go_wp2
    go_ret
    exact ⟨rfl, HE.out⟩
  · rw [hd] at c4
    rw [if_pos rfl]
    dsimp only
    clear h hd hok
    go_enter Try.func28, Try.ntmps28
    go_wp2
    go_ret
    exact ⟨rfl, HD.out⟩

theorem rwrite_any {N : Nat} (h : RAt w o j b gv pv R gs ps) (hj : j ≠ 0) (hok : ROk R N) (hN : N ≤ 2000) (i : Int) {bv : Value} {l : List Int} (hbv : Rd w bv l) : Calls Try.prog 27 #[ptr b, .int .i64 i, bv] w fun r w' => r = .returned (.int .i64 (R.write i l).1) ∧ ∃ o', RIs w' o' j b (R.write i l).2 ∧ Mv [j] w o w' o' := by
  have HD : Hid (∃ o', RIs w o' j b R ∧ Mv [j] w o w o') := ⟨o, ⟨_, _, _, _, h⟩, Mv.refl _ _ _⟩
  have c0 := h.c0
  have c4 := h.c4
  have Hbv : Hid (Rd w bv l) := hbv
  obtain ⟨a, cap, rfl⟩ := hbv.len
  have hcap := hbv.cap
  cases hd : R.down
  · rw [hd] at c4
    by_cases hi0 : i < 0
    · have e : R.write i l = (2, R) := by unfold Rk.write Rk.reach; simp [hd, hi0]
      rw [e]
      clear h hbv e hok hd
      go_enter Try.func27, Try.ntmps27
      go_wp2
      go_ret
      exact ⟨rfl, HD.out⟩
    · by_cases hi1 : R.n ≤ i
      · have e : R.write i l = (2, R) := by unfold Rk.write Rk.reach; simp [hd, hi1]
        rw [e]
        clear h hbv e hok hd
        go_enter Try.func27, Try.ntmps27
        go_wp2
        go_ret
        exact ⟨rfl, HD.out⟩
      · obtain ⟨n, rfl⟩ := Int.eq_ofNat_of_zero_le (by omega : 0 ≤ i)
        have hr : R.reach (n : Int) = 0 := by unfold Rk.reach; rw [if_neg (by simp [hd]), if_neg (by omega)]
        by_cases hl : l.length = 64
        · have hpl := h.pl
          have hplen : ps.length ≤ 2000 := by have := hok.gl; omega
          clear hpl
          have c3 := h.c3
          have c6 := h.c6
          have hc0 := hok.c0
          have hcN : R.count ≤ 2000 := by have := hok.cN; omega
          have ha0 := hok.a0
          have ham := hok.am
          have h1 := h.mv (mv_drewn (I := []) w o) (by simp) (by simp)
          have hbd : b < w.drew.heap.size := h.blk.lt
          have HOw : Hid (Own w.drew.heap.size 5 (w.drew.alloc (.cells #[] 5)) (.slice (some ⟨w.drew.heap.size, 0, none⟩) 0 0) []) :=
            ⟨Oct.nil, rfl, .inr ⟨w.drew.heap.size, 0, #[], rfl, Nat.le_refl _, heap_alloc_new w.drew _, Nat.le_refl _, Nat.zero_le _, rfl, rfl⟩⟩
          have HRd : Hid (Rd (w.drew.alloc (.cells #[] 5)) (.slice a l.length cap) l) := hbv.drew.below (balloc (Below.refl _ _) _)
          have HBB : Hid (∀ wB, (w.drew.alloc (.cells #[] 5)).grownBy wB (some w.drew.heap.size) → Below w.drew.heap.size w.drew wB) := fun wB hg => bgrown (balloc (Below.refl _ _) _) (Nat.le_refl _) hg
          have HS : Hid (∀ wB, Below w.drew.heap.size w.drew wB → Same2 w b b wB) := fun wB hB => ⟨hB.block b hbd, hB.block b hbd⟩
          have HA : Hid (∀ (wB wC : World) (x : Value), Below w.drew.heap.size w.drew wB → Own w.drew.heap.size 5 wB x l → wC = wB.alloc (.cells #[.int .i64 (n : Int), x, .bool false] 73) →
              wC.ownsRow 0 73 3 pv ps.length (flat rc ps) ∧ RowF rc wC (.slice (some ⟨wB.heap.size, 0, none⟩) 1 1) [(⟨n, l, false⟩, x)] ∧ (∀ u ∈ flat rc [((⟨n, l, false⟩ : RW), x)], u.oneCell' = true) ∧ Below w.drew.heap.size w.drew wC ∧
              ∀ (w5 : World) (pv' : Value), wC.grownBy w5 pv.ownBlock → w5.ownsRow 0 73 3 pv' (ps ++ [((⟨n, l, false⟩ : RW), x)]).length (flat rc (ps ++ [((⟨n, l, false⟩ : RW), x)])) → (∀ k, pv'.ownBlock = some k → pv.ownBlock = some k ∨ wC.heap.size ≤ k) →
                Blk w5 b 40 (rcells gv pv R) ∧ Same2 w b b w5 ∧
                (R.armed = 0 → ∃ o', RIs (((w5.setCell ⟨b, 2, none⟩ pv').setCell ⟨b, 4, none⟩ (.bool true)).setCell ⟨b, 5, none⟩ (.bool true)) o' j b (R.fall n l) ∧ Mv [j] w o (((w5.setCell ⟨b, 2, none⟩ pv').setCell ⟨b, 4, none⟩ (.bool true)).setCell ⟨b, 5, none⟩ (.bool true)) o') ∧
                (0 < R.armed → ∃ o', RIs (((w5.setCell ⟨b, 2, none⟩ pv').setCell ⟨b, 3, none⟩ (.int .i64 (R.armed - 1))).setCell ⟨b, 6, none⟩ (.int .i64 (R.count + 1))) o' j b (R.put n l) ∧ Mv [j] w o (((w5.setCell ⟨b, 2, none⟩ pv').setCell ⟨b, 3, none⟩ (.int .i64 (R.armed - 1))).setCell ⟨b, 6, none⟩ (.int .i64 (R.count + 1))) o') ∧
                (R.armed < 0 → ∃ o', RIs ((w5.setCell ⟨b, 2, none⟩ pv').setCell ⟨b, 6, none⟩ (.int .i64 (R.count + 1))) o' j b (R.put n l) ∧ Mv [j] w o ((w5.setCell ⟨b, 2, none⟩ pv').setCell ⟨b, 6, none⟩ (.int .i64 (R.count + 1))) o')) := fun wB wC x hB hO hwC => by
            have hbC : Below wB.heap.size wB wC := by rw [hwC]; exact balloc (Below.refl _ _) _
            have hBC : Below w.drew.heap.size w.drew wC := bnext hB hbC
            have h2 := h1.below hBC
            have m2 : Mv [j] w o wC (newTo o w.drew 0) := mv_undrew (Mv.of_below 0 hBC)
            have hOC : Own w.drew.heap.size 5 wC x l := by rw [hwC]; exact hO.alloc _
            have hK : Kp0 wC (newTo o w.drew 0) x l := ⟨hOC.rd, fun _ k hk => newTo_new (hOC.2.lt k hk).1⟩
            have hSt : Stay wC (newTo o w.drew 0) [((⟨n, l, false⟩ : RW), x)] := fun q hq => by simp at hq; subst hq; exact hK
            refine ⟨h2.p, ?_, hSt.one, hBC, fun w5 pv' k1 k2 k3 => ?_⟩
            · rw [hwC]
              exact rowF_one (f := rc) wB (⟨n, l, false⟩, x) 73
            · obtain ⟨o3, d3, m3⟩ := h2.addPend hj hSt k1 k2 k3
              have B5 := h2.blk.past' k1 (fun e => (h2.op b e).2 rfl)
              have hS5 : Same2 w b b w5 := by
                have e := k1.block b h2.blk.lt (fun e => (h2.op b e.symm).2 rfl)
                have e' := e.trans (hBC.block b hbd)
                exact ⟨e', e'⟩
              refine ⟨B5, hS5, fun ha => ?_, fun ha => ?_, fun ha => ?_⟩
              · have d4 := d3.setDown hj true
                have d5 := d4.1.setMidst hj true
                exact ⟨o3, ⟨_, _, _, _, d5.1⟩, ((m2.trans m3).trans d4.2).trans d5.2⟩
              · have d4 := d3.setArmed hj (R.armed - 1)
                have d5 := d4.1.setCount hj (R.count + 1)
                have e : R.put n l = { R with pend := R.pend ++ [⟨n, l, false⟩], armed := R.armed - 1, count := R.count + 1 } := by unfold Rk.put; rw [if_pos ha]
                rw [e]
                exact ⟨o3, ⟨_, _, _, _, d5.1⟩, ((m2.trans m3).trans d4.2).trans d5.2⟩
              · have d5 := d3.setCount hj (R.count + 1)
                have e : R.put n l = { R with pend := R.pend ++ [⟨n, l, false⟩], count := R.count + 1 } := by unfold Rk.put; rw [if_neg (by omega)]
                rw [e]
                exact ⟨o3, ⟨_, _, _, _, d5.1⟩, (m2.trans m3).trans d5.2⟩
          have hwr : R.write (n : Int) l = if R.armed = 0 then (19, R.fall n l) else (0, R.put n l) := by unfold Rk.write; rw [if_neg (by simp [hr]), if_neg (by simp [hl])]; rfl
          have x2 := fun z : WIn (Same2 w b b) => (h.blk.block z.ok.b).cell 2 _ rfl
          have ne : Nonempty (WIn (Same2 w b b)) := ⟨⟨w, Same2.refl _ _ _⟩⟩
          obtain ⟨ap, cp, hvp, _⟩ := slice_of_own h.p
          subst hvp
          rw [hwr]
          have HL : Hid (l.length = 64) := hl
          rw [hl] at HRd hcap ⊢
          clear h hbv Hbv hok hd h1 hr hwr hl HD
          go_enter Try.func27, Try.ntmps27
          go_upto_region 7 with fail
          refine wp_region_treeZ (C := fun w' => ∃ z : WIn (Same2 w b b), w' = z.w) 14 (.still 0 (.still 1 (.still 2 (.still 3 (.still 4 (.still 5 (.still 7 (.one 6 (.one 8 (.still 9 (.one 10 (.one 11 (.one 12 (.one 13 .done)))))))))))))) rfl (by kernel_rfl) (by kernel_rfl) ⟨⟨w.drew, ⟨rfl, rfl⟩⟩, rfl⟩ ?_
          generalize w.drew = wd at *
          iterate 7 (refine tree_still rfl rfl ?_; go_big_quiet_step (fail); refine wpQuiet_nil ?_)
          refine tree_one rfl rfl ?_
          go_simp
          refine ⟨⟨⟨_, HS.out _ (balloc (Below.refl _ _) _)⟩, rfl⟩, ?_⟩
          refine tree_one rfl rfl ?_
          refine wp_of_list rfl ?_
          refine wpList_append_cells 43 5 byteTy rfl (.tmp 30) (.tmp 31) rfl wd.heap.size _ [] rfl HOw.out _ l rfl HRd.out (by rw [HL.out]; simp) (by simp) ?_
          intro x wB kO kg
          have HBB1 : Hid (Below wd.heap.size wd wB) := HBB.out wB kg
          rw [List.nil_append] at kO
          obtain ⟨wC, hwC⟩ : ∃ wC, wC = wB.alloc (.cells #[.int .i64 (n : Int), x, .bool false] 73) := ⟨_, rfl⟩
          obtain ⟨q1, q2, q3, q4, q5⟩ := HA.out wB wC x HBB1.out kO hwC
          obtain ⟨ax, cx, hxx⟩ := kO.rd.len
          rw [HL.out] at hxx
          subst hxx
          have HQ1 : Hid (wC.ownsRow 0 73 3 _ _ _) := q1
          have HQ2 : Hid (RowF rc wC _ _) := q2
          have HQ3 : Hid (∀ u ∈ _, _) := q3
          have HS4 : Hid (Same2 w b b wC) := HS.out wC q4
          have HS3 : Hid (Same2 w b b wB) := HS.out wB HBB1.out
          have HQ5 : Hid _ := q5
          have HWC : Hid (wC = wB.alloc (.cells #[.int .i64 (n : Int), .slice ax 64 cx, .bool false] 73)) := hwC
          clear q1 q2 q3 q4 q5 hwC kO kg HA HOw HRd HBB HS HBB1
          refine ⟨rfl, ⟨⟨_, HS3.out⟩, rfl⟩, ?_⟩
          go_simp
          refine tree_still rfl rfl ?_
          go_big_quiet_step (fail)
          refine wpQuiet_nil ?_
          refine tree_one rfl rfl ?_
          go_simp
          rw [← HWC.out]
          refine ⟨⟨⟨_, HS4.out⟩, rfl⟩, ?_⟩
          refine tree_one rfl rfl ?_
          refine wp_of_list rfl ?_
          refine wpList_append_rows ty38 rc_len (by omega) rfl (.tmp 28) (.tmp 34) rfl _ ps rfl HQ1.out _ _ rfl HQ2.out HQ3.out (by simp; omega) ?_
          intro pv' w5 k1 k2 k3
          obtain ⟨av', cv', hvv', _⟩ := slice_of_own k1
          subst hvv'
          obtain ⟨B5, S5, r0, r1, r2⟩ := HQ5.out w5 _ k2 k1 k3
          have HS5 : Hid (Same2 w b b w5) := S5
          have HR0 : Hid (R.armed = 0 → _) := r0
          have HR1 : Hid (0 < R.armed → _) := r1
          have HR2 : Hid (R.armed < 0 → _) := r2
          have e2 := B5.cell 2 _ rfl
          have e3 := B5.cell 3 _ rfl
          have e4 := B5.cell 4 _ rfl
          have e5 := B5.cell 5 _ rfl
          have e6 := B5.cell 6 _ rfl
          have f2 := B5.frozen 2
          have f3 := B5.frozen 3
          have f4 := B5.frozen 4
          have f5 := B5.frozen 5
          have f6 := B5.frozen 6
          generalize (ps ++ [((⟨n, l, false⟩ : RW), (.slice ax 64 cx : Value))]).length = N5 at *
          clear r0 r1 r2 S5 B5 k1 k2 k3 HQ5 HQ1 HQ2 HQ3 HWC HS4 HS3
          refine ⟨rfl, ⟨⟨_, HS5.out⟩, rfl⟩, ?_⟩
          go_simp
          iterate 2 (refine tree_one rfl rfl ?_; go_simp; refine ⟨⟨⟨_, HS5.out⟩, rfl⟩, ?_⟩)
          refine tree_done ?_
          refine ⟨rfl, ?_⟩
          go_simp
          clear x2 ne HS5
          by_cases hz : R.armed = 0
          · have HE := HR0.out hz
            rw [hz] at e3
            have HE' : Hid _ := HE
            clear HE HR0 HR1 HR2
            go_wp2
            go_ret
            exact ⟨rfl, HE'.out⟩
          · by_cases hp : 0 < R.armed
            · have HE := HR1.out hp
              have HE' : Hid _ := HE
              have hz2 : (R.armed == 0) = false := by simpa using hz
              have HZ : Hid (¬ R.armed = 0) := hz
              clear HE HR0 HR1 HR2 hz
              go_wp2
              go_ret
              exact ⟨rfl, HE'.out⟩
            · have HE := HR2.out (by omega)
              have HE' : Hid _ := HE
              have hz2 : (R.armed == 0) = false := by simpa using hz
              have HZ : Hid (¬ R.armed = 0) := hz
              clear HE HR0 HR1 HR2 hz
              go_wp2
              go_ret
              exact ⟨rfl, HE'.out⟩
        · have e : R.write (n : Int) l = (1, R) := by unfold Rk.write; rw [if_neg (by simp [hr]), if_pos hl]
          rw [e]
          clear h hbv Hbv e hok hd
          generalize l.length = L at *
          have hl2 : ¬ (L : Int) = 64 := by omega
          go_enter Try.func27, Try.ntmps27
          go_wp2
          go_ret
          exact ⟨rfl, HD.out⟩
  · rw [hd] at c4
    have e : R.write i l = (19, R) := by unfold Rk.write Rk.reach; simp [hd]
    rw [e]
    clear h hbv e hok hd
    go_enter Try.func27, Try.ntmps27
    go_wp2
    go_ret
    exact ⟨rfl, HD.out⟩
end
end Go.Proofs.Ytfkkbloapnlbgaa
