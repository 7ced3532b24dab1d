/-
  The disk's put, goDown and Write.
-/
import Derived.Test.YtkcighejmjgalaaDoorDsk2
namespace Go.Proofs.YtkcighejmjgalaaDoor
set_option linter.unusedVariables false
set_option linter.unusedSimpArgs false
set_option synthInstance.maxSize 20000
set_option maxHeartbeats 2000000
set_option maxRecDepth 20000
open Go.RowKit Go.Maps

/-- Two blocks are as they were. -/
structure Same2 (w0 : World) (b c : Nat) (w' : World) : Prop where
  b : w'.heap[b]? = w0.heap[b]?
  c : w'.heap[c]? = w0.heap[c]?
theorem Same2.refl (w : World) (b c : Nat) : Same2 w b c w := ⟨rfl, rfl⟩
theorem Same2.grown {w0 w w' : World} {b c : Nat} {r : Option Nat} (h : Same2 w0 b c w) (hg : w.grownBy w' r) (hb : b < w.heap.size) (hc : c < w.heap.size) (h1 : r ≠ some b) (h2 : r ≠ some c) : Same2 w0 b c w' :=
  ⟨(hg.block b hb (fun e => h1 e.symm)).trans h.b, (hg.block c hc (fun e => h2 e.symm)).trans h.c⟩

theorem mkS_cells {l : List Int} (h : l.length = 64) (ho : Oct l) : splice (kc zs) 0 (cs8 l) = kc (mkS l) := by
  rw [mkS_eq h ho]
  unfold splice kc
  dsimp only
  rw [List.take_zero, List.nil_append, Nat.zero_add, cs8_length, h, List.drop_append, List.drop_of_length_le (by rw [cs8_length, zs.len]; exact Nat.le_refl _), cs8_length, zs.len]
  rfl

section
variable {w : World} {o : Nat → Nat} {j b : Nat} {gv nv pv : Value} {D : Dk}
theorem godown_any (h : DAt w o j b gv nv pv D) (i : Nat) (hp : D.pend.length ≤ 2000) : Calls Tryd.prog 66 #[ptr b, .int .i64 (i : Int)] w fun r w' => r = .returned (.tuple #[]) ∧ ∃ o', DIs w' o' j b (D.fall i) ∧ Mv [j] w o w' o' := by
  have c2 := h.c2
  obtain ⟨w1, hw1⟩ : ∃ w1, w1 = w.alloc (.cells (wc (i, ts)).toArray 79) := ⟨_, rfl⟩
  have hb1 : Below w.heap.size w w1 := by rw [hw1]; exact balloc (Below.refl _ _) _
  have M1 : Mv [j] w o w1 (newTo o w 0) := Mv.of_below 0 hb1
  have h1 := h.below hb1
  have HR : Hid (RowF wc w1 (.slice (some ⟨w.heap.size, 0, none⟩) 1 1) [(i, ts)]) := by
    have := rowF_one (f := wc) w (i, ts) 79
    rw [← hw1] at this
    exact this
  have HP : Hid (w1.ownsRow 0 79 66 pv D.pend.length (flat wc D.pend)) := h1.p
  have HA : Hid (∀ (w5 : World) (pv' : Value), w1.grownBy w5 pv.ownBlock → w5.ownsRow 0 79 66 pv' (D.pend ++ [(i, ts)]).length (flat wc (D.pend ++ [(i, ts)])) → (∀ k, pv'.ownBlock = some k → pv.ownBlock = some k ∨ w1.heap.size ≤ k) →
      ∃ o', DIs ((w5.setCell ⟨b, 2, none⟩ pv').setCell ⟨b, 3, none⟩ (.int .i64 1)) o' j b (D.fall i) ∧ Mv [j] w o ((w5.setCell ⟨b, 2, none⟩ pv').setCell ⟨b, 3, none⟩ (.int .i64 1)) o' ∧ w5.cell? ⟨b, 2, none⟩ = some pv ∧ w5.frozen? ⟨b, 2, none⟩ = false ∧ w5.cell? ⟨b, 3, none⟩ = some (.int .i64 (stI D.down)) ∧ w5.frozen? ⟨b, 3, none⟩ = false) := fun w5 pv' k1 k2 k3 => by
    obtain ⟨o2, d2, m2⟩ := h1.addPend k1 k2 k3
    have d3 := d2.setSt true
    have B5 := h1.blk.past' k1 (fun e => (h1.op b e).2 rfl)
    exact ⟨o2, ⟨_, _, _, d3.1⟩, (M1.trans m2).trans d3.2, B5.cell 2 _ rfl, B5.frozen _, B5.cell 3 _ rfl, B5.frozen _⟩
  have HW1 : Hid (w1 = w.alloc (.cells (wc (i, ts)).toArray 79)) := hw1
  obtain ⟨av, cv, hvv, hcv⟩ := slice_of_own h.p
  subst hvv
  clear hw1 h1 h M1 hb1
  go_enter Tryd.func66, Tryd.ntmps66
  go_wp2_with (first
    | (refine wpList_ok rfl (exec_build62 (.const (.bool true)) rfl rfl) ?_)
    | (refine wpList_ok rfl (exec_build65 (i := i) (s := ts) (.tmp 9) (.tmp 10) rfl rfl rfl) ?_)
    | (refine wpList_ok rfl (exec_slice55 (q := (i, ts)) (.tmp 11) rfl rfl) ?_; rw [← HW1.out])
    | (at_builtin; go_must (refine wpList_append_rows ty55 wc_len (by omega) rfl (.tmp 8) (.tmp 12) rfl _ D.pend rfl HP.out _ [(i, ts)] rfl HR.out (flat_wc_one _) (by simp; omega) ?_; intro pv' w5 k1 k2 k3; obtain ⟨av', cv', hvv', _⟩ := slice_of_own k1; subst hvv'; obtain ⟨o', d9, m9, e1, e2, e3, e4⟩ := HA.out w5 _ k2 k1 k3; have HD : Hid (DIs _ _ _ _ _) := d9; have HM : Hid (Mv _ _ _ _ _) := m9; clear d9 m9 k1 k2 k3; generalize (D.pend ++ [(i, ts)]).length = N5 at *)))
  refine bodyPost_end (results_none rfl _ _ _) rfl ⟨rfl, o', HD.out, HM.out⟩

set_option maxHeartbeats 4000000 in
theorem put_any (h : DAt w o j b gv nv pv D) {i : Nat} (hi : i < D.now.length) {bv : Value} {l : List Int} (hl : l.length = 64) (hbv : Rd w bv l) (hp : D.pend.length ≤ 2000) (hw0 : 0 ≤ D.writes ∧ D.writes ≤ 2000) (hl0 : 0 ≤ D.left ∧ D.left ≤ 9223372036854775807) :
    Calls Tryd.prog 67 #[ptr b, .int .i64 (i : Int), bv] w fun r w' => r = .returned (.tuple #[]) ∧ ∃ o', DIs w' o' j b (D.put i (mkS l)) ∧ Mv [j] w o w' o' := by
  have hb := h.blk.lt
  obtain ⟨g, cap, hvv, hc1, hc2, hgw⟩ := own_of_slice h.n (by omega)
  subst hvv
  obtain ⟨av, cv, hvv, hcv⟩ := slice_of_own h.p
  subst hvv
  have hx := hbv
  obtain ⟨ho, ax, cx, rfl, hx1, hx2, hx3, hx4⟩ := hx
  obtain ⟨w1, hw1⟩ : ∃ w1, w1 = w.alloc (.cells (kc zs).toArray 76) := ⟨_, rfl⟩
  have hb1 : Below w.heap.size w w1 := by rw [hw1]; exact balloc (Below.refl _ _) _
  have B1 : Blk w1 w.heap.size 76 (kc zs) := by rw [hw1]; exact blk_new w _ 76
  have HSrc : Hid (0 < (cs8 l).length → some (⟨w.heap.size, 0, none⟩ : Addr) = some ⟨w.heap.size, 0, none⟩ ∧ ∃ ad, ax = some ad ∧ ∀ k u, (cs8 l)[k]? = some u → w1.cell? (ad.add k) = some u) := fun hp0 => by
    refine ⟨rfl, ?_⟩
    obtain ⟨c, off, rfl, hc⟩ := hx4 (by rw [hl]; omega)
    refine ⟨_, rfl, fun k u hu => ?_⟩
    obtain ⟨hk, rfl⟩ := cs8_some hu
    have := hc k hk
    rw [Addr.add_lit, World.cell?_of_block (hb1.block c (World.block_lt_of_cell? w _ this))]
    exact this
  have HW1 : Hid (w1 = w.alloc (.cells (kc zs).toArray 76)) := hw1
  have HB1 : Hid (w1.heap[w.heap.size]? = some (.cells (kc zs).toArray 76 (0, 0))) := B1
  have Hb1 : Hid (Below w.heap.size w w1) := hb1
  have H : Hid (DAt w o j b gv (.slice (some ⟨g, 0, none⟩) D.now.length cap) (.slice av D.pend.length cv) D) := h
  have HSP : Hid (splice (kc zs) 0 (cs8 l) = kc (mkS l)) := mkS_cells hl ho
  have hll : (cs8 l).length = 64 := by rw [cs8_length, hl]
  generalize mkS l = s at *
  clear hw1 hb1 B1 h hbv hx4
  go_enter Tryd.func67, Tryd.ntmps67
  go_upto_region 2 with (first
    | (refine wpList_ok rfl (exec_alloc62 rfl) ?_; rw [← HW1.out])
    | (refine wpList_copy_splice rfl (.tmp 8) (.tmp 9) 30 30 rfl 5 (by kernel_rfl) (by kernel_rfl) _ _ _ _ _ _ rfl rfl w.heap.size 0 (kc zs) 76 HB1.out (cs8 l) (by rw [hll]; rfl) HSrc.out (by rw [hll, kc_len]; omega) (cs8_one l) w.heap.size w Hb1.out (Nat.le_refl _) ?_; intro w2 k1 k2; rw [HSP.out] at k1))
  have hB2 : Blk w2 w.heap.size 76 (kc s) := k1.out
  have h2 := H.out.below k2
  have M2 : Mv [j] w o w2 (newTo o w 0) := Mv.of_below 0 k2
  clear k1 HSrc HB1 Hb1 HW1
  have hsb2 : w.heap.size < w2.heap.size := hB2.lt
  have hbs : b ≠ w.heap.size := by omega
  obtain ⟨w3, hw3⟩ : ∃ w3, w3 = w2.drew.setCells g (i * 65) (kc s) := ⟨_, rfl⟩
  have h3 := (h2.mv (mv_drewn (I := []) w2 _) (by simp)).setNow hi s
  have hgs : g ≠ w.heap.size := by omega
  rw [← hw3] at h3
  have hB3 : Blk w3 w.heap.size 76 (kc s) := by
    rw [hw3]
    exact hB2.drew.past' (grown_setCells _ _ _ _) (fun e => hgs (Option.some.inj e))
  have M3 : Mv [j] w o w3 (newTo o w 0) := M2.trans (mv_undrew h3.2)
  have HT : Hid (w2.drew.there g (i * 65) 65) := row_there (w := w2.drew) kc_len (show w2.drew.ownsRow 0 76 65 _ _ _ from h2.n) hi
  obtain ⟨w4, hw4⟩ : ∃ w4, w4 = w3.drew.alloc (.cells (wc (i, s)).toArray 79) := ⟨_, rfl⟩
  have hb4 : Below w3.drew.heap.size w3.drew w4 := by rw [hw4]; exact balloc (Below.refl _ _) _
  have h4 := (h3.1.mv (mv_drewn (I := []) w3 _) (by simp)).below hb4
  have M4 : Mv [j] w o w4 (newTo (newTo o w 0) w3.drew 0) := M3.trans (mv_undrew (Mv.of_below 0 hb4))
  have HRow : Hid (RowF wc w4 (.slice (some ⟨w3.drew.heap.size, 0, none⟩) 1 1) [(i, s)]) := by
    have := rowF_one (f := wc) w3.drew (i, s) 79
    rw [← hw4] at this
    exact this
  have hsb3 : w.heap.size < w3.heap.size := hB3.lt
  have hb3 : b < w3.heap.size := h3.1.blk.lt
  have HS4 : Hid (Same2 w3 b w.heap.size w4) := ⟨hb4.block b hb3, hb4.block _ hsb3⟩
  have HP : Hid (w4.ownsRow 0 79 66 (.slice av D.pend.length cv) D.pend.length (flat wc D.pend)) := h4.p
  have hpw : ∀ k, (Value.slice av D.pend.length cv).ownBlock = some k → k ≠ w.heap.size := fun k hk => by have := (H.out.p.lt k hk).2; omega
  have HA : Hid (∀ (w5 : World) (pv' : Value), w4.grownBy w5 (Value.slice av D.pend.length cv).ownBlock → w5.ownsRow 0 79 66 pv' (D.pend ++ [(i, s)]).length (flat wc (D.pend ++ [(i, s)])) → (∀ k, pv'.ownBlock = some k → (Value.slice av D.pend.length cv).ownBlock = some k ∨ w4.heap.size ≤ k) →
      ∃ o', (D.armed = false → DIs ((w5.setCell ⟨b, 2, none⟩ pv').setCell ⟨b, 6, none⟩ (.int .i64 (D.writes + 1))) o' j b (D.put i s)) ∧ (D.armed = true → DIs (((w5.setCell ⟨b, 2, none⟩ pv').setCell ⟨b, 6, none⟩ (.int .i64 (D.writes + 1))).setCell ⟨b, 5, none⟩ (.int .i64 (D.left - 1))) o' j b (D.put i s))
        ∧ Mv [j] w o ((w5.setCell ⟨b, 2, none⟩ pv').setCell ⟨b, 6, none⟩ (.int .i64 (D.writes + 1))) o' ∧ Mv [j] w o (((w5.setCell ⟨b, 2, none⟩ pv').setCell ⟨b, 6, none⟩ (.int .i64 (D.writes + 1))).setCell ⟨b, 5, none⟩ (.int .i64 (D.left - 1))) o'
        ∧ Blk w5 b 57 (dcells gv (.slice (some ⟨g, 0, none⟩) D.now.length cap) (.slice av D.pend.length cv) D) ∧ Same2 w3 b w.heap.size w5) := fun w5 pv' k1 k2 k3 => by
    obtain ⟨o2, d2, m2⟩ := h4.addPend k1 k2 k3
    have d6 := d2.setWrites (D.writes + 1)
    have d5 := d6.1.setLeft (D.left - 1)
    have B5 := h4.blk.past' k1 (fun e => (h4.op b e).2 rfl)
    refine ⟨o2, fun ha => ?_, fun ha => ?_, (M4.trans m2).trans d6.2, ((M4.trans m2).trans d6.2).trans d5.2, B5, HS4.out.grown k1 (Nat.lt_of_lt_of_le hb3 hb4.size) (Nat.lt_of_lt_of_le hsb3 hb4.size) (fun e => (h4.op b e).2 rfl) (fun e => hpw _ e rfl)⟩
    · have e : D.put i s = { D with now := D.now.set i s, pend := D.pend ++ [(i, s)], writes := D.writes + 1 } := by unfold Dk.put; rw [ha]; rfl
      rw [e]
      exact ⟨_, _, _, d6.1⟩
    · have e : D.put i s = { D with now := D.now.set i s, pend := D.pend ++ [(i, s)], writes := D.writes + 1, left := D.left - 1 } := by unfold Dk.put; rw [ha]; rfl
      rw [e]
      exact ⟨_, _, _, d5.1⟩
  have HW3 : Hid (w3 = w2.drew.setCells g (i * 65) (kc s)) := hw3
  have HW4 : Hid (w4 = w3.drew.alloc (.cells (wc (i, s)).toArray 79)) := hw4
  have c1 := fun z : WIn (Same2 w2 b w.heap.size) => (h2.blk.block z.ok.b).cell 1 _ rfl
  have R2 : Hid (∀ z : WIn (Same2 w2 b w.heap.size), z.w.rangeAt w.heap.size 0 (kc s)) := fun z => (hB2.block z.ok.c).range0
  have c2 := fun z : WIn (Same2 w3 b w.heap.size) => (h3.1.blk.block z.ok.b).cell 2 _ rfl
  have R3 : Hid (∀ z : WIn (Same2 w3 b w.heap.size), z.w.rangeAt w.heap.size 0 (kc s)) := fun z => (hB3.block z.ok.c).range0
  have hi2 : (i : Int) < (D.now.length : Int) := by omega
  obtain ⟨hwa, hwb⟩ := hw0
  obtain ⟨hla, hlb⟩ := hl0
  generalize w.heap.size = sb at *
  clear hw3 hw4 h2 h3 h4 hB2 hB3 M2 M3 M4 k2 hb4 hbs hgs hsb2 hsb3 hb3 hpw H HSP hx1 hx2 hx3 ho hl
  go_simp
  have ne : Nonempty (WIn (Same2 w2 b sb)) := ⟨⟨w2, Same2.refl _ _ _⟩⟩
  refine wp_region_treeZ (C := fun w' => ∃ z : WIn (Same2 w2 b sb), w' = z.w) 7 (.still 0 (.still 1 (.still 2 (.still 3 (.still 4 (.still 5 (.still 6 .done))))))) rfl (by kernel_rfl) (by kernel_rfl) ⟨⟨w2.drew, ⟨rfl, rfl⟩⟩, rfl⟩ ?_
  generalize w2.drew = wd at *
  iterate 5 (refine tree_still rfl rfl ?_; go_big_quiet_step (fail); refine wpQuiet_nil ?_)
  refine tree_still rfl rfl ?_
  refine quiet_ok rfl (fun w' hw' => by obtain ⟨z, rfl⟩ := hw'; exact exec_load62 (s := s) (.tmp 6) rfl rfl (R2.out z)) ?_
  go_simp
  refine tree_still rfl rfl ?_
  go_big_quiet_step (fail)
  refine wpQuiet_nil ?_
  refine tree_done ?_
  refine ⟨rfl, ?_⟩
  refine wp_skip (exec_store62 (s := s) (.tmp 17) (.tmp 16) rfl rfl rfl HT.out) ?_
  rw [← HW3.out]
  clear c1 ne R2 HT HW3
  go_upto_region 3 with fail
  go_simp
  have ne : Nonempty (WIn (Same2 w3 b sb)) := ⟨⟨w3, Same2.refl _ _ _⟩⟩
  refine wp_region_treeZ (C := fun w' => ∃ z : WIn (Same2 w3 b sb), w' = z.w) 12 (.still 0 (.still 1 (.still 2 (.still 3 (.still 4 (.still 5 (.still 6 (.still 7 (.one 8 (.one 9 (.one 10 (.one 11 .done)))))))))))) rfl (by kernel_rfl) (by kernel_rfl) ⟨⟨w3.drew, ⟨rfl, rfl⟩⟩, rfl⟩ ?_
  generalize w3.drew = we at *
  iterate 6 (refine tree_still rfl rfl ?_; go_big_quiet_step (fail); refine wpQuiet_nil ?_)
  refine tree_still rfl rfl ?_
  refine quiet_ok rfl (fun w' hw' => by obtain ⟨z, rfl⟩ := hw'; exact exec_load62 (s := s) (.tmp 6) rfl rfl (R3.out z)) ?_
  go_simp
  refine tree_still rfl rfl ?_
  refine quiet_ok rfl (fun w' hw' => exec_build65 (i := i) (s := s) (.tmp 23) (.tmp 24) rfl rfl rfl) ?_
  go_simp
  refine tree_one rfl rfl ?_
  refine wp_ok (exec_slice55 (q := (i, s)) (.tmp 25) rfl rfl) ?_
  rw [← HW4.out]
  refine ⟨⟨⟨_, HS4.out⟩, rfl⟩, ?_⟩
  go_simp
  refine tree_one rfl rfl ?_
  refine wp_of_list rfl ?_
  refine wpList_append_rows ty55 wc_len (by omega) rfl (.tmp 22) (.tmp 26) rfl _ D.pend rfl HP.out _ [(i, s)] rfl HRow.out (flat_wc_one _) (by simp; omega) ?_
  intro pv' w5 k1 k2 k3
  obtain ⟨av', cv', hvv', _⟩ := slice_of_own k1
  subst hvv'
  obtain ⟨o', d6, d5, m6, m5, B5, S5⟩ := HA.out w5 _ k2 k1 k3
  have HD6 : Hid (D.armed = false → DIs _ _ _ _ _) := d6
  have HD5 : Hid (D.armed = true → DIs _ _ _ _ _) := d5
  have HM6 : Hid (Mv _ _ _ _ _) := m6
  have HM5 : Hid (Mv _ _ _ _ _) := m5
  clear d6 d5 m6 m5 k1 k2 k3
  have e2 := B5.cell 2 _ rfl
  have e4 := B5.cell 4 _ rfl
  have e5 := B5.cell 5 _ rfl
  have e6 := B5.cell 6 _ rfl
  have f2 := B5.frozen 2
  have f5 := B5.frozen 5
  have f6 := B5.frozen 6
  generalize (D.pend ++ [(i, s)]).length = N5 at *
  clear B5 HA HP HRow HW4
  have HS5 : Hid (Same2 w3 b sb w5) := S5
  clear S5
  refine ⟨rfl, ⟨⟨_, HS5.out⟩, rfl⟩, ?_⟩
  go_simp
  iterate 2 (refine tree_one rfl rfl ?_; go_simp; refine ⟨⟨⟨_, HS5.out⟩, rfl⟩, ?_⟩)
  refine tree_done ?_
  refine ⟨rfl, ?_⟩
  go_simp
  clear c2 ne R3 HS4 HS5
  generalize harm : D.armed = ar at *
  clear harm
  cases ar
  · go_wp2
    refine bodyPost_end (results_none rfl _ _ _) rfl ⟨rfl, o', HD6.out trivial, HM6.out⟩
  · go_wp2
    refine bodyPost_end (results_none rfl _ _ _) rfl ⟨rfl, o', HD5.out trivial, HM5.out⟩
end
end Go.Proofs.YtkcighejmjgalaaDoor
