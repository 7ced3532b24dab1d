/-
  The reference's Max and Same, and the walk of StampOrders: how any two stamps stand, which are right, the greatest of any list, and it in order.
-/
import Derived.Test.YtmifionpagpnfaaRefSort
namespace Go.Proofs.Ytmifionpagpnfaa
set_option linter.unusedVariables false
open Go.RowKit

set_option maxHeartbeats 1000000 in
theorem refmax_any (v : Value) (l : List S) (w : World) (hv : RdS w v l) (hl : l.length ≤ 1000) :
    Calls Try.prog 17 #[v] w fun e w' => e = .returned (sv (maxS l)) ∧ Below w.heap.size w w' := by
  have HB : Hid (Below w.heap.size w (w.alloc (.cells #[.int .i64 0, .int .i64 0] 23))) := balloc (Below.refl _ _) _
  have hS := refsort_any v l _ (hv.below HB.out) hl
  have HML : Hid (0 < l.length → maxS l = (sortS l).getD ((sortS l).length - 1) (0, 0)) := maxS_last l
  have HMM : Hid (∀ s, s ∈ sortS l ↔ s ∈ l) := mem_sortS l
  have hlen := sortS_len l
  generalize sortS l = o at hS HML HMM hlen
  by_cases ho : 0 < o.length
  · have hlp : 0 < l.length := by omega
    have hm := HML.out hlp
    obtain ⟨n, hn⟩ : ∃ n, o.length = n + 1 := ⟨o.length - 1, by omega⟩
    rw [hn, Nat.add_sub_cancel] at hm
    rw [hm]
    have hnil : ¬ o = [] := by intro h; rw [h] at ho; simp at ho
    have hne : ((o.length : Int) == 0) = false := by simpa using hnil
    generalize hy : o.getD n (0, 0) = y
    obtain ⟨y1, y2⟩ := y
    have HY : Hid (o.getD n (0, 0) = (y1, y2)) := hy
    have HN : Hid (o.length = n + 1) := hn
    simp only [sv]
    clear hv hm hy HML HMM hnil
    go_enter Try.func17, Try.ntmps17
    go_upto_region 2 with (go_at_call 20; refine hS.mono ?_; rintro e w2 ⟨v2, rfl, hown2, hb2⟩)
    have HR : Hid (RdS w2 v2 o) := hown2.rd
    have X := (blk_new w [.int .i64 0, .int .i64 0] 23).below hb2
    have y0 := X.cell 0 _ rfl
    have y1' := X.cell 1 _ rfl
    have f0 := X.frozen 0
    have f1 := X.frozen 1
    have HB2 : Hid (Below w.heap.size w w2) := bnext HB.out hb2
    clear hown2 hb2 X
    obtain ⟨a2, c2, hv2⟩ := HR.out.len
    subst hv2
    have hcap := HR.out.cap
    obtain ⟨b2, o2, rfl, k0, k1⟩ := HR.out.at (Below.refl _ _) n (by omega)
    rw [HY.out] at k0 k1
    dsimp only at k0 k1
    rw [HN.out] at hne hcap ⊢
    clear hn ho
    go_wp2
    refine bodyPost_ret (v := .agg #[.int .i64 y1, .int .i64 y2]) ?_ rfl ⟨rfl, ?_⟩
    · rw [results_cell1 rfl]
      go_simp
    · exact bgrown (bgrown HB2.out (Nat.le_refl _) (grown_setCell _ _ _ _)) (Nat.le_refl _) (grown_setCell _ w.heap.size _ _)
  · obtain rfl : o = [] := List.eq_nil_of_length_eq_zero (by omega)
    obtain rfl : l = [] := by
      cases l with
      | nil => rfl
      | cons x r => have := (HMM.out x).2 List.mem_cons_self; cases this
    clear hv HML HMM
    go_enter Try.func17, Try.ntmps17
    go_upto_region 2 with (go_at_call 20; refine hS.mono ?_; rintro e w2 ⟨v2, rfl, hown2, hb2⟩)
    have HR : Hid (RdS w2 v2 []) := hown2.rd
    have X := (blk_new w [.int .i64 0, .int .i64 0] 23).below hb2
    have y0 := X.cell 0 _ rfl
    have y1' := X.cell 1 _ rfl
    have f0 := X.frozen 0
    have f1 := X.frozen 1
    have HB2 : Hid (Below w.heap.size w w2) := bnext HB.out hb2
    clear hown2 hb2 X
    obtain ⟨a2, c2, hv2⟩ := HR.out.len
    subst hv2
    have hcap := HR.out.cap
    go_wp2
    refine bodyPost_ret (v := .agg #[.int .i64 0, .int .i64 0]) ?_ rfl ⟨rfl, ?_⟩
    · rw [results_cell1 rfl]
      go_simp
    · exact bgrown (bgrown HB2.out (Nat.le_refl _) (grown_setCell _ _ _ _)) (Nat.le_refl _) (grown_setCell _ w.heap.size _ _)

set_option maxHeartbeats 1000000 in
theorem refsame_any (v x : Value) (l : List S) (w : World) (hv : RdS w v l) (hx : RdS w x l) :
    Calls Try.prog 18 #[v, x] w fun e w' => e = .returned (.bool true) ∧ Below w.heap.size w w' := by
  obtain ⟨av, cv, rfl⟩ := hv.len
  obtain ⟨ax, cx, rfl⟩ := hx.len
  have HV : Hid (RdS w (.slice av l.length cv) l) := hv
  have HX : Hid (RdS w (.slice ax l.length cx) l) := hx
  have hc1 := hv.cap
  have hc2 := hx.cap
  clear hv hx
  go_enter Try.func18, Try.ntmps18
  go_wp2
  go_loopw [5] (fun i wr => ∃ j : Nat, i = .int .i64 (j : Int) ∧ j ≤ l.length ∧ Hid (Below w.heap.size w wr)) (fun i _ => l.length - (intOf i).toNat)
  case atStart => exact ⟨0, rfl, by omega, Below.refl _ _⟩
  case round =>
    obtain ⟨j, rfl, hj, HB⟩ := hrel
    by_cases hjl : j < l.length
    · obtain ⟨b1, o1, rfl, a0, a1⟩ := HV.out.at HB.out j hjl
      obtain ⟨b2, o2, rfl, c0, c1⟩ := HX.out.at HB.out j hjl
      generalize l.getD j (0, 0) = y at a0 a1 c0 c1
      obtain ⟨y1, y2⟩ := y
      dsimp only at a0 a1 c0 c1
      go_upto_region 6 with fail
      go_quiet (fail)
      go_wp2
      go_roundw
      case rel => exact ⟨j + 1, by go_num, by omega, bnext HB.out ⟨rfl, rfl, rfl, Nat.le_refl _, fun _ _ => rfl⟩⟩
      case measure => simp [intOf]; omega
    · go_wp2
      go_ret
      exact ⟨rfl, HB.out⟩

set_option maxHeartbeats 4000000 in
set_option maxRecDepth 20000 in
theorem orders_core (a b : S) (v : Value) (l : List S) (w : World) (hv : RdS w v l) (hl : l.length ≤ 200) :
    Calls Try.prog 3 #[sv a, sv b, v] w fun e w' => e = .returned (.bool true) ∧ Below w.heap.size w w' := by
  obtain ⟨av, cv, rfl⟩ := hv.len
  have HV : Hid (RdS w (.slice av l.length cv) l) := hv
  have hcap := hv.cap
  have H10 := fun w' => right_any a w'
  have H11 := fun w' => refright_any a w'
  have H12 := fun w' => less_any a b w'
  have H13 := fun w' => refless_any a b w'
  have H14 : ∀ w', Calls Try.prog 14 #[sv a, sv b] w' fun e w'' => e = .returned (.int .i64 (cmpS a b)) ∧ Below w'.heap.size w' w'' := fun w' => (compare_any a b w').mono fun e w'' ⟨h1, h2⟩ => ⟨h1, grow_below h2⟩
  have H15 := fun w' => refcompare_any a b w'
  have H16 := fun w' h => max_any (.slice av l.length cv) l w' h
  have H17 := fun w' h => refmax_any (.slice av l.length cv) l w' h (by omega)
  generalize decide (rightP a) = d1 at H10 H11
  generalize decide (ltP a b) = d2 at H12 H13
  generalize cmpS a b = d3 at H14 H15
  generalize maxS l = m at H16 H17
  obtain ⟨m1, m2⟩ := m
  obtain ⟨a1, a2⟩ := a
  obtain ⟨b1, b2⟩ := b
  simp only [sv] at H10 H11 H12 H13 H14 H15 H16 H17 ⊢
  obtain ⟨w0, hw0⟩ : ∃ w0, w0 = (w.alloc (.cells #[.int .i64 a1, .int .i64 a2] 23)).alloc (.cells #[.int .i64 b1, .int .i64 b2] 23) := ⟨_, rfl⟩
  have HXA : Hid (Blk w0 w.heap.size 23 [.int .i64 a1, .int .i64 a2]) := by show Blk _ _ _ _; rw [hw0]; exact (blk_new w [.int .i64 a1, .int .i64 a2] 23).alloc _
  have HXB : Hid (Blk w0 (w.heap.size + 1) 23 [.int .i64 b1, .int .i64 b2]) := by show Blk _ _ _ _; rw [hw0]; have := blk_new (w.alloc (.cells #[.int .i64 a1, .int .i64 a2] 23)) [.int .i64 b1, .int .i64 b2] 23; simpa using this
  have HB0 : Hid (Below w.heap.size w w0) := by show Below _ _ _; rw [hw0]; exact balloc (balloc (Below.refl _ _) _) _
  clear hv
  go_enter Try.func3, Try.ntmps3
  go_upto_region 1 with fail
  rw [← hw0]
  obtain ⟨n0, hn0⟩ : ∃ n0, n0 = w.heap.size := ⟨_, rfl⟩
  rw [← hn0] at HXA HXB ⊢
  clear hw0 hn0
  go_upto_region 3 with fail
  have p0 := fun z : WIn (fun w' => Below w0.heap.size w0 w') => (HXA.out.below z.ok).cell 0 _ rfl
  have p1 := fun z : WIn (fun w' => Below w0.heap.size w0 w') => (HXA.out.below z.ok).cell 1 _ rfl
  have p2 := fun z : WIn (fun w' => Below w0.heap.size w0 w') => (HXB.out.below z.ok).cell 0 _ rfl
  have p3 := fun z : WIn (fun w' => Below w0.heap.size w0 w') => (HXB.out.below z.ok).cell 1 _ rfl
  have ne : Nonempty (WIn (fun w' => Below w0.heap.size w0 w')) := ⟨⟨w0, Below.refl _ _⟩⟩
  refine wp_region_ord (C := fun w' => ∃ z : WIn (fun w' => Below w0.heap.size w0 w'), w' = z.w) [(false, 0), (false, 2), (true, 1), (true, 3), (false, 4), (false, 5), (false, 6), (false, 7), (false, 9), (false, 10), (true, 8), (true, 11), (false, 12), (false, 13), (false, 14), (false, 15), (false, 16), (false, 18), (false, 19), (true, 17), (true, 20), (false, 21), (false, 22), (false, 23), (false, 24), (false, 26), (true, 25), (true, 27), (false, 28), (false, 29), (false, 30), (false, 31), (false, 33), (true, 32), (true, 34), (true, 35), (false, 36), (false, 37), (true, 38), (false, 39), (false, 40)] (by kernel_rfl) (by kernel_rfl) ⟨⟨w0.drew, (Below.refl _ _).drew⟩, rfl⟩ ?_
  iterate 2 (refine ord_still rfl rfl ?_; go_big_quiet_step (fail); refine wpQuiet_nil ?_)
  refine ord_mem rfl rfl ?_
  go_simp
  refine (H10 _).mono ?_
  rintro e w1 ⟨rfl, hb1⟩
  have HB1 : Hid (Below w0.heap.size w0 w1) := below_undrew hb1
  clear hb1
  refine ⟨⟨⟨w1, HB1.out⟩, rfl⟩, ?_⟩
  refine ord_mem rfl rfl ?_
  go_simp
  refine (H11 _).mono ?_
  rintro e w2 ⟨rfl, hb2⟩
  have HB2 : Hid (Below w0.heap.size w0 w2) := bnext HB1.out hb2
  clear hb2
  refine ⟨⟨⟨w2, HB2.out⟩, rfl⟩, ?_⟩
  iterate 6 (refine ord_still rfl rfl ?_; go_big_quiet_step (fail); refine wpQuiet_nil ?_)
  refine ord_mem rfl rfl ?_
  go_simp
  refine (H12 _).mono ?_
  rintro e w3 ⟨rfl, hb3⟩
  have HB3 : Hid (Below w0.heap.size w0 w3) := bnext HB2.out hb3
  clear hb3
  refine ⟨⟨⟨w3, HB3.out⟩, rfl⟩, ?_⟩
  refine ord_mem rfl rfl ?_
  go_simp
  refine (H13 _).mono ?_
  rintro e w4 ⟨rfl, hb4⟩
  have HB4 : Hid (Below w0.heap.size w0 w4) := bnext HB3.out hb4
  clear hb4
  refine ⟨⟨⟨w4, HB4.out⟩, rfl⟩, ?_⟩
  iterate 7 (refine ord_still rfl rfl ?_; go_big_quiet_step (fail); refine wpQuiet_nil ?_)
  refine ord_mem rfl rfl ?_
  go_simp
  refine (H14 _).mono ?_
  rintro e w5 ⟨rfl, hb5⟩
  have HB5 : Hid (Below w0.heap.size w0 w5) := bnext HB4.out hb5
  clear hb5
  refine ⟨⟨⟨w5, HB5.out⟩, rfl⟩, ?_⟩
  refine ord_mem rfl rfl ?_
  go_simp
  refine (H15 _).mono ?_
  rintro e w6 ⟨rfl, hb6⟩
  have HB6 : Hid (Below w0.heap.size w0 w6) := bnext HB5.out hb6
  clear hb6
  refine ⟨⟨⟨w6, HB6.out⟩, rfl⟩, ?_⟩
  iterate 5 (refine ord_still rfl rfl ?_; go_big_quiet_step (fail); refine wpQuiet_nil ?_)
  refine ord_mem rfl rfl ?_
  go_simp
  refine (H16 _ (HV.out.below (bnext HB0.out HB6.out))).mono ?_
  rintro e w7 ⟨rfl, hb7⟩
  have HB7 : Hid (Below w0.heap.size w0 w7) := bnext HB6.out hb7
  clear hb7
  refine ⟨⟨⟨w7, HB7.out⟩, rfl⟩, ?_⟩
  refine ord_mem rfl rfl ?_
  go_simp
  refine (H17 _ (HV.out.below (bnext HB0.out HB7.out))).mono ?_
  rintro e w8 ⟨rfl, hb8⟩
  have HB8 : Hid (Below w0.heap.size w0 w8) := bnext HB7.out hb8
  clear hb8
  refine ⟨⟨⟨w8, HB8.out⟩, rfl⟩, ?_⟩
  iterate 5 (refine ord_still rfl rfl ?_; go_big_quiet_step (fail); refine wpQuiet_nil ?_)
  refine ord_mem rfl rfl ?_
  go_simp
  refine (sort_any _ l _ (HV.out.below (bnext HB0.out HB8.out)) (by omega)).mono ?_
  rintro e w9 ⟨v9, rfl, hown9, hb9⟩
  have HB9 : Hid (Below w0.heap.size w0 w9) := bnext HB8.out hb9
  have HO9 : Hid (RdS w9 v9 (sortS l)) := hown9.rd
  clear hb9 hown9
  refine ⟨⟨⟨w9, HB9.out⟩, rfl⟩, ?_⟩
  refine ord_mem rfl rfl ?_
  go_simp
  refine (refsort_any _ l _ (HV.out.below (bnext HB0.out HB9.out)) (by omega)).mono ?_
  rintro e w10 ⟨v10, rfl, hown10, hb10⟩
  have HB10 : Hid (Below w0.heap.size w0 w10) := bnext HB9.out hb10
  have HO10 : Hid (RdS w10 v10 (sortS l)) := hown10.rd
  have HO9' : Hid (RdS w10 v9 (sortS l)) := HO9.out.below hb10
  clear hb10 hown10
  refine ⟨⟨⟨w10, HB10.out⟩, rfl⟩, ?_⟩
  refine ord_mem rfl rfl ?_
  go_simp
  refine (refsame_any v9 v10 (sortS l) _ HO9'.out HO10.out).mono ?_
  rintro e w11 ⟨rfl, hb11⟩
  have HB11 : Hid (Below w0.heap.size w0 w11) := bnext HB10.out hb11
  clear hb11
  refine ⟨⟨⟨w11, HB11.out⟩, rfl⟩, ?_⟩
  iterate 2 (refine ord_still rfl rfl ?_; go_big_quiet_step (fail); refine wpQuiet_nil ?_)
  refine ord_mem rfl rfl ?_
  go_simp
  refine (alive_any _).mono ?_
  rintro e w12 ⟨rfl, hb12⟩
  have HB12 : Hid (Below w0.heap.size w0 w12) := bnext HB11.out hb12
  clear hb12
  refine ⟨⟨⟨w12, HB12.out⟩, rfl⟩, ?_⟩
  iterate 2 (refine ord_still rfl rfl ?_; go_big_quiet_step (fail); refine wpQuiet_nil ?_)
  refine ord_end ?_
  clear p0 p1 p2 p3 ne
  go_wp2
  go_ret
  exact ⟨rfl, bnext HB0.out HB12.out⟩

set_option maxHeartbeats 1000000 in
theorem orders_walk (a b : S) (v : Value) (l : List S) (w : World) (ha : SOk a) (hb : SOk b) (hv : RdS w v l) :
    Calls Try.prog 3 #[sv a, sv b, v] w fun e w' => e = .returned (.bool true) ∧ Below w.heap.size w w' := by
  by_cases hl : l.length ≤ 200
  · exact orders_core a b v l w hv hl
  · obtain ⟨av, cv, rfl⟩ := hv.len
    have hcap := hv.cap
    obtain ⟨a1, a2⟩ := a
    obtain ⟨b1, b2⟩ := b
    unfold sv
    clear hv ha hb
    go_enter Try.func3, Try.ntmps3
    go_wp2_with (go_at_call 9; refine (alive_any _).mono ?_; rintro e w5 ⟨rfl, hb5⟩)
    go_ret
    exact ⟨rfl, bnext (balloc (balloc (Below.refl _ _) _) _) hb5⟩
end Go.Proofs.Ytmifionpagpnfaa
