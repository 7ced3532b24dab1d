/-
  The walk of StampTotal: the order of stamps is one.
-/
import Derived.Test.YtmifionpagpnfaaMax
namespace Go.Proofs.Ytmifionpagpnfaa
set_option linter.unusedVariables false
open Go.RowKit

theorem below_undrewB {B : Nat} {w w' : World} (h : Below B w.drew w') : Below B w w' := ⟨h.os, h.tape, h.output, h.size, h.block⟩

theorem rdS_lit (w : World) (l : List S) (hl : l.length ≤ 1000) (hs : ∀ s ∈ l, SOk s) : RdS (w.alloc (.cells (csS l).toArray 23)) (.slice (some ⟨w.heap.size, 0, none⟩) l.length l.length) l := by
  refine ⟨hs, some ⟨w.heap.size, 0, none⟩, l.length, rfl, Nat.le_refl _, by unfold maxLen; omega, (fun h => by cases h), fun _ => ⟨w.heap.size, 0, rfl, fun j hj => ?_⟩⟩
  have X := blk_new w (csS l) 23
  have h := csS_at l j hj
  exact ⟨by simpa using X.cell (j * 2) _ h.1, by simpa using X.cell (j * 2 + 1) _ h.2⟩

theorem max3 (a b c : S) : maxS [c, a, b] = maxS [a, b, c] := by
  simp only [maxS, maxFrom]
  by_cases h1 : ltP a b <;> by_cases h2 : ltP c a <;> by_cases h3 : ltP b c <;> by_cases h4 : ltP a c <;> by_cases h5 : ltP c b <;> simp only [h1, h2, h3, h4, h5, if_true, if_false] <;>
    first
      | rfl
      | exact absurd (ltP_trans h1 h3) h4
      | exact absurd (ltP_trans h2 h1) h5
      | exact absurd (ltP_trans h2 h4) (ltP_irrefl _)
      | exact absurd (ltP_trans h5 h3) (ltP_irrefl _)
      | exact ltP_total h4 h2
      | exact ltP_total h2 h4
      | exact ltP_total h3 h5
      | exact ltP_total h5 h3
      | exact absurd (ltP_trans h4 h5) h1
      | exact absurd (by rw [ltP_total h4 h2]; exact h5) h1

theorem cmpS_trans {a b c : S} (h1 : cmpS a b ≤ 0) (h2 : cmpS b c ≤ 0) : cmpS a c ≤ 0 := by
  have h3 : ¬ ltP b a := fun h => by have := (cmpS_pos a b).2 h; omega
  have h4 : ¬ ltP c b := fun h => by have := (cmpS_pos b c).2 h; omega
  have h5 : ¬ ltP c a := fun h => by
    unfold ltP at h3 h4 h
    omega
  by_cases h : 0 < cmpS a c
  · exact absurd ((cmpS_pos a c).1 h) h5
  · omega

set_option maxHeartbeats 4000000 in
set_option maxRecDepth 20000 in
theorem total_walk (a b c : S) (w : World) (ha : SOk a) (hb : SOk b) (hc : SOk c) :
    Calls Try.prog 6 #[sv a, sv b, sv c] w fun e w' => e = .returned (.bool true) ∧ Below w.heap.size w w' := by
  have HA : Hid (SOk a) := ha
  have HB : Hid (SOk b) := hb
  have HC : Hid (SOk c) := hc
  have HM3 : Hid (maxS [c, a, b] = maxS [a, b, c]) := max3 a b c
  have HAB : Hid (∀ w', Calls Try.prog 14 #[sv a, sv b] w' fun e w'' => e = .returned (.int .i64 (cmpS a b)) ∧ Below w'.heap.size w' w'') := fun w' => (compare_any a b w').mono fun e w'' ⟨h1, h2⟩ => ⟨h1, grow_below h2⟩
  have HBA : Hid (∀ w', Calls Try.prog 14 #[sv b, sv a] w' fun e w'' => e = .returned (.int .i64 (-cmpS a b)) ∧ Below w'.heap.size w' w'') := fun w' => (compare_any b a w').mono fun e w'' ⟨h1, h2⟩ => ⟨by rw [h1, cmpS_turn b a], grow_below h2⟩
  have HBC : Hid (∀ w', Calls Try.prog 14 #[sv b, sv c] w' fun e w'' => e = .returned (.int .i64 (cmpS b c)) ∧ Below w'.heap.size w' w'') := fun w' => (compare_any b c w').mono fun e w'' ⟨h1, h2⟩ => ⟨h1, grow_below h2⟩
  have HAC : Hid (∀ w', Calls Try.prog 14 #[sv a, sv c] w' fun e w'' => e = .returned (.int .i64 (cmpS a c)) ∧ Below w'.heap.size w' w'') := fun w' => (compare_any a c w').mono fun e w'' ⟨h1, h2⟩ => ⟨h1, grow_below h2⟩
  have HLT : Hid (∀ w', Calls Try.prog 12 #[sv a, sv b] w' fun e w'' => e = .returned (.bool (decide (cmpS a b < 0))) ∧ Below w'.heap.size w' w'') := fun w' => (less_any a b w').mono fun e w'' ⟨h1, h2⟩ => ⟨by rw [h1]; congr 2; rw [decide_eq_decide]; exact (cmpS_neg a b).symm, h2⟩
  have HTR : Hid (cmpS a b ≤ 0 → cmpS b c ≤ 0 → cmpS a c ≤ 0) := cmpS_trans
  have hr1 := cmpS_range a b
  have hr2 := cmpS_range b c
  have hr3 := cmpS_range a c
  have HZ : Hid (cmpS a b = 0 ↔ a = b) := cmpS_zero a b
  generalize cmpS a b = r1 at *
  generalize cmpS b c = r2 at *
  generalize cmpS a c = r3 at *
  obtain ⟨a1, a2⟩ := a
  obtain ⟨b1, b2⟩ := b
  obtain ⟨c1, c2⟩ := c
  simp only [sv] at HAB HBA HBC HAC HLT ⊢
  obtain ⟨w1, hw1⟩ : ∃ w1, w1 = ((w.alloc (.cells #[.int .i64 a1, .int .i64 a2] 23)).alloc (.cells #[.int .i64 b1, .int .i64 b2] 23)).alloc (.cells #[.int .i64 c1, .int .i64 c2] 23) := ⟨_, rfl⟩
  have HXA : Hid (Blk w1 w.heap.size 23 [.int .i64 a1, .int .i64 a2]) := by show Blk _ _ _ _; rw [hw1]; exact ((blk_new w [.int .i64 a1, .int .i64 a2] 23).alloc _).alloc _
  have HXB : Hid (Blk w1 (w.heap.size + 1) 23 [.int .i64 b1, .int .i64 b2]) := by show Blk _ _ _ _; rw [hw1]; have := (blk_new (w.alloc (.cells #[.int .i64 a1, .int .i64 a2] 23)) [.int .i64 b1, .int .i64 b2] 23).alloc (.cells #[.int .i64 c1, .int .i64 c2] 23); simpa using this
  have HXC : Hid (Blk w1 (w.heap.size + 1 + 1) 23 [.int .i64 c1, .int .i64 c2]) := by show Blk _ _ _ _; rw [hw1]; have := blk_new ((w.alloc (.cells #[.int .i64 a1, .int .i64 a2] 23)).alloc (.cells #[.int .i64 b1, .int .i64 b2] 23)) [.int .i64 c1, .int .i64 c2] 23; simpa using this
  have HB1 : Hid (Below w.heap.size w w1) := by show Below _ _ _; rw [hw1]; exact balloc (balloc (balloc (Below.refl _ _) _) _) _
  go_enter Try.func6, Try.ntmps6
  go_upto_region 1 with fail
  rw [← hw1]
  obtain ⟨n0, hn0⟩ : ∃ n0, n0 = w.heap.size := ⟨_, rfl⟩
  rw [← hn0] at HXA HXB HXC ⊢
  clear hw1 hn0
  have p0 := fun z : WIn (fun w' => Below w1.heap.size w1 w') => (HXA.out.below z.ok).cell 0 _ rfl
  have p1 := fun z : WIn (fun w' => Below w1.heap.size w1 w') => (HXA.out.below z.ok).cell 1 _ rfl
  have p2 := fun z : WIn (fun w' => Below w1.heap.size w1 w') => (HXB.out.below z.ok).cell 0 _ rfl
  have p3 := fun z : WIn (fun w' => Below w1.heap.size w1 w') => (HXB.out.below z.ok).cell 1 _ rfl
  have p4 := fun z : WIn (fun w' => Below w1.heap.size w1 w') => (HXC.out.below z.ok).cell 0 _ rfl
  have p5 := fun z : WIn (fun w' => Below w1.heap.size w1 w') => (HXC.out.below z.ok).cell 1 _ rfl
  have ne : Nonempty (WIn (fun w' => Below w1.heap.size w1 w')) := ⟨⟨w1, Below.refl _ _⟩⟩
  refine wp_region_ord (C := fun w' => ∃ z : WIn (fun w' => Below w1.heap.size w1 w'), w' = z.w) [(false, 0), (false, 1), (false, 3), (false, 4), (true, 2), (true, 5), (false, 6), (false, 7)] (by kernel_rfl) (by kernel_rfl) ⟨⟨w1.drew, (Below.refl _ _).drew⟩, rfl⟩ ?_
  iterate 4 (refine ord_still rfl rfl ?_; go_big_quiet_step (fail); refine wpQuiet_nil ?_)
  refine ord_mem rfl rfl ?_
  go_simp
  refine (HAB.out _).mono ?_
  rintro e w2 ⟨rfl, hb2⟩
  have HB2 : Hid (Below w1.heap.size w1 w2) := below_undrew hb2
  clear hb2
  refine ⟨⟨⟨w2, HB2.out⟩, rfl⟩, ?_⟩
  refine ord_mem rfl rfl ?_
  go_simp
  refine (HBC.out _).mono ?_
  rintro e w3 ⟨rfl, hb3⟩
  have HB3 : Hid (Below w1.heap.size w1 w3) := bnext HB2.out hb3
  clear hb3
  refine ⟨⟨⟨w3, HB3.out⟩, rfl⟩, ?_⟩
  iterate 2 (refine ord_still rfl rfl ?_; go_big_quiet_step (fail); refine wpQuiet_nil ?_)
  refine ord_end ?_
  clear p0 p1 p2 p3 p4 p5 ne
  have a0 := (HXA.out.below HB3.out).cell 0 _ rfl
  have a1' := (HXA.out.below HB3.out).cell 1 _ rfl
  have b0 := (HXB.out.below HB3.out).cell 0 _ rfl
  have b1' := (HXB.out.below HB3.out).cell 1 _ rfl
  obtain ⟨m1, m2, hm3⟩ : ∃ m1 m2, maxS [(a1, a2), (b1, b2), (c1, c2)] = (m1, m2) := ⟨_, _, rfl⟩
  have HX1 : Hid (∀ (w0 w' : World) (n : Nat), n = w0.heap.size → Below (n + 1) (w0.alloc (.cells #[.int .i64 a1, .int .i64 a2, .int .i64 b1, .int .i64 b2, .int .i64 c1, .int .i64 c2] 23)) w' → Calls Try.prog 16 #[.slice (some ⟨n, 0, none⟩) 3 3] w' fun e w'' => e = .returned (.agg #[.int .i64 m1, .int .i64 m2]) ∧ Below w'.heap.size w' w'') := fun w0 w' n hn h => by
    subst hn
    have hr := rdS_lit w0 [(a1, a2), (b1, b2), (c1, c2)] (by simp) (fun s hs => by simp at hs; rcases hs with rfl | rfl | rfl <;> first | exact HA.out | exact HB.out | exact HC.out)
    have := max_any _ _ w' (hr.below (h.mono (by simp)))
    rw [hm3] at this
    exact this
  have HX2 : Hid (∀ (w0 w' : World) (n : Nat), n = w0.heap.size → Below (n + 1) (w0.alloc (.cells #[.int .i64 c1, .int .i64 c2, .int .i64 a1, .int .i64 a2, .int .i64 b1, .int .i64 b2] 23)) w' → Calls Try.prog 16 #[.slice (some ⟨n, 0, none⟩) 3 3] w' fun e w'' => e = .returned (.agg #[.int .i64 m1, .int .i64 m2]) ∧ Below w'.heap.size w' w'') := fun w0 w' n hn h => by
    subst hn
    have hr := rdS_lit w0 [(c1, c2), (a1, a2), (b1, b2)] (by simp) (fun s hs => by simp at hs; rcases hs with rfl | rfl | rfl <;> first | exact HA.out | exact HB.out | exact HC.out)
    have := max_any _ _ w' (hr.below (h.mono (by simp)))
    rw [HM3.out, hm3] at this
    exact this
  clear hm3 HM3 HA HB HC
  have hcase : (a1 = b1 ∧ a2 = b2 ∧ r1 = 0) ∨ (¬ a1 = b1 ∧ ¬ r1 = 0) ∨ (a1 = b1 ∧ ¬ a2 = b2 ∧ ¬ r1 = 0) := by
    have hz := HZ.out
    simp only [Prod.mk.injEq] at hz
    omega
  clear HZ
  have hcase2 : r1 ≤ 0 ∧ r2 ≤ 0 ∧ r3 ≤ 0 ∨ r1 ≤ 0 ∧ ¬ r2 ≤ 0 ∨ ¬ r1 ≤ 0 := by have := HTR.out; omega
  clear HTR
  have HNX : Hid (∀ w', Below w3.heap.size w3 w' → Blk w' n0 23 [.int .i64 a1, .int .i64 a2] ∧ Blk w' (n0 + 1) 23 [.int .i64 b1, .int .i64 b2] ∧ Blk w' (n0 + 1 + 1) 23 [.int .i64 c1, .int .i64 c2]) := fun w' h => ⟨(HXA.out.below HB3.out).below h, (HXB.out.below HB3.out).below h, (HXC.out.below HB3.out).below h⟩
  go_upto_region 2 with fail
  go_cut [36] (fun p wx => p = .bool false ∧ Hid (Below w3.heap.size w3 wx))
  case first =>
    rcases hcase with ⟨rfl, rfl, rfl⟩ | ⟨h1, h2⟩ | ⟨rfl, h1, h2⟩
    case' inl =>
      have k1 : ((0 : Int) == 0) = true := rfl
    case' inr.inl =>
      have k1 : (a1 == b1) = false := by simpa using h1
      have k2 : (r1 == 0) = false := by simpa using h2
    case' inr.inr =>
      have k1 : (a2 == b2) = false := by simpa using h1
      have k2 : (r1 == 0) = false := by simpa using h2
    all_goals
      have tk : Hid True := trivial
      go_wp2_with (first
        | (go_at_call 14; have _t := tk; refine (HBA.out _).mono ?_; rintro e w4 ⟨rfl, hb4⟩
           have HB4 : Hid (Below w3.heap.size w3 w4) := hb4
           have a0 := (HNX.out w4 hb4).1.cell 0 _ rfl
           have a1' := (HNX.out w4 hb4).1.cell 1 _ rfl
           have b0 := (HNX.out w4 hb4).2.1.cell 0 _ rfl
           have b1' := (HNX.out w4 hb4).2.1.cell 1 _ rfl
           clear hb4 tk _t)
        | (go_at_call 12; refine (HLT.out _).mono ?_; rintro e w5 ⟨rfl, hb5⟩))
      go_meet
      exact ⟨rfl, bnext HB4.out hb5⟩
  case rest =>
  obtain ⟨rfl, HB5⟩ := hcut
  clear hcase a0 a1' b0 b1'
  have c0 := (HNX.out wc HB5.out).1.cell 0 _ rfl
  have c1' := (HNX.out wc HB5.out).1.cell 1 _ rfl
  have d0 := (HNX.out wc HB5.out).2.2.cell 0 _ rfl
  have d1' := (HNX.out wc HB5.out).2.2.cell 1 _ rfl
  go_upto_region 4 with fail
  obtain ⟨w5, hw5⟩ : ∃ w5, w5 = wc := ⟨_, rfl⟩
  subst hw5
  go_cut [48] (fun p wx => p = .bool false ∧ Hid (Below w3.heap.size w3 wx))
  case first =>
    rcases hcase2 with ⟨u1, u2, u3⟩ | ⟨u1, u2⟩ | u1
    · go_wp2_with (go_at_call 14; refine (HAC.out _).mono ?_; rintro e w6 ⟨rfl, hb6⟩)
      go_meet
      exact ⟨by rw [decide_eq_false (by omega)], bnext HB5.out hb6⟩
    · go_wp2
      go_meet
      exact ⟨rfl, HB5⟩
    · go_wp2
      go_meet
      exact ⟨rfl, HB5⟩
  case rest =>
  obtain ⟨rfl, HB6⟩ := hcut
  go_upto_region 6 with fail
  obtain ⟨w6, hw6⟩ : ∃ w6, w6 = wc := ⟨_, rfl⟩
  subst hw6
  clear HAB HBA HBC HAC HLT c0 c1' d0 d1' HB5 hcase2
  have p0 := fun z : WIn (fun w' => Below w6.heap.size w6 w') => (HNX.out z.w (bnext HB6.out z.ok)).1.cell 0 _ rfl
  have p1 := fun z : WIn (fun w' => Below w6.heap.size w6 w') => (HNX.out z.w (bnext HB6.out z.ok)).1.cell 1 _ rfl
  have p2 := fun z : WIn (fun w' => Below w6.heap.size w6 w') => (HNX.out z.w (bnext HB6.out z.ok)).2.1.cell 0 _ rfl
  have p3 := fun z : WIn (fun w' => Below w6.heap.size w6 w') => (HNX.out z.w (bnext HB6.out z.ok)).2.1.cell 1 _ rfl
  have p4 := fun z : WIn (fun w' => Below w6.heap.size w6 w') => (HNX.out z.w (bnext HB6.out z.ok)).2.2.cell 0 _ rfl
  have p5 := fun z : WIn (fun w' => Below w6.heap.size w6 w') => (HNX.out z.w (bnext HB6.out z.ok)).2.2.cell 1 _ rfl
  have ne : Nonempty (WIn (fun w' => Below w6.heap.size w6 w')) := ⟨⟨w6, Below.refl _ _⟩⟩
  refine wp_region_tree (C := fun w' => ∃ z : WIn (fun w' => Below w6.heap.size w6 w'), w' = z.w)
    (.still 0 (.still 1 (.still 2 (.still 5 (.still 6 (.still 7 (.two 3 (.two 4 (.one 8 (.one 9 (.still 10 (.still 11 (.one 12 (.still 13 (.still 14 .done))))))) 8 (.one 4 (.one 9 (.still 10 (.still 11 (.one 12 (.still 13 (.still 14 .done)))))))) 8 (.one 3 (.one 4 (.one 9 (.still 10 (.still 11 (.one 12 (.still 13 (.still 14 .done)))))))))))))))
    (by kernel_rfl) (by kernel_rfl) ⟨⟨w6.drew, (Below.refl _ _).drew⟩, rfl⟩ ?_
  iterate 6 (refine tree_still rfl rfl ?_; go_big_quiet_step (fail); refine wpQuiet_nil ?_)
  refine tree_two rfl rfl rfl rfl ?_ ?_
  · go_simp
    refine ⟨⟨⟨_, (balloc (Below.refl _ _) _).drew⟩, rfl⟩, ?_⟩
    refine tree_two rfl rfl rfl rfl ?_ ?_
    · go_simp
      refine (HX1.out w6 _ w6.heap.size rfl ((Below.refl _ _).drew)).mono ?_
      rintro e w8 ⟨rfl, hb8⟩
      have HB8 : Hid (Below w6.heap.size w6 w8) := bnext (balloc (Below.refl _ _) _).drew hb8
      clear hb8
      refine ⟨⟨⟨w8, HB8.out⟩, rfl⟩, ?_⟩
      refine tree_one rfl rfl ?_
      go_simp
      refine ⟨⟨⟨_, balloc HB8.out _⟩, rfl⟩, ?_⟩
      refine tree_one rfl rfl ?_
      go_simp
      refine (HX2.out w8 _ w8.heap.size rfl (Below.refl _ _)).mono ?_
      rintro e w9 ⟨rfl, hb9⟩
      have HBE : Hid (Below w6.heap.size w6 w9) := bnext (balloc HB8.out _) hb9
      clear hb9
      refine ⟨⟨⟨w9, HBE.out⟩, rfl⟩, ?_⟩
      iterate 2 (refine tree_still rfl rfl ?_; go_big_quiet_step (fail); refine wpQuiet_nil ?_)
      refine tree_one rfl rfl ?_
      go_simp
      refine (alive_any _).mono ?_
      rintro e wf ⟨rfl, hbf⟩
      have HBF : Hid (Below w6.heap.size w6 wf) := bnext HBE.out hbf
      clear hbf
      refine ⟨⟨⟨wf, HBF.out⟩, rfl⟩, ?_⟩
      iterate 2 (refine tree_still rfl rfl ?_; go_big_quiet_step (fail); refine wpQuiet_nil ?_)
      refine tree_done ?_
      clear p0 p1 p2 p3 p4 p5 ne
      go_wp2
      go_ret
      exact ⟨rfl, bnext (bnext (bnext HB1.out HB3.out) HB6.out) HBF.out⟩
    · go_simp
      refine ⟨⟨⟨_, (balloc (balloc (Below.refl _ _) _) _).drew⟩, rfl⟩, ?_⟩
      refine tree_one rfl rfl ?_
      go_simp
      refine (HX1.out w6 _ w6.heap.size rfl ((Below.refl _ _).alloc (by simp) _).drew).mono ?_
      rintro e w8 ⟨rfl, hb8⟩
      have HB8 : Hid (Below w6.heap.size w6 w8) := bnext (balloc (balloc (Below.refl _ _) _) _).drew hb8
      refine ⟨⟨⟨w8, HB8.out⟩, rfl⟩, ?_⟩
      have hM := HX2.out (w6.alloc _) w8 (w6.heap.size + 1) (by simp) ((below_undrewB hb8).mono (by simp))
      clear hb8
      refine tree_one rfl rfl ?_
      go_simp
      refine hM.mono ?_
      rintro e w9 ⟨rfl, hb9⟩
      have HBE : Hid (Below w6.heap.size w6 w9) := bnext HB8.out hb9
      clear hb9 hM
      refine ⟨⟨⟨w9, HBE.out⟩, rfl⟩, ?_⟩
      iterate 2 (refine tree_still rfl rfl ?_; go_big_quiet_step (fail); refine wpQuiet_nil ?_)
      refine tree_one rfl rfl ?_
      go_simp
      refine (alive_any _).mono ?_
      rintro e wf ⟨rfl, hbf⟩
      have HBF : Hid (Below w6.heap.size w6 wf) := bnext HBE.out hbf
      clear hbf
      refine ⟨⟨⟨wf, HBF.out⟩, rfl⟩, ?_⟩
      iterate 2 (refine tree_still rfl rfl ?_; go_big_quiet_step (fail); refine wpQuiet_nil ?_)
      refine tree_done ?_
      clear p0 p1 p2 p3 p4 p5 ne
      go_wp2
      go_ret
      exact ⟨rfl, bnext (bnext (bnext HB1.out HB3.out) HB6.out) HBF.out⟩
  · go_simp
    refine ⟨⟨⟨_, (balloc (Below.refl _ _) _).drew⟩, rfl⟩, ?_⟩
    refine tree_one rfl rfl ?_
    go_simp
    refine ⟨⟨⟨_, (balloc (balloc (Below.refl _ _) _) _).drew⟩, rfl⟩, ?_⟩
    have hM := fun w' h => HX1.out (w6.alloc (.cells #[.int .i64 c1, .int .i64 c2, .int .i64 a1, .int .i64 a2, .int .i64 b1, .int .i64 b2] 23)) w' (w6.heap.size + 1) (by simp) h
    refine tree_one rfl rfl ?_
    go_simp
    refine (hM _ (Below.refl _ _).drew).mono ?_
    rintro e w8 ⟨rfl, hb8⟩
    have HB8 : Hid (Below w6.heap.size w6 w8) := bnext (balloc (balloc (Below.refl _ _) _) _).drew hb8
    refine ⟨⟨⟨w8, HB8.out⟩, rfl⟩, ?_⟩
    refine tree_one rfl rfl ?_
    go_simp
    refine (HX2.out w6 _ w6.heap.size rfl ((((Below.refl _ _).alloc (by simp) _).drew).trans (hb8.mono (by simp)))).mono ?_
    rintro e w9 ⟨rfl, hb9⟩
    have HBE : Hid (Below w6.heap.size w6 w9) := bnext HB8.out hb9
    clear hb9 hb8 hM
    refine ⟨⟨⟨w9, HBE.out⟩, rfl⟩, ?_⟩
    iterate 2 (refine tree_still rfl rfl ?_; go_big_quiet_step (fail); refine wpQuiet_nil ?_)
    refine tree_one rfl rfl ?_
    go_simp
    refine (alive_any _).mono ?_
    rintro e wf ⟨rfl, hbf⟩
    have HBF : Hid (Below w6.heap.size w6 wf) := bnext HBE.out hbf
    clear hbf
    refine ⟨⟨⟨wf, HBF.out⟩, rfl⟩, ?_⟩
    iterate 2 (refine tree_still rfl rfl ?_; go_big_quiet_step (fail); refine wpQuiet_nil ?_)
    refine tree_done ?_
    clear p0 p1 p2 p3 p4 p5 ne
    go_wp2
    go_ret
    exact ⟨rfl, bnext (bnext (bnext HB1.out HB3.out) HB6.out) HBF.out⟩
end Go.Proofs.Ytmifionpagpnfaa
