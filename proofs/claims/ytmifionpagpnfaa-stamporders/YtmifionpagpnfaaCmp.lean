/-
  The functions that compare stamps, and those that tell which are right.
-/
import Derived.Test.YtmifionpagpnfaaMem
import Derived.Test.YtmifionpagpnfaaHeads
import Derived.Deep.RegionWith
import Derived.Deep.DeepCutAuto
import Derived.BigQuiet
namespace Go.Proofs.Ytmifionpagpnfaa
set_option linter.unusedVariables false
open Go.RowKit


theorem nan64 (x : Int) (w : World) : Calls Try.prog 52 #[.int .i64 x] w fun e w' => e = .returned (.bool false) ∧ w' = w := by
  go_enter Try.func52, Try.ntmps52
  go_wp2
  go_ret
  simp
theorem nanI (x : Int) (w : World) : Calls Try.prog 53 #[.int .i64 x] w fun e w' => e = .returned (.bool false) ∧ w' = w := by
  go_enter Try.func53, Try.ntmps53
  go_wp2
  go_ret
  simp

theorem cmp64 (x y : Int) (w : World) : Calls Try.prog 36 #[.int .i64 x, .int .i64 y] w fun e w' => e = .returned (.int .i64 (cmpI x y)) ∧ w' = w := by
  go_enter Try.func36, Try.ntmps36
  go_wp2_with (go_at_call 52; refine (nan64 _ _).mono ?_; rintro e w' ⟨rfl, rfl⟩)
  all_goals
    go_ret
    refine ⟨?_, rfl⟩
    unfold cmpI
    simp [*] <;> omega
theorem cmpInt (x y : Int) (w : World) : Calls Try.prog 37 #[.int .i64 x, .int .i64 y] w fun e w' => e = .returned (.int .i64 (cmpI x y)) ∧ w' = w := by
  go_enter Try.func37, Try.ntmps37
  go_wp2_with (go_at_call 53; refine (nanI _ _).mono ?_; rintro e w' ⟨rfl, rfl⟩)
  all_goals
    go_ret
    refine ⟨?_, rfl⟩
    unfold cmpI
    simp [*] <;> omega

/-- cmp.Or of two. -/
def orI (x y : Int) : Int := if x = 0 then y else x
theorem or_any (w : World) (b : Nat) (x y : Int) (h0 : w.cell? ⟨b, 0, none⟩ = some (.int .i64 x)) (h1 : w.cell? ⟨b, 1, none⟩ = some (.int .i64 y)) :
    Calls Try.prog 35 #[.slice (some ⟨b, 0, none⟩) 2 2] w fun e w' => e = .returned (.int .i64 (orI x y)) ∧ w' = w := by
  by_cases hx : x = 0
  · subst hx
    by_cases hy : y = 0
    · subst hy
      go_enter Try.func35, Try.ntmps35
      go_wp2
      refine wp_loop_rounds 3 ?_
      rw [rounds_succ]
      go_wp2
      rw [rounds_succ]
      go_wp2
      rw [rounds_succ]
      go_wp2
      go_ret
      simp [orI]
    · have hy' : (y != 0) = true := by simpa using hy
      go_enter Try.func35, Try.ntmps35
      go_wp2
      refine wp_loop_rounds 3 ?_
      rw [rounds_succ]
      go_wp2
      rw [rounds_succ]
      go_wp2
      go_ret
      simp [orI]
  · have hx' : (x != 0) = true := by simpa using hx
    go_enter Try.func35, Try.ntmps35
    go_wp2
    refine wp_loop_rounds 3 ?_
    rw [rounds_succ]
    go_wp2
    go_ret
    simp [orI, hx]

theorem grown3 (w : World) (o1 o2 o3 : Obj) (n : Nat) : (((w.alloc o1).alloc o2).drewN n).alloc o3 = Sort.grow (w.drewN n) (#[o1] ++ #[o2] ++ #[o3]) := by
  rw [Sort.alloc_eq_grow, Sort.alloc_eq_grow (w.alloc o1), Sort.alloc_eq_grow w, Sort.grow_grow]
  change Sort.grow (Sort.grow (w.drewN n) _) _ = _
  rw [Sort.grow_grow]

set_option maxHeartbeats 1000000 in
set_option maxRecDepth 20000 in
theorem compare_any (a b : S) (w : World) : Calls Try.prog 14 #[sv a, sv b] w fun e w' => e = .returned (.int .i64 (cmpS a b)) ∧ ∃ q os', w' = Sort.grow (w.drewN q) os' := by
  obtain ⟨a1, a2⟩ := a
  obtain ⟨b1, b2⟩ := b
  unfold sv
  rw [cmpS_parts]
  change Calls _ _ _ _ fun e w' => e = .returned (.int .i64 (orI (cmpI a1 b1) (cmpI a2 b2))) ∧ _
  go_enter Try.func14, Try.ntmps14
  go_upto_region 1 with fail
  refine wp_region_three (C := fun v => ∃ n, v = ((w.alloc (Obj.cells #[Value.int IntKind.i64 a1, Value.int IntKind.i64 a2] 23)).alloc (Obj.cells #[Value.int IntKind.i64 b1, Value.int IntKind.i64 b2] 23)).drewN n) 10 (by kernel_rfl) (by kernel_rfl) rfl rfl ⟨1, rfl⟩ ?_
  simp only [List.take_succ_cons, List.take_zero, List.drop_succ_cons, List.drop_zero, Nat.reduceAdd]
  repeat (go_big_quiet_step (first
    | (go_at_call 36; exact Calls.quiet_of_same (cmp64 _ _ _))
    | (go_at_call 37; exact Calls.quiet_of_same (cmpInt _ _ _))))
  refine wpQuiet_nil ?_
  intro w1 hw1
  obtain ⟨n, hn⟩ := hw1
  subst hn
  go_simp
  go_big_quiet_want
  go_big_quiet_op
  refine ⟨_, or_any _ (w.heap.size + 1 + 1) (cmpI a1 b1) (cmpI a2 b2) (by go_simp) (by go_simp), ?_⟩
  go_big_quiet_on
  repeat (go_big_quiet_step (fail))
  refine wpQuiet_nil ?_
  go_wp2
  go_ret
  exact ⟨rfl, n, _, grown3 _ _ _ _ _⟩

theorem less_any (a b : S) (w : World) : Calls Try.prog 12 #[sv a, sv b] w fun e w' => e = .returned (.bool (decide (ltP a b))) ∧ Below w.heap.size w w' := by
  have hd : (decide (cmpS a b < 0)) = decide (ltP a b) := by rw [decide_eq_decide]; exact cmpS_neg a b
  have hc := fun w' => compare_any a b w'
  have hr := cmpS_range a b
  generalize cmpS a b = r at hc hd hr
  rw [← hd]
  obtain ⟨a1, a2⟩ := a
  obtain ⟨b1, b2⟩ := b
  unfold sv at hc ⊢
  clear hd
  go_enter Try.func12, Try.ntmps12
  go_wp2_with (go_at_call 14; refine (hc _).mono ?_; rintro e w1 ⟨rfl, hg⟩; have hb := grow_below hg; clear hg)
  all_goals
    go_ret
    exact ⟨by simp [*], (balloc (balloc (Below.refl _ w) _) _).trans (hb.mono (by simp; omega))⟩

theorem writer_any (x : Int) (w : World) : Calls Try.prog 34 #[.int .i64 x] w fun e w' => e = .returned (.bool (decide (0 ≤ x ∧ x ≤ 7))) ∧ w' = w := by
  go_enter Try.func34, Try.ntmps34
  go_wp2
  all_goals
    go_ret
    refine ⟨ret_bool ?_, rfl⟩
    (try simp only [Bool.and_eq_true, decide_eq_true_eq, Bool.false_eq_true, false_iff]); omega

theorem right_any (s : S) (w : World) : Calls Try.prog 10 #[sv s] w fun e w' => e = .returned (.bool (decide (rightP s))) ∧ Below w.heap.size w w' := by
  obtain ⟨a1, a2⟩ := s
  have HR : Hid (decide (rightP (a1, a2)) = true ↔ (1 ≤ a1 ∧ a1 ≤ 1099511627776 ∧ 0 ≤ a2 ∧ a2 ≤ 7)) := (decide_eq_true_iff : _ ↔ rightP (a1, a2))
  generalize decide (rightP (a1, a2)) = p at HR ⊢
  unfold sv
  go_enter Try.func10, Try.ntmps10
  go_wp2_with (go_at_call 34; refine (writer_any _ _).mono ?_; rintro e w1 ⟨rfl, rfl⟩)
  all_goals
    go_ret
    refine ⟨ret_bool ?_, balloc (Below.refl _ w) _⟩
    rw [HR.out]
    (try simp only [Bool.and_eq_true, decide_eq_true_eq, Bool.false_eq_true, false_iff]); omega

theorem refright_any (s : S) (w : World) : Calls Try.prog 11 #[sv s] w fun e w' => e = .returned (.bool (decide (rightP s))) ∧ Below w.heap.size w w' := by
  obtain ⟨a1, a2⟩ := s
  have HR : Hid (decide (rightP (a1, a2)) = true ↔ (1 ≤ a1 ∧ a1 ≤ 1099511627776 ∧ 0 ≤ a2 ∧ a2 ≤ 7)) := (decide_eq_true_iff : _ ↔ rightP (a1, a2))
  generalize decide (rightP (a1, a2)) = p at HR ⊢
  unfold sv
  go_enter Try.func11, Try.ntmps11
  go_wp2
  all_goals
    go_ret
    refine ⟨ret_bool ?_, balloc (Below.refl _ w) _⟩
    rw [HR.out]
    (try simp only [decide_eq_true_eq, Bool.false_eq_true, false_iff]); omega

theorem refless_any (a b : S) (w : World) : Calls Try.prog 13 #[sv a, sv b] w fun e w' => e = .returned (.bool (decide (ltP a b))) ∧ Below w.heap.size w w' := by
  obtain ⟨a1, a2⟩ := a
  obtain ⟨b1, b2⟩ := b
  have HR : Hid (decide (ltP (a1, a2) (b1, b2)) = true ↔ (a1 < b1 ∨ a1 = b1 ∧ a2 < b2)) := (decide_eq_true_iff : _ ↔ ltP (a1, a2) (b1, b2))
  generalize decide (ltP (a1, a2) (b1, b2)) = p at HR ⊢
  unfold sv
  go_enter Try.func13, Try.ntmps13
  go_wp2
  all_goals
    go_ret
    refine ⟨ret_bool ?_, balloc (balloc (Below.refl _ w) _) _⟩
    rw [HR.out]
    (try simp only [decide_eq_true_eq, true_iff]); omega

set_option maxHeartbeats 1000000 in
theorem refcompare_any (a b : S) (w : World) : Calls Try.prog 15 #[sv a, sv b] w fun e w' => e = .returned (.int .i64 (cmpS a b)) ∧ Below w.heap.size w w' := by
  have h1 := fun w' => refless_any a b w'
  have h2 := fun w' => refless_any b a w'
  unfold cmpS
  obtain ⟨a1, a2⟩ := a
  obtain ⟨b1, b2⟩ := b
  by_cases c1 : ltP (a1, a2) (b1, b2)
  · rw [if_pos c1]
    rw [decide_eq_true c1] at h1
    clear h2 c1
    unfold sv at h1 ⊢
    go_enter Try.func15, Try.ntmps15
    go_wp2_with (go_at_call 13; refine (h1 _).mono ?_; rintro e w1 ⟨rfl, hb⟩)
    go_ret
    exact ⟨rfl, (balloc (balloc (Below.refl _ w) _) _).trans (hb.mono (by simp; omega))⟩
  · rw [if_neg c1]
    rw [decide_eq_false c1] at h1
    have H1 : Hid _ := h1
    clear c1 h1
    by_cases c2 : ltP (b1, b2) (a1, a2)
    all_goals
      first
        | rw [if_pos c2]
        | rw [if_neg c2]
      first
        | rw [decide_eq_true c2] at h2
        | rw [decide_eq_false c2] at h2
      have H2 : Hid _ := h2
      have tk : Hid True := trivial
      clear c2 h2
      unfold sv at H1 H2 ⊢
      go_enter Try.func15, Try.ntmps15
      go_wp2_with (first
        | (go_at_call 13; have _t := tk; refine (H1.out _).mono ?_; rintro e w1 ⟨rfl, hb⟩
           have X := ((blk_new w [.int .i64 a1, .int .i64 a2] 23).alloc (.cells #[.int .i64 b1, .int .i64 b2] 23)).below hb
           have Y := (blk_new (w.alloc (.cells #[.int .i64 a1, .int .i64 a2] 23)) [.int .i64 b1, .int .i64 b2] 23).below hb
           have x0 := X.cell 0 _ rfl
           have x1 := X.cell 1 _ rfl
           have y0 := Y.cell 0 _ rfl
           have y1 := Y.cell 1 _ rfl
           rw [show (w.alloc (.cells #[.int .i64 a1, .int .i64 a2] 23)).heap.size = w.heap.size + 1 by simp] at y0 y1
           clear X Y tk _t)
        | (go_at_call 13; refine (H2.out _).mono ?_; rintro e w2 ⟨rfl, hb2⟩))
      go_ret
      exact ⟨rfl, bnext ((balloc (balloc (Below.refl _ w) _) _).trans (hb.mono (by simp; omega))) hb2⟩
end Go.Proofs.Ytmifionpagpnfaa
