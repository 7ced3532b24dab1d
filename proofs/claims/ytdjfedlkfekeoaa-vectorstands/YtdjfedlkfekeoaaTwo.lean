/-
  What the program answers of two vectors: Compare, Missing, Conflict, Merge.
-/
import Derived.Test.YtdjfedlkfekeoaaClos
import Derived.Deep.QuietTactic
import Derived.BigQuiet
namespace Go.Proofs.Ytdjfedlkfekeoaa
set_option linter.unusedVariables false
set_option linter.unusedSimpArgs false
open Go.RowKit

theorem enter38 : ∀ args w, (callFunc 38 args).run Try.prog w = .ok (.enter 38 args) w := Go.Proofs.enters_of Try.func38 (by kernel_rfl) rfl
theorem enter39 : ∀ args w, (callFunc 39 args).run Try.prog w = .ok (.enter 39 args) w := Go.Proofs.enters_of Try.func39 (by kernel_rfl) rfl
theorem enter40 : ∀ args w, (callFunc 40 args).run Try.prog w = .ok (.enter 40 args) w := Go.Proofs.enters_of Try.func40 (by kernel_rfl) rfl
theorem enter41 : ∀ args w, (callFunc 41 args).run Try.prog w = .ok (.enter 41 args) w := Go.Proofs.enters_of Try.func41 (by kernel_rfl) rfl

theorem blk_new' (w : World) (c : List Value) (e : TypeId) (b : Nat) (hb : b = w.heap.size) : Blk (w.alloc (.cells c.toArray e)) b e c := by
  subst hb
  exact blk_new w c e
theorem notboth {a b : List H} (h : ¬ (RightV a ∧ RightV b)) : (rightB a && rightB b) = false := by
  cases e : (rightB a && rightB b) with
  | false => rfl
  | true =>
    rw [Bool.and_eq_true] at e
    exact absurd ⟨rightB_iff.1 e.1, rightB_iff.1 e.2⟩ h
theorem both_t {a b : List H} (ra : RightV a) (rb : RightV b) : (rightB a && rightB b) = true := by rw [rightB_true ra, rightB_true rb]; rfl

set_option maxHeartbeats 1000000 in
set_option maxRecDepth 20000 in
theorem compare_any (va vb : Value) (a b : List H) (w : World) (ha : RdH w va a) (hb : RdH w vb b) :
    Calls Try.prog 22 #[va, vb] w fun e w' => e = .returned (.int .i64 (cmpV a b)) ∧ Below w.heap.size w w' := by
  have hA := fun w' h => rightV_any va a w' h
  have hB := fun w' h => rightV_any vb b w' h
  have HA : Hid (RdH w va a) := ha
  have HB : Hid (RdH w vb b) := hb
  have tk : Hid True := trivial
  by_cases hr : RightV a ∧ RightV b
  · obtain ⟨ra, rb⟩ := hr
    have HC : Hid (cmpV a b = standV (moreTo a b 8) (moreTo b a 8)) := by show cmpV a b = _; unfold cmpV; rw [both_t ra rb]; rfl
    rw [rightB_true ra] at hA
    rw [rightB_true rb] at hB
    have HF : Hid (∀ (W : World) (bm bl : Nat), bm ≠ bl → w.heap.size ≤ bm → w.heap.size ≤ bl → Below w.heap.size w W → Blk W bm 4 [.bool false] → Blk W bl 4 [.bool false] →
        Calls Try.prog 37 #[va, vb, .func (.func 40) #[] #[ptr bm, ptr bl]] W fun e w' => e = .returned (.tuple #[]) ∧ Below w.heap.size w w' ∧ Blk w' bm 4 [.bool (moreTo a b 8)] ∧ Blk w' bl 4 [.bool (moreTo b a 8)]) := fun W bm bl h1 h2 h3 h4 h5 h6 =>
      both_any w va vb a b ha hb ra rb 40 _ _ enter40 (cmp_rounds w a b ra rb bm bl h1 h2 h3) W ⟨h4, h5, h6⟩
    rw [HC.out]
    generalize moreTo a b 8 = m at HF
    generalize moreTo b a 8 = l at HF
    obtain ⟨av, ca, rfl⟩ := ha.len
    obtain ⟨bv, cb, rfl⟩ := hb.len
    clear ha hb ra rb HC
    cases m <;> cases l
    all_goals
      go_enter Try.func22, Try.ntmps22
      go_wp2_with (first
        | (go_at_call 13; have _t := tk; refine (hA _ HA.out).mono ?_; rintro e w1 ⟨rfl, hb1⟩; clear tk _t)
        | (go_at_call 13; refine (hB _ (HB.out.below hb1)).mono ?_; rintro e w2 ⟨rfl, hb2⟩)
        | (go_at_call 37; refine (HF.out _ w2.heap.size (w2.heap.size + 1) (by omega) (bnext hb1 hb2).size (by have := (bnext hb1 hb2).size; omega) (balloc (balloc (bnext hb1 hb2) _) _) ((blk_new w2 [.bool false] 4).alloc _) (blk_new' (w2.alloc (.cells #[.bool false] 4)) [.bool false] 4 _ (by simp))).mono ?_; rintro e w3 ⟨rfl, hb3, X, Y⟩
           have x0 := X.cell 0 _ rfl
           have y0 := Y.cell 0 _ rfl
           clear X Y))
      go_ret
      exact ⟨rfl, hb3⟩
  · have HC : Hid (cmpV a b = 3) := by show cmpV a b = _; unfold cmpV; rw [notboth hr]; rfl
    rw [HC.out]
    obtain ⟨av, ca, rfl⟩ := ha.len
    obtain ⟨bv, cb, rfl⟩ := hb.len
    by_cases ra : RightV a
    · have rb : ¬ RightV b := fun h => hr ⟨ra, h⟩
      rw [rightB_true ra] at hA
      rw [rightB_false rb] at hB
      clear ha hb ra rb HC hr
      go_enter Try.func22, Try.ntmps22
      go_wp2_with (first
        | (go_at_call 13; have _t := tk; refine (hA _ HA.out).mono ?_; rintro e w1 ⟨rfl, hb1⟩; clear tk _t)
        | (go_at_call 13; refine (hB _ (HB.out.below hb1)).mono ?_; rintro e w2 ⟨rfl, hb2⟩))
      go_ret
      exact ⟨rfl, bnext hb1 hb2⟩
    · rw [rightB_false ra] at hA
      clear ha hb ra HC hr
      go_enter Try.func22, Try.ntmps22
      go_wp2_with (first
        | (go_at_call 13; refine (hA _ HA.out).mono ?_; rintro e w1 ⟨rfl, hb1⟩))
      go_ret
      exact ⟨rfl, hb1⟩

set_option maxHeartbeats 1000000 in
set_option maxRecDepth 20000 in
theorem missing_any (va vb : Value) (a b : List H) (w : World) (ha : RdH w va a) (hb : RdH w vb b) :
    Calls Try.prog 24 #[va, vb] w fun e w' => ∃ v', e = .returned v' ∧ OwnH w.heap.size w' v' (missV a b) ∧ Below w.heap.size w w' := by
  have hA := fun w' h => rightV_any va a w' h
  have hB := fun w' h => rightV_any vb b w' h
  have HA : Hid (RdH w va a) := ha
  have HB : Hid (RdH w vb b) := hb
  have tk : Hid True := trivial
  by_cases hr : RightV a ∧ RightV b
  · obtain ⟨ra, rb⟩ := hr
    have HC : Hid (missV a b = missTo a b 8) := by show missV a b = _; unfold missV; rw [both_t ra rb]; rfl
    rw [rightB_true ra] at hA
    rw [rightB_true rb] at hB
    have HF : Hid (∀ (W : World) (bo : Nat), w.heap.size ≤ bo → Below w.heap.size w W → Blk W bo 22 [.slice none 0 0] →
        Calls Try.prog 37 #[va, vb, .func (.func 41) #[] #[ptr bo]] W fun e w' => e = .returned (.tuple #[]) ∧ Below w.heap.size w w' ∧ ∃ v, Blk w' bo 22 [v] ∧ OwnH (bo + 1) w' v (missTo a b 8)) := fun W bo h2 h4 h5 =>
      both_any w va vb a b ha hb ra rb 41 _ _ enter41 (miss_rounds w a b ra rb hb.1 bo h2) W ⟨h4, _, h5, ownH_nil _ _⟩
    rw [HC.out]
    generalize missTo a b 8 = m at HF
    obtain ⟨av, ca, rfl⟩ := ha.len
    obtain ⟨bv, cb, rfl⟩ := hb.len
    clear ha hb ra rb HC
    go_enter Try.func24, Try.ntmps24
    go_wp2_with (first
        | (go_at_call 13; have _t := tk; refine (hA _ HA.out).mono ?_; rintro e w1 ⟨rfl, hb1⟩; clear tk _t)
        | (go_at_call 13; refine (hB _ (HB.out.below hb1)).mono ?_; rintro e w2 ⟨rfl, hb2⟩)
        | (go_at_call 37; refine (HF.out _ w2.heap.size (bnext hb1 hb2).size (balloc (bnext hb1 hb2) _) (blk_new w2 [.slice none 0 0] 22)).mono ?_; rintro e w3 ⟨rfl, hb3, v, X, ho⟩
           obtain ⟨av3, cv3, rfl⟩ := ho.rd.len
           have HO : Hid (OwnH (w2.heap.size + 1) w3 (.slice av3 m.length cv3) m) := ho
           have x0 := X.cell 0 _ rfl
           clear X ho))
    go_ret
    exact ⟨_, rfl, HO.out.lower (by have := (bnext hb1 hb2).size; omega), hb3⟩
  · have HC : Hid (missV a b = []) := by show missV a b = _; unfold missV; rw [notboth hr]; rfl
    rw [HC.out]
    obtain ⟨av, ca, rfl⟩ := ha.len
    obtain ⟨bv, cb, rfl⟩ := hb.len
    by_cases ra : RightV a
    · have rb : ¬ RightV b := fun h => hr ⟨ra, h⟩
      rw [rightB_true ra] at hA
      rw [rightB_false rb] at hB
      clear ha hb ra rb HC hr
      go_enter Try.func24, Try.ntmps24
      go_wp2_with (first
        | (go_at_call 13; have _t := tk; refine (hA _ HA.out).mono ?_; rintro e w1 ⟨rfl, hb1⟩; clear tk _t)
        | (go_at_call 13; refine (hB _ (HB.out.below hb1)).mono ?_; rintro e w2 ⟨rfl, hb2⟩))
      go_ret
      exact ⟨_, rfl, ownH_nil _ _, bnext hb1 hb2⟩
    · rw [rightB_false ra] at hA
      clear ha hb ra HC hr
      go_enter Try.func24, Try.ntmps24
      go_wp2_with (first
        | (go_at_call 13; refine (hA _ HA.out).mono ?_; rintro e w1 ⟨rfl, hb1⟩))
      go_ret
      exact ⟨_, rfl, ownH_nil _ _, hb1⟩

set_option maxHeartbeats 1000000 in
set_option maxRecDepth 20000 in
theorem conflict_any (va vb : Value) (a b : List H) (w : World) (ha : RdH w va a) (hb : RdH w vb b) :
    Calls Try.prog 18 #[va, vb] w fun e w' => e = .returned (.tuple #[.int .i64 (confV a b).1, .bool (confV a b).2]) ∧ Below w.heap.size w w' := by
  have hA := fun w' h => rightV_any va a w' h
  have hB := fun w' h => rightV_any vb b w' h
  have HA : Hid (RdH w va a) := ha
  have HB : Hid (RdH w vb b) := hb
  have tk : Hid True := trivial
  by_cases hr : RightV a ∧ RightV b
  · obtain ⟨ra, rb⟩ := hr
    have HC : Hid (confV a b = (confW (confTo a b 8), (confTo a b 8).isSome)) := by show confV a b = _; unfold confV; rw [both_t ra rb]; rfl
    rw [rightB_true ra] at hA
    rw [rightB_true rb] at hB
    have HF : Hid (∀ (W : World) (bi bw : Nat), bi ≠ bw → w.heap.size ≤ bi → w.heap.size ≤ bw → Below w.heap.size w W → Blk W bi 4 [.bool false] → Blk W bw 3 [.int .i64 0] →
        Calls Try.prog 37 #[va, vb, .func (.func 38) #[] #[ptr bi, ptr bw]] W fun e w' => e = .returned (.tuple #[]) ∧ Below w.heap.size w w' ∧ Blk w' bi 4 [.bool (confTo a b 8).isSome] ∧ Blk w' bw 3 [.int .i64 (confW (confTo a b 8))]) := fun W bi bw h1 h2 h3 h4 h5 h6 =>
      both_any w va vb a b ha hb ra rb 38 _ _ enter38 (conf_rounds w a b ra rb bi bw h1 h2 h3) W ⟨h4, h5, h6⟩
    rw [HC.out]
    dsimp only
    generalize (confTo a b 8).isSome = m at HF
    generalize confW (confTo a b 8) = l at HF
    obtain ⟨av, ca, rfl⟩ := ha.len
    obtain ⟨bv, cb, rfl⟩ := hb.len
    clear ha hb ra rb HC
    go_enter Try.func18, Try.ntmps18
    go_wp2_with (first
        | (go_at_call 13; have _t := tk; refine (hA _ HA.out).mono ?_; rintro e w1 ⟨rfl, hb1⟩; clear tk _t)
        | (go_at_call 13; refine (hB _ (HB.out.below hb1)).mono ?_; rintro e w2 ⟨rfl, hb2⟩)
        | (go_at_call 37; refine (HF.out _ (w2.heap.size + 1) w2.heap.size (by omega) (by have := (bnext hb1 hb2).size; omega) (bnext hb1 hb2).size (balloc (balloc (bnext hb1 hb2) _) _) (blk_new' (w2.alloc (.cells #[.int .i64 0] 3)) [.bool false] 4 _ (by simp)) ((blk_new w2 [.int .i64 0] 3).alloc _)).mono ?_; rintro e w3 ⟨rfl, hb3, X, Y⟩
           have x0 := X.cell 0 _ rfl
           have y0 := Y.cell 0 _ rfl
           clear X Y))
    go_quiet (fail)
    go_wp2
    go_ret2
    exact ⟨rfl, ⟨hb3.os, hb3.tape, hb3.output, hb3.size, hb3.block⟩⟩
  · have HC : Hid (confV a b = (0, false)) := by show confV a b = _; unfold confV; rw [notboth hr]; rfl
    rw [HC.out]
    obtain ⟨av, ca, rfl⟩ := ha.len
    obtain ⟨bv, cb, rfl⟩ := hb.len
    by_cases ra : RightV a
    · have rb : ¬ RightV b := fun h => hr ⟨ra, h⟩
      rw [rightB_true ra] at hA
      rw [rightB_false rb] at hB
      clear ha hb ra rb HC hr
      go_enter Try.func18, Try.ntmps18
      go_wp2_with (first
        | (go_at_call 13; have _t := tk; refine (hA _ HA.out).mono ?_; rintro e w1 ⟨rfl, hb1⟩; clear tk _t)
        | (go_at_call 13; refine (hB _ (HB.out.below hb1)).mono ?_; rintro e w2 ⟨rfl, hb2⟩))
      go_ret2
      exact ⟨rfl, bnext hb1 hb2⟩
    · rw [rightB_false ra] at hA
      clear ha hb ra HC hr
      go_enter Try.func18, Try.ntmps18
      go_wp2_with (first
        | (go_at_call 13; refine (hA _ HA.out).mono ?_; rintro e w1 ⟨rfl, hb1⟩))
      go_ret2
      exact ⟨rfl, hb1⟩

set_option maxHeartbeats 1000000 in
set_option maxRecDepth 20000 in
theorem merge_any (va vb : Value) (a b : List H) (w : World) (ha : RdH w va a) (hb : RdH w vb b) :
    Calls Try.prog 20 #[va, vb] w fun e w' => ∃ v', e = .returned (.tuple #[v', .int .i64 (mergeV a b).2]) ∧ OwnH w.heap.size w' v' (mergeV a b).1 ∧ Below w.heap.size w w' := by
  have hA := fun w' h => rightV_any va a w' h
  have hB := fun w' h => rightV_any vb b w' h
  have hX := fun w' h1 h2 => conflict_any va vb a b w' h1 h2
  have HA : Hid (RdH w va a) := ha
  have HB : Hid (RdH w vb b) := hb
  have tk : Hid True := trivial
  by_cases hr : RightV a ∧ RightV b
  · obtain ⟨ra, rb⟩ := hr
    have HC : Hid (mergeV a b = if (confV a b).2 then ([], 9) else (mergeTo a b 8, 0)) := by show mergeV a b = _; unfold mergeV; rw [both_t ra rb]; rfl
    rw [rightB_true ra] at hA
    rw [rightB_true rb] at hB
    have HF : Hid (∀ (W : World) (bo : Nat), w.heap.size ≤ bo → Below w.heap.size w W → Blk W bo 28 [.slice none 0 0] →
        Calls Try.prog 37 #[va, vb, .func (.func 39) #[] #[ptr bo]] W fun e w' => e = .returned (.tuple #[]) ∧ Below w.heap.size w w' ∧ ∃ v, Blk w' bo 28 [v] ∧ OwnH (bo + 1) w' v (mergeTo a b 8)) := fun W bo h2 h4 h5 =>
      both_any w va vb a b ha hb ra rb 39 _ _ enter39 (merge_rounds w a b ra rb ha.1 hb.1 bo h2) W ⟨h4, _, h5, ownH_nil _ _⟩
    rw [HC.out]
    generalize mergeTo a b 8 = m at HF
    generalize confV a b = cf at hX
    obtain ⟨cw, ci⟩ := cf
    obtain ⟨av, ca, rfl⟩ := ha.len
    obtain ⟨bv, cb, rfl⟩ := hb.len
    clear ha hb ra rb HC
    dsimp only at hX ⊢
    cases ci with
    | true =>
      rw [if_pos rfl]
      go_enter Try.func20, Try.ntmps20
      go_wp2_with (first
        | (go_at_call 13; have _t := tk; refine (hA _ HA.out).mono ?_; rintro e w1 ⟨rfl, hb1⟩; clear tk _t)
        | (go_at_call 13; refine (hB _ (HB.out.below hb1)).mono ?_; rintro e w2 ⟨rfl, hb2⟩)
        | (go_at_call 18; refine (hX _ (HA.out.below (bnext hb1 hb2)) (HB.out.below (bnext hb1 hb2))).mono ?_; rintro e w3 ⟨rfl, hb3⟩))
      go_ret2
      exact ⟨_, rfl, ownH_nil _ _, bnext (bnext hb1 hb2) hb3⟩
    | false =>
      rw [if_neg (by simp)]
      go_enter Try.func20, Try.ntmps20
      go_wp2_with (first
        | (go_at_call 13; have _t := tk; refine (hA _ HA.out).mono ?_; rintro e w1 ⟨rfl, hb1⟩; clear tk _t)
        | (go_at_call 13; refine (hB _ (HB.out.below hb1)).mono ?_; rintro e w2 ⟨rfl, hb2⟩)
        | (go_at_call 18; refine (hX _ (HA.out.below (bnext hb1 hb2)) (HB.out.below (bnext hb1 hb2))).mono ?_; rintro e w3 ⟨rfl, hb3⟩)
        | (go_at_call 37; refine (HF.out _ w3.heap.size (bnext (bnext hb1 hb2) hb3).size (balloc (bnext (bnext hb1 hb2) hb3) _) (blk_new w3 [.slice none 0 0] 28)).mono ?_; rintro e w4 ⟨rfl, hb4, v, X, ho⟩
           obtain ⟨av3, cv3, rfl⟩ := ho.rd.len
           have HO : Hid (OwnH (w3.heap.size + 1) w4 (.slice av3 m.length cv3) m) := ho
           have x0 := X.cell 0 _ rfl
           clear X ho))
      go_ret2
      exact ⟨_, rfl, HO.out.lower (by have := (bnext (bnext hb1 hb2) hb3).size; omega), hb4⟩
  · have HC : Hid (mergeV a b = ([], 1)) := by show mergeV a b = _; unfold mergeV; rw [notboth hr]; rfl
    rw [HC.out]
    obtain ⟨av, ca, rfl⟩ := ha.len
    obtain ⟨bv, cb, rfl⟩ := hb.len
    by_cases ra : RightV a
    · have rb : ¬ RightV b := fun h => hr ⟨ra, h⟩
      rw [rightB_true ra] at hA
      rw [rightB_false rb] at hB
      clear ha hb ra rb HC hr
      go_enter Try.func20, Try.ntmps20
      go_wp2_with (first
        | (go_at_call 13; have _t := tk; refine (hA _ HA.out).mono ?_; rintro e w1 ⟨rfl, hb1⟩; clear tk _t)
        | (go_at_call 13; refine (hB _ (HB.out.below hb1)).mono ?_; rintro e w2 ⟨rfl, hb2⟩))
      go_ret2
      exact ⟨_, rfl, ownH_nil _ _, bnext hb1 hb2⟩
    · rw [rightB_false ra] at hA
      clear ha hb ra HC hr
      go_enter Try.func20, Try.ntmps20
      go_wp2_with (first
        | (go_at_call 13; refine (hA _ HA.out).mono ?_; rintro e w1 ⟨rfl, hb1⟩))
      go_ret2
      exact ⟨_, rfl, ownH_nil _ _, hb1⟩
end Go.Proofs.Ytdjfedlkfekeoaa
