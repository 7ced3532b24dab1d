/-
  What the reference answers of two vectors: Compare, Conflict, Merge.
-/
import Derived.Test.YtdjfedlkfekeoaaTwo
namespace Go.Proofs.Ytdjfedlkfekeoaa
set_option linter.unusedVariables false
set_option linter.unusedSimpArgs false
open Go.RowKit

/-- A field of a head that is no variable. -/
theorem field_len (w : World) (x y z : Int) : (Instr.field 25 (.agg #[.int .i64 x, .int .i64 y, .int .u64 z]) 1).run Try.prog w = .ok (.int .i64 y) w := by
  have hg : (asAgg (.agg #[.int .i64 x, .int .i64 y, .int .u64 z])).run Try.prog w = .ok #[.int .i64 x, .int .i64 y, .int .u64 z] w := rfl
  have hs : (Go.sizeOf 3).run Try.prog w = .ok 1 w := by kernel_rfl
  have ha : (isAgg 3).run Try.prog w = .ok false w := by kernel_rfl
  simp [Instr.field, run_underlying Try.underlying25, hs, ha, hg, go_sem]

set_option maxHeartbeats 1000000 in
set_option maxRecDepth 20000 in
theorem refcompare_any (va vb : Value) (a b : List H) (w : World) (ha : RdH w va a) (hb : RdH w vb b) :
    Calls Try.prog 23 #[va, vb] w fun e w' => e = .returned (.int .i64 (cmpV a b)) ∧ Below w.heap.size w w' := by
  have hA := fun w' h => refrightV_any va a w' h
  have hB := fun w' h => refrightV_any vb b w' h
  have hGA := fun (x : Int) w' h => refget_any va a x w' h
  have hGB := fun (x : Int) w' h => refget_any vb b x w' h
  have HA : Hid (RdH w va a) := ha
  have HB : Hid (RdH w vb b) := hb
  have tk : Hid True := trivial
  obtain ⟨av, ca, rfl⟩ := ha.len
  obtain ⟨bv, cb, rfl⟩ := hb.len
  by_cases hr : RightV a ∧ RightV b
  · obtain ⟨ra, rb⟩ := hr
    have HC : Hid (cmpV a b = standV (moreTo a b 8) (moreTo b a 8)) := by show cmpV a b = _; unfold cmpV; rw [both_t ra rb]; rfl
    rw [rightB_true ra] at hA
    rw [rightB_true rb] at hB
    have hGA' := fun (k : Nat) w' h => hGA (k : Int) w' h
    have hGB' := fun (k : Nat) w' h => hGB (k : Int) w' h
    have HRA : Hid (∀ k : Nat, getR a (k : Int) = getV a (k : Int)) := fun k => getR_right ra _
    have HRB : Hid (∀ k : Nat, getR b (k : Int) = getV b (k : Int)) := fun k => getR_right rb _
    rw [HC.out]
    have hfl := field_len
    clear ha hb ra rb HC hGA hGB
    go_enter Try.func23, Try.ntmps23
    go_upto_region 4 with (first
        | (go_at_call 14; have _t := tk; refine (hA _ HA.out).mono ?_; rintro e w1 ⟨rfl, hb1⟩; clear tk _t)
        | (go_at_call 14; refine (hB _ (HB.out.below hb1)).mono ?_; rintro e w2 ⟨rfl, hb2⟩))
    have HB2 : Hid (Below w.heap.size w w2) := bnext hb1 hb2
    clear hb1 hb2 hA hB
    go_wp2
    go_loopw [5, 6, 7] (fun m l i wr => ∃ k : Nat, i = .int .i64 k ∧ k ≤ 8 ∧ m = .bool (moreTo a b k) ∧ l = .bool (moreTo b a k) ∧ Hid (Below w.heap.size w wr)) (fun _ _ i _ => 8 - (intOf i).toNat)
    case atStart => exact ⟨0, rfl, by omega, rfl, rfl, HB2⟩
    case round =>
      clear HB2
      obtain ⟨k, rfl, hk, rfl, rfl, HW⟩ := hrel
      have tk : Hid True := trivial
      by_cases hk8 : k < 8
      · have g1 := hGA' k
        have g2 := hGB' k
        rw [HRA.out k] at g1
        rw [HRB.out k] at g2
        have H1 : Hid (moreTo a b (k + 1) = (moreTo a b k || decide ((getV b (k : Nat)).2.1 < (getV a (k : Nat)).2.1))) := moreTo_succ a b k
        have H2 : Hid (moreTo b a (k + 1) = (moreTo b a k || decide ((getV a (k : Nat)).2.1 < (getV b (k : Nat)).2.1))) := moreTo_succ b a k
        generalize getV a (k : Nat) = x at g1 H1 H2
        generalize getV b (k : Nat) = y at g2 H1 H2
        obtain ⟨x1, x2, x3⟩ := x
        obtain ⟨y1, y2, y3⟩ := y
        simp only [hv] at g1 g2
        dsimp only at H1 H2
        generalize moreTo a b k = m0 at H1 ⊢
        generalize moreTo b a k = l0 at H2 ⊢
        cases m0 <;> cases l0
        all_goals
          go_wp2_with (first
            | (go_at_call 16; have _t := tk; refine (g1 _ (HA.out.below HW.out)).mono ?_; rintro e w3 ⟨rfl, hb3⟩; have HB3 : Hid _ := bnext HW.out hb3; clear tk _t hb3)
            | (go_at_call 16; refine (g2 _ (HB.out.below HB3.out)).mono ?_; rintro e w4 ⟨rfl, hb4⟩; have HB4 : Hid _ := bnext HB3.out hb4; clear hb4))
          go_roundw
          case rel => exact ⟨k + 1, by go_num, by omega, by rw [H1.out]; simp, by rw [H2.out]; simp, HB4⟩
          case measure => simp [intOf]; omega
      · obtain rfl : k = 8 := by omega
        obtain ⟨m, hm⟩ : ∃ m, moreTo a b 8 = m := ⟨_, rfl⟩
        obtain ⟨l, hl⟩ : ∃ l, moreTo b a 8 = l := ⟨_, rfl⟩
        have HM : Hid (moreTo a b 8 = m) := hm
        have HL : Hid (moreTo b a 8 = l) := hl
        rw [hm, hl]
        clear hm hl
        cases m <;> cases l
        all_goals
          go_wp2
          go_ret
          exact ⟨by rw [HM.out, HL.out]; rfl, HW.out⟩
  · have HC : Hid (cmpV a b = 3) := by show cmpV a b = _; unfold cmpV; rw [notboth hr]; rfl
    rw [HC.out]
    by_cases ra : RightV a
    · have rb : ¬ RightV b := fun h => hr ⟨ra, h⟩
      rw [rightB_true ra] at hA
      rw [rightB_false rb] at hB
      clear ha hb ra rb HC hr hGA hGB
      go_enter Try.func23, Try.ntmps23
      go_wp2_with (first
        | (go_at_call 14; have _t := tk; refine (hA _ HA.out).mono ?_; rintro e w1 ⟨rfl, hb1⟩; clear tk _t)
        | (go_at_call 14; refine (hB _ (HB.out.below hb1)).mono ?_; rintro e w2 ⟨rfl, hb2⟩))
      go_ret
      exact ⟨rfl, bnext hb1 hb2⟩
    · rw [rightB_false ra] at hA
      clear ha hb ra HC hr hGA hGB
      go_enter Try.func23, Try.ntmps23
      go_wp2_with (first
        | (go_at_call 14; refine (hA _ HA.out).mono ?_; rintro e w1 ⟨rfl, hb1⟩))
      go_ret
      exact ⟨rfl, hb1⟩

theorem conf_found {a b : List H} {k : Nat} (h0 : confTo a b k = none) (h1 : oddB a b k = true) : ∀ d, confTo a b (k + 1 + d) = some k
  | 0 => by show confTo a b (k + 1) = _; rw [confTo_succ, h0, if_pos h1]; rfl
  | d + 1 => by show confTo a b (k + 1 + d + 1) = _; rw [confTo_succ, conf_found h0 h1 d]; rfl
theorem conf_next {a b : List H} {k : Nat} (h0 : confTo a b k = none) (h1 : oddB a b k = false) : confTo a b (k + 1) = none := by rw [confTo_succ, h0, h1]; rfl

set_option maxHeartbeats 1000000 in
set_option maxRecDepth 20000 in
theorem refconflict_any (va vb : Value) (a b : List H) (w : World) (ha : RdH w va a) (hb : RdH w vb b) :
    Calls Try.prog 19 #[va, vb] w fun e w' => e = .returned (.tuple #[.int .i64 (confV a b).1, .bool (confV a b).2]) ∧ Below w.heap.size w w' := by
  have hA := fun w' h => refrightV_any va a w' h
  have hB := fun w' h => refrightV_any vb b w' h
  have hGA := fun (k : Nat) w' h => refget_any va a (k : Int) w' h
  have hGB := fun (k : Nat) w' h => refget_any vb b (k : Int) w' h
  have HA : Hid (RdH w va a) := ha
  have HB : Hid (RdH w vb b) := hb
  obtain ⟨av, ca, rfl⟩ := ha.len
  obtain ⟨bv, cb, rfl⟩ := hb.len
  by_cases hr : RightV a ∧ RightV b
  · obtain ⟨ra, rb⟩ := hr
    have HC : Hid (confV a b = (confW (confTo a b 8), (confTo a b 8).isSome)) := by show confV a b = _; unfold confV; rw [both_t ra rb]; rfl
    rw [rightB_true ra] at hA
    rw [rightB_true rb] at hB
    have HRA : Hid (∀ k : Nat, getR a (k : Int) = getV a (k : Int)) := fun k => getR_right ra _
    have HRB : Hid (∀ k : Nat, getR b (k : Int) = getV b (k : Int)) := fun k => getR_right rb _
    clear ha hb ra rb
    go_enter Try.func19, Try.ntmps19
    go_wp2
    go_loopw [6] (fun i wr => ∃ k : Nat, i = .int .i64 k ∧ k ≤ 8 ∧ Hid (confTo a b k = none) ∧ Hid (Below w.heap.size w wr)) (fun i _ => 8 - (intOf i).toNat)
    case atStart => exact ⟨0, rfl, by omega, (rfl : confTo a b 0 = none), Below.refl _ _⟩
    case round =>
      obtain ⟨k, rfl, hk, HN, HW⟩ := hrel
      have tk : Hid True := trivial
      have tk2 : Hid True := trivial
      by_cases hk8 : k < 8
      · have g1 := hGA k
        have g2 := hGB k
        rw [HRA.out k] at g1
        rw [HRB.out k] at g2
        have H1 : Hid (oddB a b k = true → confTo a b 8 = some k) := fun h => by
          have := conf_found HN.out h (7 - k)
          rwa [show k + 1 + (7 - k) = 8 by omega] at this
        have H2 : Hid (oddB a b k = false → confTo a b (k + 1) = none) := fun h => conf_next HN.out h
        have H3 : Hid (oddB a b k = decide ((getV a (k : Nat)).2.1 = (getV b (k : Nat)).2.1 ∧ 0 < (getV a (k : Nat)).2.1 ∧ (getV a (k : Nat)).2.2 ≠ (getV b (k : Nat)).2.2)) := (rfl : oddB a b k = _)
        generalize oddB a b k = ob at H1 H2 H3
        generalize getV a (k : Nat) = x at g1 H3
        generalize getV b (k : Nat) = y at g2 H3
        obtain ⟨x1, x2, x3⟩ := x
        obtain ⟨y1, y2, y3⟩ := y
        simp only [hv] at g1 g2
        dsimp only at H3
        have hcs : (x2 = y2 ∧ 0 < x2 ∧ x3 ≠ y3) ∨ x2 ≠ y2 ∨ (x2 = y2 ∧ ¬ 0 < x2) ∨ (x2 = y2 ∧ 0 < x2 ∧ x3 = y3) := by omega
        rcases hcs with ⟨rfl, h2, h3⟩ | h1 | ⟨rfl, h2⟩ | ⟨rfl, h2, rfl⟩
        · have HF : Hid (confTo a b 8 = some k) := H1.out (by rw [H3.out]; exact decide_eq_true ⟨rfl, h2, h3⟩)
          have h3' : (x3 != y3) = true := by simpa using h3
          clear h3
          go_wp2_with (first
            | (go_at_call 14; have _t := tk; refine (hA _ (HA.out.below HW.out)).mono ?_; rintro e w1 ⟨rfl, hb1⟩; have HB1 : Hid _ := bnext HW.out hb1; clear tk _t hb1)
            | (go_at_call 14; refine (hB _ (HB.out.below HB1.out)).mono ?_; rintro e w2 ⟨rfl, hb2⟩; have HB2 : Hid _ := bnext HB1.out hb2; clear hb2)
            | (go_at_call 16; have _t := tk2; refine (g1 _ (HA.out.below HB2.out)).mono ?_; rintro e w3 ⟨rfl, hb3⟩; have HB3 : Hid _ := bnext HB2.out hb3; clear tk2 _t hb3)
            | (go_at_call 16; refine (g2 _ (HB.out.below HB3.out)).mono ?_; rintro e w4 ⟨rfl, hb4⟩; have HB4 : Hid _ := bnext HB3.out hb4; clear hb4))
          go_ret2
          exact ⟨by rw [HC.out, HF.out]; rfl, balloc (balloc HB4.out _) _⟩
        · have h1' : (x2 == y2) = false := by simpa using h1
          have HF : Hid (confTo a b (k + 1) = none) := H2.out (by rw [H3.out]; exact decide_eq_false (fun h => h1 h.1))
          clear h1
          go_wp2_with (first
            | (go_at_call 14; have _t := tk; refine (hA _ (HA.out.below HW.out)).mono ?_; rintro e w1 ⟨rfl, hb1⟩; have HB1 : Hid _ := bnext HW.out hb1; clear tk _t hb1)
            | (go_at_call 14; refine (hB _ (HB.out.below HB1.out)).mono ?_; rintro e w2 ⟨rfl, hb2⟩; have HB2 : Hid _ := bnext HB1.out hb2; clear hb2)
            | (go_at_call 16; have _t := tk2; refine (g1 _ (HA.out.below HB2.out)).mono ?_; rintro e w3 ⟨rfl, hb3⟩; have HB3 : Hid _ := bnext HB2.out hb3; clear tk2 _t hb3)
            | (go_at_call 16; refine (g2 _ (HB.out.below HB3.out)).mono ?_; rintro e w4 ⟨rfl, hb4⟩; have HB4 : Hid _ := bnext HB3.out hb4; clear hb4))
          go_roundw
          case rel => exact ⟨k + 1, by go_num, by omega, HF, balloc (balloc HB4.out _) _⟩
          case measure => simp [intOf]; omega
        · have HF : Hid (confTo a b (k + 1) = none) := H2.out (by rw [H3.out]; exact decide_eq_false (fun h => h2 h.2.1))
          go_wp2_with (first
            | (go_at_call 14; have _t := tk; refine (hA _ (HA.out.below HW.out)).mono ?_; rintro e w1 ⟨rfl, hb1⟩; have HB1 : Hid _ := bnext HW.out hb1; clear tk _t hb1)
            | (go_at_call 14; refine (hB _ (HB.out.below HB1.out)).mono ?_; rintro e w2 ⟨rfl, hb2⟩; have HB2 : Hid _ := bnext HB1.out hb2; clear hb2)
            | (go_at_call 16; have _t := tk2; refine (g1 _ (HA.out.below HB2.out)).mono ?_; rintro e w3 ⟨rfl, hb3⟩; have HB3 : Hid _ := bnext HB2.out hb3; clear tk2 _t hb3)
            | (go_at_call 16; refine (g2 _ (HB.out.below HB3.out)).mono ?_; rintro e w4 ⟨rfl, hb4⟩; have HB4 : Hid _ := bnext HB3.out hb4; clear hb4))
          go_roundw
          case rel => exact ⟨k + 1, by go_num, by omega, HF, balloc (balloc HB4.out _) _⟩
          case measure => simp [intOf]; omega
        · have HF : Hid (confTo a b (k + 1) = none) := H2.out (by rw [H3.out]; exact decide_eq_false (fun h => h.2.2 rfl))
          go_wp2_with (first
            | (go_at_call 14; have _t := tk; refine (hA _ (HA.out.below HW.out)).mono ?_; rintro e w1 ⟨rfl, hb1⟩; have HB1 : Hid _ := bnext HW.out hb1; clear tk _t hb1)
            | (go_at_call 14; refine (hB _ (HB.out.below HB1.out)).mono ?_; rintro e w2 ⟨rfl, hb2⟩; have HB2 : Hid _ := bnext HB1.out hb2; clear hb2)
            | (go_at_call 16; have _t := tk2; refine (g1 _ (HA.out.below HB2.out)).mono ?_; rintro e w3 ⟨rfl, hb3⟩; have HB3 : Hid _ := bnext HB2.out hb3; clear tk2 _t hb3)
            | (go_at_call 16; refine (g2 _ (HB.out.below HB3.out)).mono ?_; rintro e w4 ⟨rfl, hb4⟩; have HB4 : Hid _ := bnext HB3.out hb4; clear hb4))
          go_roundw
          case rel => exact ⟨k + 1, by go_num, by omega, HF, balloc (balloc HB4.out _) _⟩
          case measure => simp [intOf]; omega
      · obtain rfl : k = 8 := by omega
        go_wp2
        go_ret2
        exact ⟨by rw [HC.out, HN.out]; rfl, HW.out⟩
  · have HC : Hid (confV a b = (0, false)) := by show confV a b = _; unfold confV; rw [notboth hr]; rfl
    have tk : Hid True := trivial
    have hone : ∀ x : Bool, (rightB a && rightB b) = x → x = false := fun x h => by rw [← h]; exact notboth hr
    by_cases ra : RightV a
    · have rb : ¬ RightV b := fun h => hr ⟨ra, h⟩
      rw [rightB_true ra] at hA
      rw [rightB_false rb] at hB
      clear ha hb ra rb hr hGA hGB hone
      go_enter Try.func19, Try.ntmps19
      go_wp2
      refine wp_loop_rounds 1 ?_
      rw [rounds_succ]
      go_wp2_with (first
        | (go_at_call 14; have _t := tk; refine (hA _ HA.out).mono ?_; rintro e w1 ⟨rfl, hb1⟩; clear tk _t)
        | (go_at_call 14; refine (hB _ (HB.out.below hb1)).mono ?_; rintro e w2 ⟨rfl, hb2⟩))
      go_ret2
      exact ⟨by rw [HC.out]; rfl, bnext hb1 hb2⟩
    · rw [rightB_false ra] at hA
      clear ha hb ra hr hGA hGB hone
      go_enter Try.func19, Try.ntmps19
      go_wp2
      refine wp_loop_rounds 1 ?_
      rw [rounds_succ]
      go_wp2_with (first
        | (go_at_call 14; refine (hA _ HA.out).mono ?_; rintro e w1 ⟨rfl, hb1⟩))
      go_ret2
      exact ⟨by rw [HC.out]; rfl, hb1⟩
end Go.Proofs.Ytdjfedlkfekeoaa
