/-
  Right of the program.
-/
import Derived.Test.YtgoghmabhdkdjaaRgtW
namespace Go.Proofs.Ytgoghmabhdkdjaa
set_option linter.unusedVariables false
set_option linter.unusedSimpArgs false
set_option synthInstance.maxSize 20000
set_option maxHeartbeats 2000000
set_option maxRecDepth 20000
open Go.RowKit Go.Maps

theorem right27 {w : World} {c : Cg} {a b : Value} {qs : List Wq} (h : CgAt w c a b qs) : Calls Try.prog 27 #[cv c a b] w fun r w' => r = .returned (.bool (rightB c)) ∧ Below w.heap.size w w' := by
  obtain ⟨w1, hw1⟩ : ∃ w1, w1 = w.alloc (.cells (cc c a b).toArray 38) := ⟨_, rfl⟩
  have hb1 : Below w.heap.size w w1 := by rw [hw1]; exact balloc (Below.refl _ _) _
  have X1 : Blk w1 w.heap.size 38 (cc c a b) := by rw [hw1]; exact blk_new w _ 38
  have H46 : Hid (∀ w', Calls Try.prog 46 #[.int .i64 c.w] w' fun r w'' => r = .returned (.bool (whoB c.w)) ∧ w'' = w') := fun w' => who46 c.w w'
  have H48 : Hid (∀ w', Calls Try.prog 48 #[.int .i64 c.l, .int .i64 0, .int .i64 200] w' fun r w'' => r = .returned (.bool (decide (0 ≤ c.l ∧ c.l ≤ 200))) ∧ w'' = w') := fun w' => within48 c.l 0 200 w'
  have H47 : Hid (Calls Try.prog 47 #[cv c a b] w1 fun r w'' => r = .returned (.bool (keyB c)) ∧ Below w.heap.size w w'') := (show Calls _ _ _ _ _ from (key47 (h.below hb1)).mono fun r w'' h' => ⟨h'.1, bnext hb1 h'.2⟩)
  have H49 : Hid (Calls Try.prog 49 #[a] w1 fun r w'' => r = .returned (.bool (wsB c.ws)) ∧ Below w1.heap.size w1 w'') := by
    have := ws49 (h.below hb1).row (h.below hb1).rd
    rw [h.ws] at this
    exact this
  have H50 : Hid (∀ w', Below w1.heap.size w1 w' → Calls Try.prog 50 #[b] w' fun r w'' => r = .returned (.bool (oldB c.o)) ∧ w'' = w') := fun w' hb => old50 ((h.below hb1).below hb).old
  have HX : Hid (∀ w', Below w1.heap.size w1 w' → Blk w' w.heap.size 38 (cc c a b) ∧ Below w.heap.size w w') := fun w' hb => ⟨X1.below hb, bnext hb1 hb⟩
  have HR : Hid (Below w1.heap.size w1 w1) := (show Below _ _ _ from Below.refl _ _)
  have HB1 : Hid (Below w.heap.size w w1) := hb1
  have z0 := X1.cell 0 _ rfl; have z1 := X1.cell 1 _ rfl; have z2 := X1.cell 2 _ rfl; have z3 := X1.cell 3 _ rfl; have z4 := X1.cell 4 _ rfl; have z5 := X1.cell 5 _ rfl
  obtain ⟨aa, ca, rfl⟩ := h.row.len
  obtain ⟨ab, cb, rfl⟩ := h.old.len
  have HQ : Hid (rightB c = rightB c) := rfl
  generalize hrb : rightB c = rb
  unfold rightB at hrb
  obtain ⟨xk, xw, xp, xl, xws, xo⟩ := c
  unfold cv cc at *
  dsimp only at *
  generalize xo.length = n at *
  generalize qs.length = m at *
  have HW1 : Hid (w1 = w.alloc (.cells #[.int .i64 xk, .int .i64 xw, .int .u64 xp, .int .i64 xl, .slice aa m ca, .slice ab n cb] 38)) := hw1
  have HRB : Hid ((if xk = 1 then whoB xw && decide (xp ≠ 0) && decide (xl = 0) && keyB ⟨xk, xw, xp, xl, xws, xo⟩
    else if xk = 2 then whoB xw && decide (xw ≠ 0) && decide (xp = 0) && decide (0 ≤ xl ∧ xl ≤ 200) && keyB ⟨xk, xw, xp, xl, xws, xo⟩
    else if xk = 3 then decide (xw = 0) && decide (xp = 0) && decide (xl = 0) && wsB xws && oldB xo else false) = rb) := hrb
  clear hrb HQ h hw1 hb1 X1
  generalize keyB ⟨xk, xw, xp, xl, xws, xo⟩ = kb at *
  generalize wsB xws = sb at *
  generalize oldB xo = ob at *
  generalize whoB xw = wb at *
  generalize hlb : decide (0 ≤ xl ∧ xl ≤ 200) = lb at *
  by_cases k1 : xk = 1
  · subst k1
    have HRB2 : Hid ((wb && decide (xp ≠ 0) && decide (xl = 0) && kb) = rb) := HRB
    clear HRB hlb H48 H49 H50
    have hp : xp = 0 ∨ (xp != 0) = true := by by_cases e : xp = 0 <;> simp [e]
    have hl : xl = 0 ∨ (xl == 0) = false := by by_cases e : xl = 0 <;> simp [e]
    rcases hp with rfl | hp <;> rcases hl with rfl | hl <;> cases wb
    all_goals
      go_enter Try.func27, Try.ntmps27
      go_upto_region 1 with fail
      rw [← HW1.out]
      go_wp2_with (first
        | (go_at_call 46; go_must (refine (H46.out _).mono ?_; rintro r w2 ⟨rfl, rfl⟩))
        | (go_at_call 47; go_must (refine H47.out.mono ?_; rintro r w3 ⟨rfl, hb3⟩)))
      go_ret
      refine ⟨?_, by first | exact hb3 | exact HB1.out⟩
      rw [← HRB2.out]
      first | rfl | (refine ret_bool ?_; simp_all)
  · by_cases k2 : xk = 2
    · subst k2
      have HRB2 : Hid ((wb && decide (xw ≠ 0) && decide (xp = 0) && lb && kb) = rb) := HRB
      clear HRB hlb H49 H50 k1
      have hp : xp = 0 ∨ (xp == 0) = false := by by_cases e : xp = 0 <;> simp [e]
      have hw : xw = 0 ∨ (xw != 0) = true := by by_cases e : xw = 0 <;> simp [e]
      rcases hp with rfl | hp <;> rcases hw with rfl | hw <;> cases wb <;> cases lb
      all_goals
        go_enter Try.func27, Try.ntmps27
        go_upto_region 1 with fail
        rw [← HW1.out]
        go_wp2_with (first
          | (go_at_call 46; go_must (refine (H46.out _).mono ?_; rintro r w2 ⟨rfl, rfl⟩))
          | (go_at_call 48; go_must (refine (H48.out _).mono ?_; rintro r w2 ⟨rfl, rfl⟩))
          | (go_at_call 47; go_must (refine H47.out.mono ?_; rintro r w3 ⟨rfl, hb3⟩)))
        go_ret
        refine ⟨?_, by first | exact hb3 | exact HB1.out⟩
        rw [← HRB2.out]
        first | rfl | (refine ret_bool ?_; simp_all)
    · by_cases k3 : xk = 3
      · subst k3
        have HRB2 : Hid ((decide (xw = 0) && decide (xp = 0) && decide (xl = 0) && sb && ob) = rb) := HRB
        clear HRB hlb H46 H47 H48 k1 k2
        have hp : xp = 0 ∨ (xp == 0) = false := by by_cases e : xp = 0 <;> simp [e]
        have hw : xw = 0 ∨ (xw == 0) = false := by by_cases e : xw = 0 <;> simp [e]
        have hl : xl = 0 ∨ (xl == 0) = false := by by_cases e : xl = 0 <;> simp [e]
        rcases hp with rfl | hp <;> rcases hw with rfl | hw <;> rcases hl with rfl | hl <;> cases sb
        all_goals
          go_enter Try.func27, Try.ntmps27
          go_upto_region 1 with fail
          rw [← HW1.out]
          go_wp2_with (first
            | (go_at_call 49; go_must (refine H49.out.mono ?_; rintro r w2 ⟨rfl, hb2⟩; have Y := HX.out w2 hb2; have y5 := Y.1.cell 5 _ rfl; have HY2 : Hid (Below w.heap.size w w2) := Y.2; clear Y))
            | (go_at_call 50; go_must (refine (H50.out _ hb2).mono ?_; rintro r w3 ⟨rfl, rfl⟩)))
          go_ret
          refine ⟨?_, by first | exact HY2.out | exact HB1.out⟩
          rw [← HRB2.out]
          first | rfl | (refine ret_bool ?_; simp_all)
      · have HRB2 : Hid (false = rb) := (by have := HRB.out; rw [if_neg k1, if_neg k2, if_neg k3] at this; exact this)
        have h1 : (xk == 1) = false := by simpa using k1
        have h2 : (xk == 2) = false := by simpa using k2
        have h3 : (xk == 3) = false := by simpa using k3
        clear HRB hlb H46 H47 H48 H49 H50
        go_enter Try.func27, Try.ntmps27
        go_upto_region 1 with fail
        rw [← HW1.out]
        go_wp2
        go_ret
        refine ⟨?_, HB1.out⟩
        rw [← HRB2.out]
        rfl
end Go.Proofs.Ytgoghmabhdkdjaa
