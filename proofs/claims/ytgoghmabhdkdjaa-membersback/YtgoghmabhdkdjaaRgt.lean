/-
  Which changes the program calls right.
-/
import Derived.Test.YtgoghmabhdkdjaaRgtM
import Derived.Test.YtgoghmabhdkdjaaFnd
namespace Go.Proofs.Ytgoghmabhdkdjaa
set_option linter.unusedVariables false
set_option linter.unusedSimpArgs false
set_option synthInstance.maxSize 20000
set_option maxHeartbeats 2000000
set_option maxRecDepth 20000
open Go.RowKit Go.Maps

theorem within48 (n a b : Int) (w : World) : Calls Try.prog 48 #[.int .i64 n, .int .i64 a, .int .i64 b] w fun r w' => r = .returned (.bool (decide (a ≤ n ∧ n ≤ b))) ∧ w' = w := by
  have H : Hid (decide (a ≤ n ∧ n ≤ b) = true ↔ a ≤ n ∧ n ≤ b) := (decide_eq_true_iff : _ ↔ _)
  generalize decide (a ≤ n ∧ n ≤ b) = x at *
  by_cases h : a ≤ n
  all_goals
    go_enter Try.func48, Try.ntmps48
    go_wp2
    go_ret
    refine ⟨ret_bool ?_, rfl⟩
    rw [H.out]
    simp
    try omega
theorem who46 (n : Int) (w : World) : Calls Try.prog 46 #[.int .i64 n] w fun r w' => r = .returned (.bool (whoB n)) ∧ w' = w := by
  have H : Hid (Calls Try.prog 48 #[.int .i64 n, .int .i64 0, .int .i64 7] w fun r w' => r = .returned (.bool (whoB n)) ∧ w' = w) := within48 n 0 7 w
  generalize whoB n = x at *
  go_enter Try.func46, Try.ntmps46
  go_wp2_with (go_at_call 48; go_must (refine H.out.mono ?_; rintro r w2 ⟨rfl, rfl⟩))
  go_ret
  exact ⟨rfl, rfl⟩
theorem old50 {w : World} {v : Value} {o : List Int} (h : Rd w v o) : Calls Try.prog 50 #[v] w fun r w' => r = .returned (.bool (oldB o)) ∧ w' = w := by
  obtain ⟨a, c, rfl⟩ := h.len
  have H : Hid (oldB o = true ↔ o.length = 0 ∨ o.length = 24) := (by unfold oldB; exact decide_eq_true_iff)
  generalize oldB o = x at *
  generalize o.length = n at *
  clear h
  by_cases h0 : n = 0
  · subst h0
    go_enter Try.func50, Try.ntmps50
    go_wp2
    go_ret
    exact ⟨ret_bool (by rw [H.out]; simp), rfl⟩
  · have h1 : ((n : Int) == 0) = false := by simpa using h0
    have HN : Hid (¬ n = 0) := h0
    clear h0
    go_enter Try.func50, Try.ntmps50
    go_wp2
    go_ret
    refine ⟨ret_bool ?_, rfl⟩
    have := HN.out
    rw [H.out]
    simp
    omega
theorem key47 {w : World} {c : Cg} {a b : Value} {qs : List Wq} (h : CgAt w c a b qs) : Calls Try.prog 47 #[cv c a b] w fun r w' => r = .returned (.bool (keyB c)) ∧ Below w.heap.size w w' := by
  have H : Hid (keyB c = true ↔ qs.length = 0 ∧ c.o.length = 0) := (by unfold keyB; rw [h.len]; exact decide_eq_true_iff)
  obtain ⟨aa, ca, rfl⟩ := h.row.len
  obtain ⟨ab, cb, rfl⟩ := h.old.len
  generalize keyB c = x at *
  generalize c.o.length = n at *
  generalize qs.length = m at *
  obtain ⟨c0, c1, c2, c3, c4, c5⟩ := c
  unfold cv
  dsimp only at *
  clear h
  by_cases h0 : m = 0
  · subst h0
    go_enter Try.func47, Try.ntmps47
    go_wp2
    go_ret
    refine ⟨ret_bool ?_, balloc (Below.refl _ _) _⟩
    rw [H.out]
    simp
  · have h1 : ((m : Int) == 0) = false := by simpa using h0
    have HN : Hid (¬ m = 0) := h0
    clear h0
    go_enter Try.func47, Try.ntmps47
    go_wp2
    go_ret
    refine ⟨ret_bool ?_, balloc (Below.refl _ _) _⟩
    have := HN.out
    rw [H.out]
    simp
    omega
end Go.Proofs.Ytgoghmabhdkdjaa
