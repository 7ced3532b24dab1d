/-
  The chapter's examples hold: the law's own check at fixed numbers answers true.
-/
import Derived.Test.YtdbfdocokefbbaaReader3
import Derived.Test.YtdbfdocokefbbaaSame
namespace Go.Proofs.Ytdbfdocokefbbaa
set_option linter.unusedVariables false
open Go.RowKit

theorem form300 : form 300 = [172, 2] := by
  rw [form_ge (by omega), form_lt (by omega)]; rfl
theorem parse300 : parse 0 [172, 2] = some (300, []) := by decide

set_option maxHeartbeats 1000000 in
set_option maxRecDepth 20000 in
theorem alive_any (w : World) : Calls Try.prog 7 #[] w fun e w' => e = .returned (.bool true) ∧ Below w.heap.size w w' := by
  go_enter Try.func7, Try.ntmps7
  go_wp2_with fail
  refine (num_any _ [] 300 _ (rd_nil _) (by simp) (by omega)).mono ?_
  rintro e w1 ⟨v1, rfl, hown1, hb1⟩
  rw [List.nil_append, form300] at hown1
  go_wp2_with fail
  refine (same_any _ _ [172, 2] [172, 2] _ (hown1.alloc _).rd (rd_two w1 172 2 5 (by omega) (by omega))).mono ?_
  rintro e w2 ⟨rfl, hb2⟩
  have hB2 := bnext (balloc hb1 _) hb2
  clear hb1 hb2 hown1
  go_wp2_with fail
  refine (int_any _ [9] (-1) _ (rd_one w2 9 5 (by omega)) (by simp) (by omega)).mono ?_
  rintro e w3 ⟨v3, rfl, hown3, hb3⟩
  rw [show [9] ++ form (zig (-1)) = [9, 1] by rw [show zig (-1) = 1 by decide, form_lt (by omega)]; rfl] at hown3
  have hB3 := bnext (balloc hB2 _) hb3
  clear hb3 hB2
  go_wp2_with fail
  refine (same_any _ _ [9, 1] [9, 1] _ (hown3.alloc _).rd (rd_two w3 9 1 5 (by omega) (by omega))).mono ?_
  rintro e w4 ⟨rfl, hb4⟩
  have hB4 := bnext (balloc hB3 _) hb4
  clear hb4 hB3 hown3
  go_wp2_with fail
  refine (read_any _ _ [172, 2] (rd_two w4 172 2 5 (by omega) (by omega)) (by simp)).mono ?_
  rintro e w5 ⟨b, rfl, hb, hr, hg⟩
  have hB5 := bgrown0 (balloc hB4 _) hg
  have hbb : w.heap.size ≤ b := by have := hB4.size; simp at hb; omega
  clear hg hB4 hb
  go_wp2_with fail
  refine (rnum_any _ b [172, 2] 0 hr).mono ?_
  rw [show rNum [172, 2] 0 = (300, [], 0) by unfold rNum; rw [parse300]]
  rintro e w6 ⟨rfl, _, hg⟩
  have hB6 := bgrown hB5 hbb hg
  clear hg hB5 hbb
  go_wp2
  go_ret
  exact ⟨rfl, hB6⟩

end Go.Proofs.Ytdbfdocokefbbaa
