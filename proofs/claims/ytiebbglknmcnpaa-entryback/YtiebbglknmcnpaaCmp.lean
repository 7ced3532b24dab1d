/-
  The functions that compare stamps, and those that tell which are right.
-/
import Derived.Test.YtiebbglknmcnpaaMem
import Derived.Test.YtiebbglknmcnpaaChain
import Derived.Deep.RegionWith
import Derived.Deep.DeepCutAuto
import Derived.BigQuiet
namespace Go.Proofs.Ytiebbglknmcnpaa
set_option linter.unusedVariables false
open Go.RowKit


/-- cmp.Or of two. -/
def orI (x y : Int) : Int := if x = 0 then y else x
theorem grown3 (w : World) (o1 o2 o3 : Obj) (n : Nat) : (((w.alloc o1).alloc o2).drewN n).alloc o3 = Sort.grow (w.drewN n) (#[o1] ++ #[o2] ++ #[o3]) := by
  rw [Sort.alloc_eq_grow, Sort.alloc_eq_grow (w.alloc o1), Sort.alloc_eq_grow w, Sort.grow_grow]
  change Sort.grow (Sort.grow (w.drewN n) _) _ = _
  rw [Sort.grow_grow]

theorem writer_any (x : Int) (w : World) : Calls Try.prog 78 #[.int .i64 x] w fun e w' => e = .returned (.bool (decide (0 ≤ x ∧ x ≤ 7))) ∧ w' = w := by
  go_enter Try.func78, Try.ntmps78
  go_wp2
  all_goals
    go_ret
    refine ⟨ret_bool ?_, rfl⟩
    (try simp only [Bool.and_eq_true, decide_eq_true_eq, Bool.false_eq_true, false_iff]); omega

theorem right_any (s : S) (w : World) : Calls Try.prog 64 #[sv s] w fun e w' => e = .returned (.bool (decide (rightP s))) ∧ Below w.heap.size w w' := by
  obtain ⟨a1, a2⟩ := s
  have HR : Hid (decide (rightP (a1, a2)) = true ↔ (1 ≤ a1 ∧ a1 ≤ 1099511627776 ∧ 0 ≤ a2 ∧ a2 ≤ 7)) := (decide_eq_true_iff : _ ↔ rightP (a1, a2))
  generalize decide (rightP (a1, a2)) = p at HR ⊢
  unfold sv
  go_enter Try.func64, Try.ntmps64
  go_wp2_with (go_at_call 78; refine (writer_any _ _).mono ?_; rintro e w1 ⟨rfl, rfl⟩)
  all_goals
    go_ret
    refine ⟨ret_bool ?_, balloc (Below.refl _ w) _⟩
    rw [HR.out]
    (try simp only [Bool.and_eq_true, decide_eq_true_eq, Bool.false_eq_true, false_iff]); omega

theorem refright_any (s : S) (w : World) : Calls Try.prog 75 #[sv s] w fun e w' => e = .returned (.bool (decide (rightP s))) ∧ Below w.heap.size w w' := by
  obtain ⟨a1, a2⟩ := s
  have HR : Hid (decide (rightP (a1, a2)) = true ↔ (1 ≤ a1 ∧ a1 ≤ 1099511627776 ∧ 0 ≤ a2 ∧ a2 ≤ 7)) := (decide_eq_true_iff : _ ↔ rightP (a1, a2))
  generalize decide (rightP (a1, a2)) = p at HR ⊢
  unfold sv
  go_enter Try.func75, Try.ntmps75
  go_wp2
  all_goals
    go_ret
    refine ⟨ret_bool ?_, balloc (Below.refl _ w) _⟩
    rw [HR.out]
    (try simp only [decide_eq_true_eq, Bool.false_eq_true, false_iff]); omega

end Go.Proofs.Ytiebbglknmcnpaa
