/-
  The number that bytes begin with, as the reference reckons it: from the last byte of its form down to the first.
-/
import Derived.Test.YtdjfedlkfekeoaaMath
namespace Go.Proofs.Ytdjfedlkfekeoaa
set_option linter.unusedVariables false
open Go.RowKit

/-- Seven bits a byte, the least first. -/
def val : List Int → Nat
  | [] => 0
  | x :: r => (x % 128).toNat + 128 * val r

theorem val_drop_le (m : List Int) : ∀ j, val (m.drop j) ≤ val m := by
  induction m with
  | nil => intro j; simp
  | cons x r ih =>
    intro j
    cases j with
    | zero => simp
    | succ j =>
      have := ih j
      simp only [List.drop_succ_cons, val]
      omega

theorem val_step {m : List Int} {j : Nat} (h : j < m.length) : val (m.drop j) = val (m.drop (j + 1)) * 128 + (m.getD j 0 % 128).toNat := by
  rw [drop_at h, val]
  omega

theorem parse_at : ∀ (k i : Nat) (l : List Int), Oct l → k < l.length → (∀ j, j < k → ¬ l.getD j 0 < 128) → l.getD k 0 < 128 → i + k < 10 →
    parse i l = if endsB (l.getD k 0) (i + k) then some (val (l.take (k + 1)), l.drop (k + 1)) else none := by
  intro k
  induction k with
  | zero =>
    intro i l ho hk hj hlt hi
    cases l with
    | nil => simp at hk
    | cons x r =>
      have hx := ho x (by simp)
      simp only [List.getD_cons_zero] at hlt ⊢
      rw [parse, if_neg (by omega), if_pos hlt]
      simp only [Nat.add_zero, Nat.zero_add, List.take_succ_cons, List.take_zero, val, List.drop_succ_cons, List.drop_zero]
      rw [Int.emod_eq_of_lt hx.1 hlt]
      simp
  | succ k ih =>
    intro i l ho hk hj hlt hi
    cases l with
    | nil => simp at hk
    | cons x r =>
      have hx := ho x (by simp)
      have h0 := hj 0 (by omega)
      simp only [List.getD_cons_zero] at h0
      simp only [List.getD_cons_succ] at hlt ⊢
      have := ih (i + 1) r (fun y hy => ho y (by simp [hy])) (by simpa using hk) (fun j hj' => by have := hj (j + 1) (by omega); simpa using this) hlt (by omega)
      rw [parse, if_neg (by omega), if_neg h0, this, show i + 1 + k = i + (k + 1) by omega]
      have e1 : (x - 128).toNat = (x % 128).toNat := by omega
      by_cases he : endsB (r.getD k 0) (i + (k + 1)) = true
      · rw [if_pos he, if_pos he]
        simp [val, e1]
      · rw [if_neg he, if_neg he]
        rfl

theorem parse_out : ∀ (k i : Nat) (l : List Int), k ≤ l.length → (∀ j, j < k → ¬ l.getD j 0 < 128) → (k = l.length ∨ 10 ≤ i + k) → parse i l = none := by
  intro k
  induction k with
  | zero =>
    intro i l hk hj h
    cases l with
    | nil => rfl
    | cons x r =>
      have : 10 ≤ i := by rcases h with h | h <;> simp at h <;> omega
      rw [parse, if_pos this]
  | succ k ih =>
    intro i l hk hj h
    cases l with
    | nil => simp at hk
    | cons x r =>
      have h0 := hj 0 (by omega)
      simp only [List.getD_cons_zero] at h0
      have := ih (i + 1) r (by simpa using hk) (fun j hj' => by have := hj (j + 1) (by omega); simpa using this) (by simp only [List.length_cons] at h; omega)
      rw [parse, this]
      split
      · rfl
      · rfl
end Go.Proofs.Ytdjfedlkfekeoaa
