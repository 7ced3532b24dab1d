/-
  Stamps as pairs of numbers: how they stand, which are right; lists and numbers alone.
-/
import Derived.WalkKit
namespace Go.Proofs.Ytmifionpagpnfaa
set_option linter.unusedVariables false

/-- A stamp: its T, its W. -/
abbrev S := Int × Int
def I64 (x : Int) : Prop := -9223372036854775808 ≤ x ∧ x ≤ 9223372036854775807
def SOk (s : S) : Prop := I64 s.1 ∧ I64 s.2

def cmpI (x y : Int) : Int := if x < y then -1 else if y < x then 1 else 0
abbrev ltP (a b : S) : Prop := a.1 < b.1 ∨ a.1 = b.1 ∧ a.2 < b.2
def cmpS (a b : S) : Int := if ltP a b then -1 else if ltP b a then 1 else 0
abbrev rightP (s : S) : Prop := 1 ≤ s.1 ∧ s.1 ≤ 1099511627776 ∧ 0 ≤ s.2 ∧ s.2 ≤ 7

theorem cmpS_parts (a b : S) : cmpS a b = if cmpI a.1 b.1 = 0 then cmpI a.2 b.2 else cmpI a.1 b.1 := by
  have h1 : ltP a b ↔ (a.1 < b.1 ∨ a.1 = b.1 ∧ a.2 < b.2) := Iff.rfl
  have h2 : ltP b a ↔ (b.1 < a.1 ∨ b.1 = a.1 ∧ b.2 < a.2) := Iff.rfl
  unfold cmpS cmpI
  by_cases c1 : a.1 < b.1
  · simp [h1, c1]
  · by_cases c2 : b.1 < a.1
    · simp [h1, h2, c1, c2, show ¬ a.1 = b.1 by omega]
    · have : a.1 = b.1 := by omega
      simp [h1, h2, this]
theorem cmpI_range (x y : Int) : -1 ≤ cmpI x y ∧ cmpI x y ≤ 1 := by unfold cmpI; split <;> (try split) <;> omega
theorem cmpS_range (a b : S) : -1 ≤ cmpS a b ∧ cmpS a b ≤ 1 := by unfold cmpS; split <;> (try split) <;> omega
theorem cmpS_neg (a b : S) : cmpS a b < 0 ↔ ltP a b := by
  unfold cmpS
  split
  · simp_all
  · split <;> simp_all
theorem cmpS_zero (a b : S) : cmpS a b = 0 ↔ a = b := by
  obtain ⟨a1, a2⟩ := a
  obtain ⟨b1, b2⟩ := b
  have h1 : ltP (a1, a2) (b1, b2) ↔ (a1 < b1 ∨ a1 = b1 ∧ a2 < b2) := Iff.rfl
  have h2 : ltP (b1, b2) (a1, a2) ↔ (b1 < a1 ∨ b1 = a1 ∧ b2 < a2) := Iff.rfl
  unfold cmpS
  simp only [Prod.mk.injEq]
  by_cases c1 : ltP (a1, a2) (b1, b2)
  · rw [if_pos c1]; rw [h1] at c1; omega
  · rw [if_neg c1]
    by_cases c2 : ltP (b1, b2) (a1, a2)
    · rw [if_pos c2]; rw [h2] at c2; omega
    · rw [if_neg c2]; rw [h1] at c1; rw [h2] at c2; omega
theorem cmpS_turn (a b : S) : cmpS a b = -cmpS b a := by
  obtain ⟨a1, a2⟩ := a
  obtain ⟨b1, b2⟩ := b
  have h1 : ltP (a1, a2) (b1, b2) ↔ (a1 < b1 ∨ a1 = b1 ∧ a2 < b2) := Iff.rfl
  have h2 : ltP (b1, b2) (a1, a2) ↔ (b1 < a1 ∨ b1 = a1 ∧ b2 < a2) := Iff.rfl
  unfold cmpS
  by_cases c1 : ltP (a1, a2) (b1, b2)
  · have c2 : ¬ ltP (b1, b2) (a1, a2) := by rw [h1] at c1; rw [h2]; omega
    rw [if_pos c1, if_neg c2, if_pos c1]
  · by_cases c2 : ltP (b1, b2) (a1, a2)
    · rw [if_neg c1, if_pos c2, if_pos c2]; rfl
    · rw [if_neg c1, if_neg c2, if_neg c2, if_neg c1]; rfl
theorem ltP_trans {a b c : S} (h1 : ltP a b) (h2 : ltP b c) : ltP a c := by unfold ltP at *; omega
theorem ltP_irrefl (a : S) : ¬ ltP a a := by unfold ltP; omega
theorem ltP_total {a b : S} (h1 : ¬ ltP a b) (h2 : ¬ ltP b a) : a = b := by
  obtain ⟨a1, a2⟩ := a
  obtain ⟨b1, b2⟩ := b
  unfold ltP at *
  simp only at *
  simp only [Prod.mk.injEq]
  omega
end Go.Proofs.Ytmifionpagpnfaa
