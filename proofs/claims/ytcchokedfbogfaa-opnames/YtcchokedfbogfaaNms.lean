/-
  Names: what a byte more, and a byte less, makes of one.
-/
import Derived.Test.YtcchokedfbogfaaAlv
import Derived.Lib.SmallJoins
namespace Go.Proofs.Ytcchokedfbogfaa
set_option linter.unusedVariables false
set_option linter.unusedSimpArgs false
set_option synthInstance.maxSize 20000
set_option maxHeartbeats 2000000
set_option maxRecDepth 20000
open Go.RowKit Go.Maps

theorem bar_iff (n : Nat) : bar n = true ↔ n < 32 ∨ n = 127 ∨ n = 47 ∨ n = 126 := by
  unfold bar
  simp
  omega
theorem name_iff (s : ByteArray) : nameB s = true ↔ (1 ≤ s.data.toList.length ∧ s.data.toList.length ≤ 24) ∧ s.data.toList ≠ [46] ∧ s.data.toList ≠ [46, 46] ∧ ∀ b ∈ s.data.toList, bar b.toNat = false := by
  unfold nameB hasBar
  rw [ByteArray.toList_eq]
  have e : s.size = s.data.toList.length := by simp
  rw [e]
  simp only [Bool.and_eq_true, decide_eq_true_eq, Bool.not_eq_true', beq_eq_false_iff_ne, List.any_eq_false, ne_eq]
  constructor
  · rintro ⟨⟨⟨h1, h2⟩, h3⟩, h4⟩
    exact ⟨h1, h2, h3, fun b hb => by simpa using h4 b hb⟩
  · rintro ⟨h1, h2, h3, h4⟩
    exact ⟨⟨⟨h1, h2⟩, h3⟩, fun b hb => by simp [h4 b hb]⟩
theorem one_str (c : Int) (hc : 0 ≤ c ∧ c < 256) : ∃ u : UInt8, (strOfNums [c]).data.toList = [u] ∧ (u.toNat : Int) = c := by
  refine ⟨UInt8.ofNat c.toNat, rfl, ?_⟩
  simp
  omega
/-- With a byte more. -/
theorem name_more {s : ByteArray} {c : Int} (hc : 0 ≤ c ∧ c < 256) (h : nameB s = true) : nameB (s ++ strOfNums [c]) = (decide (32 ≤ c) && decide (c ≠ 127) && decide (c ≠ 47) && decide (c ≠ 126) && decide (s.size + 1 ≤ 24) && !((s ++ strOfNums [c]).toList == [46, 46])) := by
  obtain ⟨u, hu, huc⟩ := one_str c hc
  obtain ⟨h1, h2, h3, h4⟩ := (name_iff s).1 h
  have e : (s ++ strOfNums [c]).data.toList = s.data.toList ++ [u] := by rw [Joins.data_append, hu]
  have es : s.size = s.data.toList.length := by simp
  rw [Bool.eq_iff_iff, name_iff, ByteArray.toList_eq, e]
  have hb : bar u.toNat = false ↔ (32 ≤ c ∧ c ≠ 127 ∧ c ≠ 47 ∧ c ≠ 126) := by
    have := bar_iff u.toNat
    constructor
    · intro hf
      have hn : ¬ (u.toNat < 32 ∨ u.toNat = 127 ∨ u.toNat = 47 ∨ u.toNat = 126) := fun k => by rw [this.2 k] at hf; cases hf
      omega
    · intro hk
      cases hf : bar u.toNat
      · rfl
      · have := this.1 hf
        omega
  have hne : s.data.toList ++ [u] ≠ [46] := fun k => by
    have := congrArg List.length k
    rw [List.length_append, List.length_singleton, List.length_singleton] at this
    have h11 := h1.1
    omega
  simp only [Bool.and_eq_true, decide_eq_true_eq, Bool.not_eq_true', beq_eq_false_iff_ne, ne_eq, List.length_append, List.length_singleton, List.mem_append, List.mem_singleton]
  constructor
  · rintro ⟨k1, k2, k3, k4⟩
    have := hb.1 (k4 u (.inr rfl))
    exact ⟨⟨⟨⟨⟨this.1, this.2.1⟩, this.2.2.1⟩, this.2.2.2⟩, by omega⟩, k3⟩
  · rintro ⟨⟨⟨⟨⟨k1, k2⟩, k3⟩, k4⟩, k5⟩, k6⟩
    refine ⟨⟨by omega, by omega⟩, hne, k6, fun b hb2 => ?_⟩
    rcases hb2 with hb2 | rfl
    · exact h4 b hb2
    · exact hb.2 ⟨k1, k2, k3, k4⟩
/-- With a byte less. -/
theorem name_less {s : ByteArray} {n : Nat} (hn : s.size = n + 1) (h : nameB s = true) : nameB (s.extract 0 n) = (!((s.extract 0 n).toList == []) && !((s.extract 0 n).toList == [46]) && !((s.extract 0 n).toList == [46, 46])) := by
  obtain ⟨h1, h2, h3, h4⟩ := (name_iff s).1 h
  have e : (s.extract 0 n).data.toList = s.data.toList.take n := by rw [Lib.extract_data]; simp
  have es : s.size = s.data.toList.length := by simp
  rw [Bool.eq_iff_iff, name_iff, ByteArray.toList_eq, e]
  simp only [Bool.and_eq_true, Bool.not_eq_true', beq_eq_false_iff_ne, ne_eq]
  constructor
  · rintro ⟨k1, k2, k3, k4⟩
    exact ⟨⟨fun k => by rw [k] at k1; simp at k1, k2⟩, k3⟩
  · rintro ⟨⟨k1, k2⟩, k3⟩
    refine ⟨⟨?_, ?_⟩, k2, k3, fun b hb => h4 b (List.mem_of_mem_take hb)⟩
    · rcases Nat.eq_zero_or_pos (s.data.toList.take n).length with k | k
      · exact absurd (List.eq_nil_of_length_eq_zero k) k1
      · exact k
    · rw [List.length_take]; omega
theorem name_e0 : nameB ⟨#[]⟩ = false := by decide +kernel
theorem name_e1 : nameB ⟨#[46]⟩ = false := by
  cases h : nameB ⟨#[46]⟩
  · rfl
  · exact absurd rfl ((name_iff _).1 h).2.1
theorem name_e2 : nameB ⟨#[46, 46]⟩ = false := by
  cases h : nameB ⟨#[46, 46]⟩
  · rfl
  · exact absurd rfl ((name_iff _).1 h).2.2.1
end Go.Proofs.Ytcchokedfbogfaa
