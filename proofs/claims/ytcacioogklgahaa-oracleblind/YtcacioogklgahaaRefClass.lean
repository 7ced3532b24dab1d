/-
  The reference's classes: its Size, Class and Room answer the same numbers.
-/
import Derived.Test.YtcacioogklgahaaClass
namespace Go.Proofs.Ytcacioogklgahaa
set_option linter.unusedVariables false
open Go.RowKit

set_option maxHeartbeats 400000 in
theorem refsize_any (c : Int) (w : World) (hc : -9223372036854775808 ≤ c ∧ c ≤ 9223372036854775807) : Calls Try.prog 54 #[.int .i64 c] w fun e w' => e = .returned (.int .i64 (sizeI c)) ∧ Below w.heap.size w w' := by
  by_cases h : 0 ≤ c ∧ c < 7
  · have h7 : c = 0 ∨ c = 1 ∨ c = 2 ∨ c = 3 ∨ c = 4 ∨ c = 5 ∨ c = 6 := by omega
    rcases h7 with rfl | rfl | rfl | rfl | rfl | rfl | rfl
    all_goals
      go_enter Try.func54, Try.ntmps54
      go_wp2
      go_ret
      exact ⟨rfl, (Below.refl _ _).alloc (Nat.le_refl _) _⟩
  · have HZ : Hid (sizeI c = 0) := by show _ = _; unfold sizeI; rw [if_neg h]
    by_cases h0 : c < 0
    · go_enter Try.func54, Try.ntmps54
      go_wp2
      go_ret
      refine ⟨?_, (Below.refl _ _).alloc (Nat.le_refl _) _⟩
      rw [HZ.out]
      rfl
    · go_enter Try.func54, Try.ntmps54
      go_wp2
      go_ret
      refine ⟨?_, (Below.refl _ _).alloc (Nat.le_refl _) _⟩
      rw [HZ.out]
      rfl

theorem sizeI_nat (c : Nat) (hc : c < 7) : sizeI c = ((16 * 2 ^ c : Nat) : Int) := by unfold sizeI; rw [if_pos (by omega)]; simp
theorem sizeI_le (c : Int) : 0 ≤ sizeI c ∧ sizeI c ≤ 1024 := by
  unfold sizeI
  split
  · rename_i h
    have h7 : c = 0 ∨ c = 1 ∨ c = 2 ∨ c = 3 ∨ c = 4 ∨ c = 5 ∨ c = 6 := by omega
    rcases h7 with rfl | rfl | rfl | rfl | rfl | rfl | rfl <;> simp
  · simp

theorem clsI_big (n : Int) (h : n < 0 ∨ n > 2000) : clsI n = -1 := by
  unfold clsI
  by_cases h0 : n < 0
  · rw [if_pos h0]
  · rw [if_neg h0, cls_none (by omega)]

set_option maxHeartbeats 400000 in
theorem refclass_any (n : Int) (w : World) (hn : -9223372036854775808 ≤ n ∧ n ≤ 9223372036854775807) :
    Calls Try.prog 52 #[.int .i64 n] w fun e w' => e = .returned (.int .i64 (clsI n)) ∧ Below w.heap.size w w' := by
  by_cases h0 : n < 0
  · go_enter Try.func52, Try.ntmps52
    go_wp2
    go_ret
    refine ⟨?_, Below.refl _ _⟩
    rw [clsI_big n (.inl h0)]
    rfl
  · by_cases h1 : n > 2000
    · go_enter Try.func52, Try.ntmps52
      go_wp2
      go_ret
      refine ⟨?_, Below.refl _ _⟩
      rw [clsI_big n (.inr h1)]
      rfl
    · obtain ⟨m, rfl⟩ := Int.eq_ofNat_of_zero_le (by omega : 0 ≤ n)
      have hf := form_le10 (n := m) (by omega)
      go_enter Try.func52, Try.ntmps52
      go_wp2
      go_loopw [3] (fun i wr => ∃ c : Nat, c ≤ 7 ∧ i = .int .i64 c ∧ Hid (c = 0 ∨ roomOf (c - 1) < m) ∧ Below w.heap.size w wr) (fun i _ => 7 - (intOf i).toNat)
      case atStart => exact ⟨0, by omega, rfl, .inl rfl, Below.refl _ _⟩
      case round =>
        obtain ⟨c, hc, rfl, hr, hb⟩ := hrel
        have HB : Hid (Below w.heap.size w wr) := hb
        clear hb
        by_cases h7 : c < 7
        · have HF : Hid (m + (form m).length ≤ 16 * 2 ^ c ↔ m ≤ roomOf c) := fits c m h7
          have hs := sizeI_le c
          have hsz := sizeI_nat c h7
          have HS : Hid (∀ w, Calls Try.prog 54 #[.int .i64 c] w fun e w' => e = .returned (.int .i64 ((16 * 2 ^ c : Nat) : Int)) ∧ Below w.heap.size w w') := fun w => by
            have := refsize_any c w (by omega)
            rwa [hsz] at this
          rw [hsz] at hs
          clear hsz
          generalize 16 * 2 ^ c = s at *
          by_cases hle : m + (form m).length ≤ s
          · go_wp2_with (first | (go_at_call 64; go_must (refine (refnum m _ (by omega)).mono ?_; rintro e w1 ⟨v1, rfl, hown, hb1⟩; obtain ⟨a1, c1, rfl⟩ := hown.rd.len)) | (go_at_call 54; go_must (refine (HS.out _).mono ?_; rintro e w2 ⟨rfl, hb2⟩)))
            go_ret
            refine ⟨?_, bnext (bnext HB.out hb1) hb2⟩
            rw [clsI_nat, cls_hit h7 hr.out (HF.out.1 hle)]
            rfl
          · have hnf : Hid (¬ m ≤ roomOf c) := fun h => hle (HF.out.2 h)
            go_wp2_with (first | (go_at_call 64; go_must (refine (refnum m _ (by omega)).mono ?_; rintro e w1 ⟨v1, rfl, hown, hb1⟩; obtain ⟨a1, c1, rfl⟩ := hown.rd.len)) | (go_at_call 54; go_must (refine (HS.out _).mono ?_; rintro e w2 ⟨rfl, hb2⟩)))
            go_roundw
            case rel => exact ⟨c + 1, by omega, by go_num, .inr (by simpa using hnf.out), bnext (bnext HB.out hb1) hb2⟩
            case measure => simp [intOf]; omega
        · have : c = 7 := by omega
          subst this
          have hc6 : Hid (cls m = -1) := by
            have := hr.out
            simp [roomOf] at this
            exact cls_none this
          go_wp2
          go_ret
          refine ⟨?_, HB.out⟩
          rw [clsI_nat, hc6.out]
          rfl

theorem cls_le (c m : Nat) (hc : c < 7) : (0 ≤ cls m ∧ cls m ≤ c) ↔ m ≤ roomOf c := by
  have h7 : c = 0 ∨ c = 1 ∨ c = 2 ∨ c = 3 ∨ c = 4 ∨ c = 5 ∨ c = 6 := by omega
  unfold cls
  rcases h7 with rfl | rfl | rfl | rfl | rfl | rfl | rfl <;> simp [roomOf] <;> (repeat' split) <;> omega

theorem cls_lt (m : Nat) : -1 ≤ cls m ∧ cls m < 7 := by unfold cls; (repeat' split) <;> omega

end Go.Proofs.Ytcacioogklgahaa
