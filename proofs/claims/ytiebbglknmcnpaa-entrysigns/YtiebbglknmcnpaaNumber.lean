/-
  The contract of layer 1's reading of one number: it answers the number whose form the bytes begin with, and how many bytes the form has; 0 and 0 where none stands.
-/
import Derived.Test.YtiebbglknmcnpaaRows
import Derived.Test.YtiebbglknmcnpaaBase
import Derived.WalkSpells
namespace Go.Proofs.Ytiebbglknmcnpaa
set_option linter.unusedVariables false
open Go.RowKit

theorem ends_any (x : Int) (i : Nat) (w : World) (hi : i < 10) : Calls Try.prog 85 #[.int .u8 x, .int .i64 i] w fun e w' => e = .returned (.bool (endsB x i)) ∧ w' = w := by
  by_cases h9 : i = 9
  · subst h9
    go_enter Try.func85, Try.ntmps85
    go_wp2
    go_ret
    exact ⟨by simp [endsB], rfl⟩
  · have h9' : ((i : Int) == 9) = false := by simp; omega
    have he : endsB x i = (x != 0 || i == 0) := by unfold endsB; rw [if_neg h9]
    have HE : Hid (endsB x i = (x != 0 || i == 0)) := he
    clear he
    by_cases hx : x = 0
    · subst hx
      go_enter Try.func85, Try.ntmps85
      go_wp2
      go_ret
      refine ⟨?_, rfl⟩
      rw [HE.out]
      show Ending.returned (.bool ((i : Int) == 0)) = _
      rcases Nat.eq_zero_or_pos i with rfl | hp
      · rfl
      · rw [show ((i : Int) == 0) = false by simp; omega, show (i == 0) = false by simp; omega]; rfl
    · have hx' : (x != 0) = true := by simpa using hx
      go_enter Try.func85, Try.ntmps85
      go_wp2
      go_ret
      refine ⟨?_, rfl⟩
      rw [HE.out, hx']
      rfl

set_option maxHeartbeats 1000000 in
set_option maxRecDepth 20000 in
theorem number_any (v : Value) (l : List Int) (w : World) (hv : Rd w v l) :
    Calls Try.prog 81 #[v] w fun e w' => e = .returned (.tuple #[.int .u64 (numAt l).1, .int .i64 (numAt l).2]) ∧ w' = w := by
  obtain ⟨ho, a, cap, rfl, h1, h2, h3, h4⟩ := hv
  unfold maxLen at h2
  by_cases h10 : l.length ≤ 10
  all_goals
    go_enter Try.func81, Try.ntmps81
    go_wp2
    go_loop [4, 9] (fun n i => ∃ k acc : Nat, k ≤ l.length ∧ k ≤ 10 ∧ i = .int .i64 k ∧ n = .int .u64 acc ∧ Hid (Upto l k acc)) (fun _ i => 10 - (intOf i).toNat)
    case atStart => exact ⟨0, 0, by omega, by omega, rfl, rfl, upto_zero l⟩
    case round =>
      obtain ⟨k, acc, hk, hk10, rfl, rfl, hu⟩ := hrel
      by_cases hlt : k < l.length ∧ k < 10
      · obtain ⟨b, off, rfl, hc⟩ := h4 (by omega)
        have ck := hc k hlt.1
        have hx := ho.at k
        obtain ⟨x, HX⟩ : ∃ x, Hid (l.getD k 0 = x) := ⟨_, rfl⟩
        rw [HX.out] at ck hx
        have hnot := not128 x hx.1 hx.2
        clear hc h4 ho
        by_cases hx1 : x < 128
        · by_cases he : endsB x k = true
          · have HN : Hid (numAt l = ((nextAcc acc k x).toNat, k + 1)) := by
              have := numAt_end hu.out hlt.1 hlt.2 (by rw [HX.out]; exact hx) (by rw [HX.out]; exact hx1) (by rw [HX.out]; exact he)
              rwa [HX.out] at this
            go_wp2_with (go_at_call 85; go_must (refine (ends_any x k _ (by omega)).mono ?_; rintro e w' ⟨rfl, rfl⟩))
            go_ret2
            refine ⟨?_, rfl⟩
            rw [HN.out, Int.toNat_of_nonneg (nextAcc_nonneg acc k x)]
            rfl
          · have he' : endsB x k = false := by simpa using he
            have HN : Hid (numAt l = (0, 0)) := numAt_bad hu.out hlt.1 hlt.2 (by rw [HX.out]; exact hx1) (by rw [HX.out]; exact he')
            go_wp2_with (go_at_call 85; go_must (refine (ends_any x k _ (by omega)).mono ?_; rintro e w' ⟨rfl, rfl⟩))
            go_ret2
            refine ⟨?_, rfl⟩
            rw [HN.out]
            rfl
        · have HN : Hid (Upto l (k + 1) (nextAcc acc k x).toNat) := by
            have := upto_more hu.out hlt.1 hlt.2 (by rw [HX.out]; exact hx) (by rw [HX.out]; exact hx1)
            rwa [HX.out] at this
          go_wp2_with (go_at_call 85; go_must (refine (ends_any x k _ (by omega)).mono ?_; rintro e w' ⟨rfl, rfl⟩))
          go_round
          case rel => exact ⟨k + 1, _, by omega, by omega, by go_num, by rw [Int.toNat_of_nonneg (nextAcc_nonneg acc k x)]; rfl, HN⟩
          case measure => simp [intOf]; omega
      · have HN : Hid (numAt l = (0, 0)) := numAt_out hu.out hk hlt
        clear ho h4
        go_wp2
        go_ret2
        refine ⟨?_, rfl⟩
        rw [HN.out]
        rfl

end Go.Proofs.Ytiebbglknmcnpaa
