/-
  The classes of layer 2 by plain numbers, and what the program's functions on classes answer: whatever the numbers.
-/
import Derived.Test.YtcacioogklgahaaRef
namespace Go.Proofs.Ytcacioogklgahaa
set_option linter.unusedVariables false
open Go.RowKit

/-- How many bytes the longest text of a class has. -/
def roomOf (c : Nat) : Nat := if c = 0 then 15 else if c = 1 then 31 else if c = 2 then 63 else if c = 3 then 127 else if c = 4 then 254 else if c = 5 then 510 else 1022
/-- The class of a count of bytes. -/
def cls (n : Nat) : Int := if n ≤ 15 then 0 else if n ≤ 31 then 1 else if n ≤ 63 then 2 else if n ≤ 127 then 3 else if n ≤ 254 then 4 else if n ≤ 510 then 5 else if n ≤ 1022 then 6 else -1

theorem form_len1 {n : Nat} (h : n < 128) : (form n).length = 1 := by rw [form_lt h]; rfl
theorem form_len2 {n : Nat} (h : ¬ n < 128) (h2 : n < 16384) : (form n).length = 2 := by rw [form_ge h, form_lt (by omega)]; rfl

theorem fits (c n : Nat) (hc : c < 7) : n + (form n).length ≤ 16 * 2 ^ c ↔ n ≤ roomOf c := by
  have hp := form_pos n
  have h7 : c = 0 ∨ c = 1 ∨ c = 2 ∨ c = 3 ∨ c = 4 ∨ c = 5 ∨ c = 6 := by omega
  by_cases h1 : n < 128
  · have := form_len1 h1
    rcases h7 with rfl | rfl | rfl | rfl | rfl | rfl | rfl <;> simp [roomOf] <;> omega
  · by_cases h2 : n < 16384
    · have := form_len2 h1 h2
      rcases h7 with rfl | rfl | rfl | rfl | rfl | rfl | rfl <;> simp [roomOf] <;> omega
    · rcases h7 with rfl | rfl | rfl | rfl | rfl | rfl | rfl <;> simp [roomOf] <;> omega

theorem cls_hit {c n : Nat} (hc : c < 7) (h1 : c = 0 ∨ roomOf (c - 1) < n) (h2 : n ≤ roomOf c) : cls n = c := by
  have h7 : c = 0 ∨ c = 1 ∨ c = 2 ∨ c = 3 ∨ c = 4 ∨ c = 5 ∨ c = 6 := by omega
  unfold cls
  rcases h7 with rfl | rfl | rfl | rfl | rfl | rfl | rfl <;> simp [roomOf] at h1 h2 ⊢ <;> omega
theorem cls_none {n : Nat} (h : 1022 < n) : cls n = -1 := by unfold cls; repeat (rw [if_neg (by omega)])

theorem num0_any (N : Nat) (w : World) (hN : N < 18446744073709551616) :
    Calls Try.prog 60 #[.slice none 0 0, .int .u64 N] w fun e w' => ∃ v', e = .returned v' ∧ Own w.heap.size 5 w' v' (form N) ∧ Below w.heap.size w w' := by
  have := num_any (.slice none 0 0) [] N w (rd_nil w) (by simp) hN
  simpa using this

theorem bsize_any (c : Nat) (w : World) (hc : c < 7) : Calls Try.prog 59 #[.int .i64 c] w fun e w' => e = .returned (.int .i64 ((16 * 2 ^ c : Nat) : Int)) ∧ w' = w := by
  have h7 : c = 0 ∨ c = 1 ∨ c = 2 ∨ c = 3 ∨ c = 4 ∨ c = 5 ∨ c = 6 := by omega
  rcases h7 with rfl | rfl | rfl | rfl | rfl | rfl | rfl
  all_goals
    go_enter Try.func59, Try.ntmps59
    go_wp2
    go_ret
    exact ⟨rfl, rfl⟩

theorem known_any (c : Int) (w : World) : Calls Try.prog 58 #[.int .i64 c] w fun e w' => e = .returned (.bool (decide (0 ≤ c ∧ c < 7))) ∧ w' = w := by
  by_cases h0 : 0 ≤ c
  · by_cases h1 : c < 7
    · go_enter Try.func58, Try.ntmps58
      go_wp2
      go_ret
      exact ⟨by simp [h0, h1], rfl⟩
    · go_enter Try.func58, Try.ntmps58
      go_wp2
      go_ret
      exact ⟨by simp [h1], rfl⟩
  · go_enter Try.func58, Try.ntmps58
    go_wp2
    go_ret
    exact ⟨by simp; omega, rfl⟩

set_option maxHeartbeats 400000 in
theorem holds_any (c n : Nat) (w : World) (hc : c < 7) (hn : n ≤ 9223372036854775807) :
    Calls Try.prog 47 #[.int .i64 c, .int .i64 n] w fun e w' => e = .returned (.bool (decide (n ≤ roomOf c))) ∧ Below w.heap.size w w' := by
  have HF : Hid (n + (form n).length ≤ 16 * 2 ^ c ↔ n ≤ roomOf c) := fits c n hc
  have hs : 16 * 2 ^ c ≤ 1024 := by
    have h7 : c = 0 ∨ c = 1 ∨ c = 2 ∨ c = 3 ∨ c = 4 ∨ c = 5 ∨ c = 6 := by omega
    rcases h7 with rfl | rfl | rfl | rfl | rfl | rfl | rfl <;> simp
  have hf := form_le10 (n := n) (by omega)
  have HS : Hid (∀ w, Calls Try.prog 59 #[.int .i64 c] w fun e w' => e = .returned (.int .i64 ((16 * 2 ^ c : Nat) : Int)) ∧ w' = w) := fun w => bsize_any c w hc
  generalize 16 * 2 ^ c = s at *
  go_enter Try.func47, Try.ntmps47
  go_wp2_with (first | (go_at_call 59; go_must (refine (HS.out _).mono ?_; rintro e w1 ⟨rfl, rfl⟩)) | (go_at_call 60; go_must (refine (num0_any n _ (by omega)).mono ?_; rintro e w2 ⟨v2, rfl, hown, hb⟩; obtain ⟨a2, c2, rfl⟩ := hown.rd.len)))
  go_ret
  refine ⟨congrArg (fun b => Ending.returned (.bool b)) (decide_eq_decide.2 ?_), hb⟩
  rw [← HF.out]
  omega

set_option maxHeartbeats 400000 in
theorem first_any (n : Nat) (w : World) (hn : n ≤ 9223372036854775807) :
    Calls Try.prog 46 #[.int .i64 n, .func (.func 47) #[] #[]] w fun e w' => e = .returned (.int .i64 (cls n)) ∧ Below w.heap.size w w' := by
  go_enter Try.func46, Try.ntmps46
  go_wp2
  go_loopw [6] (fun i wr => ∃ c : Nat, c ≤ 7 ∧ i = .int .i64 c ∧ Hid (c = 0 ∨ roomOf (c - 1) < n) ∧ Below w.heap.size w wr) (fun i _ => 7 - (intOf i).toNat)
  case atStart => exact ⟨0, by omega, rfl, .inl rfl, Below.refl _ _⟩
  case round =>
    obtain ⟨c, hc, rfl, hr, hb⟩ := hrel
    have HB : Hid (Below w.heap.size w wr) := hb
    clear hb
    by_cases h7 : c < 7
    · by_cases hf : n ≤ roomOf c
      · go_wp2_with (go_at_call 47; go_must (refine (holds_any c n _ h7 hn).mono ?_; rintro e w1 ⟨rfl, hb1⟩; rw [decide_eq_true hf]))
        go_ret
        refine ⟨?_, bnext HB.out hb1⟩
        rw [cls_hit h7 hr.out hf]
        rfl
      · go_wp2_with (go_at_call 47; go_must (refine (holds_any c n _ h7 hn).mono ?_; rintro e w1 ⟨rfl, hb1⟩; rw [decide_eq_false hf]))
        go_roundw
        case rel => exact ⟨c + 1, by omega, by go_num, .inr (by simpa using hf), bnext HB.out hb1⟩
        case measure => simp [intOf]; omega
    · have : c = 7 := by omega
      subst this
      have hc6 : Hid (cls n = -1) := by
        have := hr.out
        simp [roomOf] at this
        exact cls_none this
      go_wp2
      go_ret
      refine ⟨?_, HB.out⟩
      rw [hc6.out]
      rfl

/-- The class of any int. -/
def clsI (n : Int) : Int := if n < 0 then -1 else cls n.toNat
def sizeI (c : Int) : Int := if 0 ≤ c ∧ c < 7 then ((16 * 2 ^ c.toNat : Nat) : Int) else 0
def roomI (c : Int) : Int := if 0 ≤ c ∧ c < 7 then (roomOf c.toNat : Int) else -1
theorem clsI_nat (n : Nat) : clsI n = cls n := by unfold clsI; rw [if_neg (by omega)]; simp

theorem class_any (n : Int) (w : World) (hn : n ≤ 9223372036854775807) :
    Calls Try.prog 18 #[.int .i64 n] w fun e w' => e = .returned (.int .i64 (clsI n)) ∧ Below w.heap.size w w' := by
  by_cases h : n < 0
  · go_enter Try.func18, Try.ntmps18
    go_wp2
    go_ret
    refine ⟨?_, Below.refl _ _⟩
    unfold clsI
    rw [if_pos h]
    rfl
  · obtain ⟨m, rfl⟩ := Int.eq_ofNat_of_zero_le (by omega : 0 ≤ n)
    go_enter Try.func18, Try.ntmps18
    go_wp2_with (go_at_call 46; go_must (refine (first_any m _ (by omega)).mono ?_; rintro e w1 ⟨rfl, hb1⟩))
    go_ret
    refine ⟨?_, hb1⟩
    rw [clsI_nat]
    rfl

theorem size_any (c : Int) (w : World) : Calls Try.prog 44 #[.int .i64 c] w fun e w' => e = .returned (.int .i64 (sizeI c)) ∧ w' = w := by
  by_cases h : 0 ≤ c ∧ c < 7
  · obtain ⟨m, rfl⟩ := Int.eq_ofNat_of_zero_le h.1
    go_enter Try.func44, Try.ntmps44
    go_wp2_with (first | (go_at_call 58; go_must (refine (known_any _ _).mono ?_; rintro e w1 ⟨rfl, rfl⟩; rw [decide_eq_true h])) | (go_at_call 59; go_must (refine (bsize_any m _ (by omega)).mono ?_; rintro e w1 ⟨rfl, rfl⟩)))
    go_ret
    refine ⟨?_, rfl⟩
    unfold sizeI
    rw [if_pos h]
    rfl
  · go_enter Try.func44, Try.ntmps44
    go_wp2_with (go_at_call 58; go_must (refine (known_any _ _).mono ?_; rintro e w1 ⟨rfl, rfl⟩; rw [decide_eq_false h]))
    go_ret
    refine ⟨?_, rfl⟩
    unfold sizeI
    rw [if_neg h]
    rfl

end Go.Proofs.Ytcacioogklgahaa
