/-
  The classes of layer 2 by plain numbers, and what the program's functions on classes answer: whatever the numbers.
-/
import Derived.Test.YtiebbglknmcnpaaRef
namespace Go.Proofs.Ytiebbglknmcnpaa
set_option linter.unusedVariables false
open Go.RowKit

/-- How many bytes the longest text of a class has. -/
def roomOf (c : Nat) : Nat := if c = 0 then 15 else if c = 1 then 31 else if c = 2 then 63 else if c = 3 then 127 else if c = 4 then 254 else if c = 5 then 510 else 1022
/-- The class of a count of bytes. -/
def cls (n : Nat) : Int := if n ≤ 15 then 0 else if n ≤ 31 then 1 else if n ≤ 63 then 2 else if n ≤ 127 then 3 else if n ≤ 254 then 4 else if n ≤ 510 then 5 else if n ≤ 1022 then 6 else -1

theorem form_len1 {n : Nat} (h : n < 128) : (form n).length = 1 := by rw [form_lt h]; rfl
theorem form_len2 {n : Nat} (h : ¬ n < 128) (h2 : n < 16384) : (form n).length = 2 := by rw [form_ge h, form_lt (by omega)]; rfl

theorem fits (c n : Nat) (hc : c < 7) : n + (form n).length ≤ 16 * 2 ^ c ↔ n ≤ roomOf c := by
  have hp := form_pos n
  have h7 : c = 0 ∨ c = 1 ∨ c = 2 ∨ c = 3 ∨ c = 4 ∨ c = 5 ∨ c = 6 := by omega
  by_cases h1 : n < 128
  · have := form_len1 h1
    rcases h7 with rfl | rfl | rfl | rfl | rfl | rfl | rfl <;> simp [roomOf] <;> omega
  · by_cases h2 : n < 16384
    · have := form_len2 h1 h2
      rcases h7 with rfl | rfl | rfl | rfl | rfl | rfl | rfl <;> simp [roomOf] <;> omega
    · rcases h7 with rfl | rfl | rfl | rfl | rfl | rfl | rfl <;> simp [roomOf] <;> omega

theorem cls_hit {c n : Nat} (hc : c < 7) (h1 : c = 0 ∨ roomOf (c - 1) < n) (h2 : n ≤ roomOf c) : cls n = c := by
  have h7 : c = 0 ∨ c = 1 ∨ c = 2 ∨ c = 3 ∨ c = 4 ∨ c = 5 ∨ c = 6 := by omega
  unfold cls
  rcases h7 with rfl | rfl | rfl | rfl | rfl | rfl | rfl <;> simp [roomOf] at h1 h2 ⊢ <;> omega
theorem cls_none {n : Nat} (h : 1022 < n) : cls n = -1 := by unfold cls; repeat (rw [if_neg (by omega)])

theorem num0_any (N : Nat) (w : World) (hN : N < 18446744073709551616) :
    Calls Try.prog 63 #[.slice none 0 0, .int .u64 N] w fun e w' => ∃ v', e = .returned v' ∧ Own w.heap.size 5 w' v' (form N) ∧ Below w.heap.size w w' := by
  have := num_any (.slice none 0 0) [] N w (rd_nil w) (by simp) hN
  simpa using this

/-- The class of any int. -/
def clsI (n : Int) : Int := if n < 0 then -1 else cls n.toNat
def sizeI (c : Int) : Int := if 0 ≤ c ∧ c < 7 then ((16 * 2 ^ c.toNat : Nat) : Int) else 0
def roomI (c : Int) : Int := if 0 ≤ c ∧ c < 7 then (roomOf c.toNat : Int) else -1
theorem clsI_nat (n : Nat) : clsI n = cls n := by unfold clsI; rw [if_neg (by omega)]; simp

end Go.Proofs.Ytiebbglknmcnpaa
