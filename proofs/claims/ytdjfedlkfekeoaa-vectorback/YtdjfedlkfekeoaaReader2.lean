/-
  The contracts of the other calls of layer 1's reader: what is left, what is wrong, and how an Int, bytes, a count, a text and a word are taken; and of a reader of given bytes.
-/
import Derived.Test.YtdjfedlkfekeoaaReader
namespace Go.Proofs.Ytdjfedlkfekeoaa
set_option linter.unusedVariables false
open Go.RowKit

def doneK (l : List Int) (k : Int) : Int := if k = 0 ∧ 0 < l.length then 4 else k

theorem done_any (w : World) (b : Nat) (l : List Int) (k : Int) (h : Rdr w b l k) :
    Calls Try.prog 48 #[ptr b] w fun e w' => e = .returned (.int .i64 (doneK l k)) ∧ w' = w := by
  obtain ⟨v, hv, hrd⟩ := h.left
  obtain ⟨av, cap, rfl⟩ := hrd.len
  have hw := h.wrong
  clear h hrd
  by_cases hk : k = 0
  · subst hk
    by_cases hl : 0 < l.length
    · have HD : Hid (doneK l 0 = 4) := by show _ = _; unfold doneK; rw [if_pos ⟨rfl, hl⟩]
      go_enter Try.func48, Try.ntmps48
      go_wp2
      go_ret
      exact ⟨by rw [HD.out]; rfl, rfl⟩
    · have HD : Hid (doneK l 0 = 0) := by show _ = _; unfold doneK; rw [if_neg (fun h => hl h.2)]
      go_enter Try.func48, Try.ntmps48
      go_wp2
      go_ret
      exact ⟨by rw [HD.out]; rfl, rfl⟩
  · have HD : Hid (doneK l k = k) := by show _ = _; unfold doneK; rw [if_neg (fun h => hk h.1)]
    have hk' : (k == 0) = false := by simpa using hk
    go_enter Try.func48, Try.ntmps48
    go_wp2
    go_ret
    exact ⟨by rw [HD.out]; rfl, rfl⟩

theorem above_any (n m : Int) (w : World) (hn : 0 ≤ n) (hm : -9223372036854775808 ≤ m ∧ m ≤ 9223372036854775807) : Calls Try.prog 59 #[.int .u64 n, .int .i64 m] w fun e w' => e = .returned (.bool (decide (m < n))) ∧ w' = w := by
  by_cases h : m < 0
  · have HD : Hid (decide (m < n) = true) := by show _ = _; simp; omega
    go_enter Try.func59, Try.ntmps59
    go_wp2
    go_ret
    exact ⟨by rw [HD.out]; rfl, rfl⟩
  · go_enter Try.func59, Try.ntmps59
    go_wp2
    go_ret
    exact ⟨rfl, rfl⟩

set_option maxHeartbeats 400000 in
theorem rnum_lt (l : List Int) (k : Int) (ho : Oct l) : (rNum l k).1 < 18446744073709551616 := by
  unfold rNum
  cases hp : parse 0 l with
  | none => show 0 < _; omega
  | some q => exact (numAt_some ho hp).2.2.1

theorem half64 (n : Nat) (h : n < 18446744073709551616) : wrap64 ((n : Int) / 2) = ((n / 2 : Nat) : Int) := by
  unfold wrap64; omega
theorem odd64 (n : Nat) (h : n < 18446744073709551616) : bits .xor .i64 (-1) (wrap64 ((n : Int) / 2)) = -((n / 2 : Nat) : Int) - 1 := by
  rw [half64 n h]; exact not64 _ (by omega)

theorem Rdr.oct {w : World} {l : List Int} {b : Nat} {k : Int} (h : Rdr w b l k) : Oct l := by obtain ⟨_, _, hr⟩ := h.left; exact hr.oct

/-- What taking at most 'most' bytes makes of a reader. -/
def rBytes (l : List Int) (k most : Int) : List Int × List Int × Int :=
  if (rNum l k).2.1.length < (rNum l k).1 then ([], [], if (rNum l k).2.2 = 0 then 4 else (rNum l k).2.2)
  else if most < (rNum l k).1 then ([], [], if (rNum l k).2.2 = 0 then 3 else (rNum l k).2.2)
  else ((rNum l k).2.1.take (rNum l k).1, (rNum l k).2.1.drop (rNum l k).1, (rNum l k).2.2)

end Go.Proofs.Ytdjfedlkfekeoaa
