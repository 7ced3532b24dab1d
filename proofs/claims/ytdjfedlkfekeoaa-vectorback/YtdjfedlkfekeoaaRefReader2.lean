/-
  The contracts of the reference's reader for counts and bytes.
-/
import Derived.Test.YtdjfedlkfekeoaaRefReader
namespace Go.Proofs.Ytdjfedlkfekeoaa
set_option linter.unusedVariables false
open Go.RowKit

/-- What taking a count makes of the reference's reader. -/
def refCount (l : List Int) (k most : Int) : Nat × List Int × Int :=
  if (rNum l k).2.2 = 0 ∧ most < (rNum l k).1 then (0, [], 3) else rNum l k

theorem rNum_zero (l : List Int) (k : Int) (hk : k ≠ 0 → l = []) (h : (rNum l k).2.2 ≠ 0) : (rNum l k).1 = 0 ∧ (rNum l k).2.1 = [] := by
  unfold rNum at h ⊢
  cases hp : parse 0 l with
  | none => simp
  | some q =>
    rw [hp] at h
    have := hk h
    subst this
    simp [parse] at hp

set_option maxHeartbeats 800000 in
set_option maxRecDepth 20000 in
theorem refrcount_any (w : World) (b : Nat) (l : List Int) (k most : Int) (h : Rdr w b l k) (hm : -9223372036854775808 ≤ most ∧ most ≤ 9223372036854775807) :
    Calls Try.prog 61 #[ptr b, .int .i64 most] w fun e w' => e = .returned (.int .i64 (refCount l k most).1) ∧ Rdr w' b (refCount l k most).2.1 (refCount l k most).2.2 ∧ w.grownBy w' (some b) := by
  have HC : Hid (Calls Try.prog 62 #[ptr b] w fun e w' => e = .returned (.int .u64 (rNum l k).1) ∧ Rdr w' b (rNum l k).2.1 (rNum l k).2.2 ∧ w.grownBy w' (some b)) := refrnum_any w b l k h
  have hz := rNum_zero l k h.gone
  have hlt := rnum_lt l k h.oct
  have HD : Hid (refCount l k most = if (rNum l k).2.2 = 0 ∧ most < (rNum l k).1 then (0, [], 3) else ((rNum l k).1, (rNum l k).2.1, (rNum l k).2.2)) := rfl
  rw [show refCount l k most = _ from HD.out]
  clear HD
  generalize (rNum l k).1 = n, (rNum l k).2.1 = l', (rNum l k).2.2 = k' at *
  clear h
  by_cases hk : k' = 0
  · subst hk
    by_cases hneg : most < 0
    · rw [if_pos ⟨rfl, by omega⟩]
      go_enter Try.func61, Try.ntmps61
      go_wp2_with (first | (go_at_call 62; go_must (refine HC.out.mono ?_; rintro e w1 ⟨rfl, hr1, hg1⟩; have hw1 := hr1.wrong)) | (go_at_call 67; go_must (refine (reffail_any _ b l' 0 3 hr1).mono ?_; rintro e w2 ⟨rfl, hr2, hg2⟩)))
      go_ret
      exact ⟨rfl, hr2, grown_trans hg1 hg2 (fun k hk => .inl hk)⟩
    · by_cases hgt : most < (n : Int)
      · rw [if_pos ⟨rfl, hgt⟩]
        go_enter Try.func61, Try.ntmps61
        go_wp2_with (first | (go_at_call 62; go_must (refine HC.out.mono ?_; rintro e w1 ⟨rfl, hr1, hg1⟩; have hw1 := hr1.wrong)) | (go_at_call 67; go_must (refine (reffail_any _ b l' 0 3 hr1).mono ?_; rintro e w2 ⟨rfl, hr2, hg2⟩)))
        go_ret
        exact ⟨rfl, hr2, grown_trans hg1 hg2 (fun k hk => .inl hk)⟩
      · rw [if_neg (fun h => hgt h.2)]
        go_enter Try.func61, Try.ntmps61
        go_wp2_with (first | (go_at_call 62; go_must (refine HC.out.mono ?_; rintro e w1 ⟨rfl, hr1, hg1⟩; have hw1 := hr1.wrong)) | (go_at_call 67; go_must (refine (reffail_any _ b l' 0 3 hr1).mono ?_; rintro e w2 ⟨rfl, hr2, hg2⟩)))
        go_ret
        exact ⟨rfl, hr1, hg1⟩
  · obtain ⟨rfl, rfl⟩ := hz hk
    rw [if_neg (fun h => hk h.1)]
    have hk' : (k' == 0) = false := by simpa using hk
    go_enter Try.func61, Try.ntmps61
    go_wp2_with (first | (go_at_call 62; go_must (refine HC.out.mono ?_; rintro e w1 ⟨rfl, hr1, hg1⟩; have hw1 := hr1.wrong)))
    go_ret
    exact ⟨rfl, hr1, hg1⟩

/-- What taking bytes makes of the reference's reader. -/
def refBytes (l : List Int) (k most : Int) : List Int × List Int × Int :=
  if (refCount l k most).2.2 ≠ 0 then ([], (refCount l k most).2.1, (refCount l k most).2.2)
  else if (refCount l k most).2.1.length < (refCount l k most).1 then ([], [], 4)
  else ((refCount l k most).2.1.take (refCount l k most).1, (refCount l k most).2.1.drop (refCount l k most).1, 0)

end Go.Proofs.Ytdjfedlkfekeoaa
