/-
  The contracts of layer 1's reader for bytes, counts and words, and of a reader of given bytes.
-/
import Derived.Test.YtdjfedlkfekeoaaReader2
namespace Go.Proofs.Ytdjfedlkfekeoaa
set_option linter.unusedVariables false
open Go.RowKit

theorem rNum_len (l : List Int) (k : Int) (ho : Oct l) : (rNum l k).2.1.length ≤ l.length := by
  unfold rNum
  cases hp : parse 0 l with
  | none => simp
  | some q =>
    have := congrArg List.length (numAt_some ho hp).2.1
    simp only [List.length_append] at this
    show q.2.length ≤ _
    omega

/-- What taking a word makes of a reader. -/
def rBool (l : List Int) (k : Int) : Bool × List Int × Int :=
  if 1 < (rNum l k).1 then (false, [], if (rNum l k).2.2 = 0 then 4 else (rNum l k).2.2) else (decide ((rNum l k).1 = 1), (rNum l k).2.1, (rNum l k).2.2)

/-- What taking a count of at most 'most' makes of a reader. -/
def rCount (l : List Int) (k most : Int) : Int × List Int × Int :=
  if most < (rNum l k).1 then (0, [], if (rNum l k).2.2 = 0 then 3 else (rNum l k).2.2) else ((rNum l k).1, (rNum l k).2.1, (rNum l k).2.2)

set_option maxHeartbeats 400000 in
set_option maxRecDepth 20000 in
theorem rcount_any (w : World) (b : Nat) (l : List Int) (k most : Int) (h : Rdr w b l k) (hm : -9223372036854775808 ≤ most ∧ most ≤ 9223372036854775807) :
    Calls Try.prog 46 #[ptr b, .int .i64 most] w fun e w' => e = .returned (.int .i64 (rCount l k most).1) ∧ Rdr w' b (rCount l k most).2.1 (rCount l k most).2.2 ∧ w.grownBy w' (some b) := by
  have H : Hid (Rdr w b l k) := h
  obtain ⟨n, hn⟩ : ∃ n, n = (rNum l k).1 := ⟨_, rfl⟩
  have HNN : Hid (n = (rNum l k).1) := hn
  have HB : Hid (rCount l k most = if most < (n : Int) then (0, [], if (rNum l k).2.2 = 0 then 3 else (rNum l k).2.2) else ((n : Int), (rNum l k).2.1, (rNum l k).2.2)) := by
    show _ = _; unfold rCount; rw [hn]
  clear h hn
  by_cases h2 : most < (n : Int)
  · have h2' : decide (most < (n : Int)) = true := by simpa using h2
    go_enter Try.func46, Try.ntmps46
    go_wp2_with (first | (go_at_call 58; go_must (refine (rnum_any _ b l k H.out).mono ?_; rw [← HNN.out]; rintro e w1 ⟨rfl, hr1, hg1⟩)) | (go_at_call 59; go_must (refine (above_any n most _ (by omega) hm).mono ?_; rintro e w2 ⟨rfl, rfl⟩)) | (go_at_call 60; go_must (refine (fail_any _ b _ _ 3 hr1).mono ?_; rintro e w3 ⟨rfl, hr3, hg3⟩)))
    go_ret
    rw [HB.out, if_pos h2]
    exact ⟨rfl, hr3, grown_trans hg1 hg3 (fun _ h => .inl h)⟩
  · have h2' : decide (most < (n : Int)) = false := by simpa using h2
    go_enter Try.func46, Try.ntmps46
    go_wp2_with (first | (go_at_call 58; go_must (refine (rnum_any _ b l k H.out).mono ?_; rw [← HNN.out]; rintro e w1 ⟨rfl, hr1, hg1⟩)) | (go_at_call 59; go_must (refine (above_any n most _ (by omega) hm).mono ?_; rintro e w2 ⟨rfl, rfl⟩)) | (go_at_call 60; go_must (refine (fail_any _ b _ _ 3 hr1).mono ?_; rintro e w3 ⟨rfl, hr3, hg3⟩)))
    go_ret
    rw [HB.out, if_neg (by omega)]
    exact ⟨rfl, hr1, hg1⟩

theorem rdr_new (w : World) (v : Value) (l : List Int) (t : TypeId) (h : Rd w v l) : Rdr (w.alloc (.cells #[v, .int .i64 0] t)) w.heap.size l 0 := by
  refine ⟨⟨v, by simp, h.kept0 (World.grownBy_alloc w _ none)⟩, by simp, by simp, by simp, fun o ho => ?_, fun h => absurd rfl h⟩
  rw [World.cell?_alloc_new]
  exact Array.getElem?_eq_none (by simpa using ho)

set_option maxHeartbeats 400000 in
theorem read_any (w : World) (v : Value) (l : List Int) (h : Rd w v l) (hl : l.length ≤ 1000000000) :
    Calls Try.prog 45 #[v] w fun e w' => ∃ b, e = .returned (ptr b) ∧ w.heap.size ≤ b ∧ Rdr w' b l 0 ∧ w.grownBy w' none := by
  go_enter Try.func45, Try.ntmps45
  go_wp2_with (first | (go_at_call 57; go_must (refine (apart_any _ l 0 _ h hl (by omega)).mono ?_; rintro e w1 ⟨v1, rfl, hown, hb⟩; obtain ⟨av, cap, rfl⟩ := hown.rd.len)))
  go_ret
  exact ⟨w1.heap.size, rfl, hb.size, rdr_new w1 _ l 84 hown.rd, grown_none (below_grown hb) (World.grownBy_alloc w1 _ none)⟩

end Go.Proofs.Ytdjfedlkfekeoaa
