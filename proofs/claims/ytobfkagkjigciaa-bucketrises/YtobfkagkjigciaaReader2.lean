/-
  The contracts of the other calls of layer 1's reader: what is left, what is wrong, and how an Int, bytes, a count, a text and a word are taken; and of a reader of given bytes.
-/
import Derived.Test.YtobfkagkjigciaaReader
namespace Go.Proofs.Ytobfkagkjigciaa
set_option linter.unusedVariables false
open Go.RowKit

theorem left_any (w : World) (b : Nat) (l : List Int) (k : Int) (h : Rdr w b l k) :
    Calls Try.prog 38 #[ptr b] w fun e w' => e = .returned (.int .i64 l.length) ∧ w' = w := by
  have H : Hid (Rdr w b l k) := h
  clear h
  go_enter Try.func38, Try.ntmps38
  go_wp2_with (first | (go_at_call 45; go_must (refine (rest_any _ b l k H.out).mono ?_; rintro e w' ⟨⟨v', rfl, hv', hrd'⟩, rfl⟩; obtain ⟨av, cap, rfl⟩ := hrd'.len)))
  go_ret
  exact ⟨rfl, rfl⟩

def doneK (l : List Int) (k : Int) : Int := if k = 0 ∧ 0 < l.length then 4 else k

theorem above_any (n m : Int) (w : World) (hn : 0 ≤ n) (hm : -9223372036854775808 ≤ m ∧ m ≤ 9223372036854775807) : Calls Try.prog 40 #[.int .u64 n, .int .i64 m] w fun e w' => e = .returned (.bool (decide (m < n))) ∧ w' = w := by
  by_cases h : m < 0
  · have HD : Hid (decide (m < n) = true) := by show _ = _; simp; omega
    go_enter Try.func40, Try.ntmps40
    go_wp2
    go_ret
    exact ⟨by rw [HD.out]; rfl, rfl⟩
  · go_enter Try.func40, Try.ntmps40
    go_wp2
    go_ret
    exact ⟨rfl, rfl⟩

set_option maxHeartbeats 400000 in
theorem rnum_lt (l : List Int) (k : Int) (ho : Oct l) : (rNum l k).1 < 18446744073709551616 := by
  unfold rNum
  cases hp : parse 0 l with
  | none => show 0 < _; omega
  | some q => exact (numAt_some ho hp).2.2.1

theorem half64 (n : Nat) (h : n < 18446744073709551616) : wrap64 ((n : Int) / 2) = ((n / 2 : Nat) : Int) := by
  unfold wrap64; omega
theorem odd64 (n : Nat) (h : n < 18446744073709551616) : bits .xor .i64 (-1) (wrap64 ((n : Int) / 2)) = -((n / 2 : Nat) : Int) - 1 := by
  rw [half64 n h]; exact not64 _ (by omega)

theorem Rdr.oct {w : World} {l : List Int} {b : Nat} {k : Int} (h : Rdr w b l k) : Oct l := by obtain ⟨_, _, hr⟩ := h.left; exact hr.oct

/-- What taking at most 'most' bytes makes of a reader. -/
def rBytes (l : List Int) (k most : Int) : List Int × List Int × Int :=
  if (rNum l k).2.1.length < (rNum l k).1 then ([], [], if (rNum l k).2.2 = 0 then 4 else (rNum l k).2.2)
  else if most < (rNum l k).1 then ([], [], if (rNum l k).2.2 = 0 then 3 else (rNum l k).2.2)
  else ((rNum l k).2.1.take (rNum l k).1, (rNum l k).2.1.drop (rNum l k).1, (rNum l k).2.2)

set_option maxHeartbeats 400000 in
set_option maxRecDepth 20000 in
theorem take_any (w : World) (b : Nat) (l : List Int) (k : Int) (n : Nat) (h : Rdr w b l k) (hn : n ≤ l.length) (hl : l.length ≤ 1000000000) :
    Calls Try.prog 41 #[ptr b, .int .i64 n] w fun e w' => ∃ v, e = .returned v ∧ Rd w' v (l.take n) ∧ Rdr w' b (l.drop n) k ∧ w.grownBy w' (some b) := by
  by_cases h0 : n = 0
  · subst h0
    go_enter Try.func41, Try.ntmps41
    go_wp2
    go_ret
    refine ⟨_, rfl, rd_nil w, by simpa using h, grown_refl _ _⟩
  · have h0' : ((n : Int) == 0) = false := by simp; omega
    obtain ⟨v, hv, hrd⟩ := h.left
    obtain ⟨av, cap, rfl⟩ := hrd.len
    have hc := hrd.cap.2
    have hf0 := h.f0
    have H : Hid (Rdr w b l k) := h
    have hlt := h.lt
    clear h h0
    go_enter Try.func41, Try.ntmps41
    go_wp2_with (first | (go_at_call 36; go_must (refine (apart_any _ (l.take n) 0 _ (rd_head hrd hn) (by simp; omega) (by omega)).mono ?_; rintro e w' ⟨v', rfl, hown, hb⟩; have hv1 := (hb.cell (p := ⟨b, 0, none⟩) hlt).trans hv; have hf1 := (hb.frozen (p := ⟨b, 0, none⟩) hlt).trans hf0)))
    all_goals
      go_ret
      have hr1 := H.out.kept (below_grown hb)
      have hrd1 := hrd.below hb
      have hcut : Rd w' (.slice av l.length cap) l := hrd1
      refine ⟨_, rfl, hown.rd.past hr1 (grown_setCell w' b 0 _), hr1.setLeft ?_ (fun hk => ?_), grown_none (below_grown hb) (grown_setCell w' b 0 _)⟩
      · first
          | exact rd_cut hrd1 hn ‹_›
          | (have hcs : cap = n := ‹_›
             subst hcs
             exact rd_cut0 hrd1 hn)
      · have := H.out.gone hk
        rw [this]; simp

end Go.Proofs.Ytobfkagkjigciaa
