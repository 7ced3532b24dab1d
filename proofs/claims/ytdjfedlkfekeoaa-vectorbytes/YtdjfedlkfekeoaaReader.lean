/-
  The contracts of layer 1's reader, by a state of two parts: the bytes that are left, and what is wrong.
-/
import Derived.Test.YtdjfedlkfekeoaaPut
import Derived.Test.YtdjfedlkfekeoaaNumber
namespace Go.Proofs.Ytdjfedlkfekeoaa
set_option linter.unusedVariables false
open Go.RowKit

/-- Block b holds a reader: the bytes l are left, k is wrong (0: nothing). -/
structure Rdr (w : World) (b : Nat) (l : List Int) (k : Int) : Prop where
  left : ∃ v, w.cell? ⟨b, 0, none⟩ = some v ∧ Rd w v l
  wrong : w.cell? ⟨b, 1, none⟩ = some (.int .i64 k)
  f0 : w.frozen? ⟨b, 0, none⟩ = false
  f1 : w.frozen? ⟨b, 1, none⟩ = false
  two : ∀ o, 2 ≤ o → w.cell? ⟨b, o, none⟩ = none
  gone : k ≠ 0 → l = []

abbrev ptr (b : Nat) : Value := .pointer (some ⟨b, 0, none⟩)

theorem grown_setCell (w : World) (b o : Nat) (u : Value) : w.grownBy (w.setCell ⟨b, o, none⟩ u) (some b) :=
  ⟨rfl, rfl, rfl, by simp, fun k _ hne => Below.heap_setCell w _ _ k (fun e => hne (by rw [e]))⟩

/-- What is read stays so while a reader is written. -/
theorem Rd.past {w w' : World} {v : Value} {l m : List Int} {b : Nat} {k : Int} (h : Rd w v l) (hr : Rdr w b m k) (hg : w.grownBy w' (some b)) : Rd w' v l := by
  obtain ⟨ho, a, cap, rfl, h1, h2, h3, h4⟩ := h
  refine ⟨ho, a, cap, rfl, h1, h2, h3, fun hp => ?_⟩
  obtain ⟨c, off, rfl, hc⟩ := h4 hp
  refine ⟨c, off, rfl, fun j hj => hg.cell (hc j hj) fun e => ?_⟩
  obtain rfl : c = b := by simpa using e
  have hcj := hc j hj
  obtain ⟨u, hu, _, _, _, rfl, _⟩ := hr.left
  have hw := hr.wrong
  rcases Nat.lt_trichotomy (off + j) 1 with h | h | h
  · rw [show off + j = 0 by omega, hu] at hcj; cases hcj
  · rw [h, hw] at hcj; cases hcj
  · rw [hr.two _ (by omega)] at hcj; cases hcj

theorem Rdr.kept {w w' : World} {l : List Int} {b : Nat} {k : Int} (h : Rdr w b l k) (hg : w.grownBy w' none) : Rdr w' b l k := by
  obtain ⟨v, hv, hrd⟩ := h.left
  have hb : w'.heap[b]? = w.heap[b]? := hg.block b (World.block_lt_of_cell? w _ hv) (by simp)
  exact ⟨⟨v, (World.cell?_of_block hb).trans hv, hrd.kept0 hg⟩, (World.cell?_of_block hb).trans h.wrong, (World.frozen?_of_block hb).trans h.f0, (World.frozen?_of_block hb).trans h.f1, fun o ho => (World.cell?_of_block hb).trans (h.two o ho), h.gone⟩

theorem Rdr.lt {w : World} {l : List Int} {b : Nat} {k : Int} (h : Rdr w b l k) : b < w.heap.size := World.block_lt_of_cell? w _ h.wrong

/-- A store of other bytes. -/
theorem Rdr.setLeft {w : World} {l m : List Int} {b : Nat} {k : Int} {v : Value} (h : Rdr w b l k) (hv : Rd w v m) (hk : k ≠ 0 → m = []) : Rdr (w.setCell ⟨b, 0, none⟩ v) b m k := by
  obtain ⟨u, hu, _⟩ := h.left
  refine ⟨⟨v, World.cell?_setCell_same _ _ _ hu, hv.past h (grown_setCell w b 0 v)⟩, ?_, by simpa using h.f0, by simpa using h.f1, fun o ho => ?_, hk⟩
  · rw [World.cell?_setCell_other _ _ _ _ (by simp)]; exact h.wrong
  · rw [World.cell?_setCell_other _ _ _ _ (by simp <;> omega)]; exact h.two o ho

/-- A store of what is wrong. -/
theorem Rdr.setWrong {w : World} {b : Nat} {k q : Int} (h : Rdr w b [] k) : Rdr (w.setCell ⟨b, 1, none⟩ (.int .i64 q)) b [] q := by
  obtain ⟨u, hu, hr⟩ := h.left
  refine ⟨⟨u, ?_, hr.past h (grown_setCell w b 1 _)⟩, World.cell?_setCell_same _ _ _ h.wrong, by simpa using h.f0, by simpa using h.f1, fun o ho => ?_, fun _ => rfl⟩
  · rw [World.cell?_setCell_other _ _ _ _ (by simp)]; exact hu
  · rw [World.cell?_setCell_other _ _ _ _ (by simp <;> omega)]; exact h.two o ho

theorem rest_any (w : World) (b : Nat) (l : List Int) (k : Int) (h : Rdr w b l k) :
    Calls Try.prog 66 #[ptr b] w fun e w' => (∃ v, e = .returned v ∧ w.cell? ⟨b, 0, none⟩ = some v ∧ Rd w v l) ∧ w' = w := by
  obtain ⟨v, hv, hrd⟩ := h.left
  go_enter Try.func66, Try.ntmps66
  go_wp2
  go_ret
  exact ⟨⟨_, rfl, hv, hrd⟩, rfl⟩

theorem fail_any (w : World) (b : Nat) (l : List Int) (k q : Int) (h : Rdr w b l k) :
    Calls Try.prog 60 #[ptr b, .int .i64 q] w fun e w' => e = .returned (.tuple #[]) ∧ Rdr w' b [] (if k = 0 then q else k) ∧ w.grownBy w' (some b) := by
  obtain ⟨v, hv, hrd⟩ := h.left
  have hw := h.wrong
  have hf0 := h.f0
  have hf1 := h.f1
  have H : Hid (Rdr w b l k) := h
  clear h
  by_cases hk : k = 0
  · subst hk
    go_enter Try.func60, Try.ntmps60
    go_wp2
    go_end0
    exact ⟨rfl, (H.out.setLeft (rd_nil w) (fun h => absurd rfl h)).setWrong, grown_trans (grown_setCell w b 0 _) (grown_setCell _ b 1 _) (fun k hk => .inl hk)⟩
  · have hk' : (k != 0) = true := by simpa using hk
    go_enter Try.func60, Try.ntmps60
    go_wp2
    have hl := H.out.gone hk
    subst hl
    exact bodyPost_ret (results_none rfl _ _ _) rfl ⟨rfl, by first | exact H.out | (rw [if_neg hk]; exact H.out), grown_refl _ _⟩

/-- What taking a number makes of a reader: the number, and the reader behind. -/
def rNum (l : List Int) (k : Int) : Nat × List Int × Int := match parse 0 l with
  | some (n, r) => (n, r, k)
  | none => (0, [], if k = 0 then 4 else k)

theorem numAt_none {l : List Int} (h : parse 0 l = none) : numAt l = (0, 0) := by unfold numAt; rw [h]
theorem numAt_some {l r : List Int} {n : Nat} (ho : Oct l) (h : parse 0 l = some (n, r)) : numAt l = (n, (form n).length) ∧ l = form n ++ r ∧ n < 18446744073709551616 ∧ l.drop (form n).length = r := by
  obtain ⟨e, hb, _⟩ := parse_some l 0 n r ho h
  refine ⟨?_, e, by simpa using hb, by rw [e]; simp⟩
  unfold numAt
  rw [h]
  have := congrArg List.length e
  simp only [List.length_append] at this
  simp only [Prod.mk.injEq, true_and]
  omega

set_option maxHeartbeats 400000 in
set_option maxRecDepth 20000 in
theorem rnum_any (w : World) (b : Nat) (l : List Int) (k : Int) (h : Rdr w b l k) :
    Calls Try.prog 58 #[ptr b] w fun e w' => e = .returned (.int .u64 (rNum l k).1) ∧ Rdr w' b (rNum l k).2.1 (rNum l k).2.2 ∧ w.grownBy w' (some b) := by
  obtain ⟨v, hv, hrd⟩ := h.left
  have H : Hid (Rdr w b l k) := h
  cases hp : parse 0 l with
  | none =>
    have HN : Hid (rNum l k = (0, [], if k = 0 then 4 else k)) := by show _ = _; unfold rNum; rw [hp]
    have hn := numAt_none hp
    clear h hp
    go_enter Try.func58, Try.ntmps58
    go_wp2_with (first | (go_at_call 66; go_must (refine (rest_any _ b l k H.out).mono ?_; rintro e w' ⟨⟨v', rfl, hv', hrd'⟩, rfl⟩)) | (go_at_call 65; go_must (refine (number_any _ l _ hrd').mono ?_; rw [hn]; rintro e w' ⟨rfl, rfl⟩)) | (go_at_call 60; go_must (refine (fail_any _ b l k 4 H.out).mono ?_; rintro e w' ⟨rfl, hr, hg⟩)))
    go_ret
    rw [HN.out]
    exact ⟨rfl, hr, hg⟩
  | some q =>
    obtain ⟨n, r⟩ := q
    obtain ⟨h1, h2, h3, h4⟩ := numAt_some hrd.oct hp
    have HN : Hid (rNum l k = (n, r, k)) := by show _ = _; unfold rNum; rw [hp]
    have hpos := form_pos n
    obtain ⟨s, hs⟩ : ∃ s, s = (form n).length := ⟨_, rfl⟩
    rw [← hs] at h1 h4 hpos
    have H4 : Hid (l.drop s = r) := h4
    have hsl : s ≤ l.length := by rw [h2, List.length_append]; omega
    obtain ⟨av, cap, hva⟩ := hrd.len
    subst hva
    have hf0 := h.f0
    have hcap := hrd.cap.2
    clear h hp h2 h3 h4 hs
    go_enter Try.func58, Try.ntmps58
    go_wp2_with (first | (go_at_call 66; go_must (refine (rest_any _ b l k H.out).mono ?_; rintro e w' ⟨⟨v', rfl, hv', hrd'⟩, rfl⟩)) | (go_at_call 65; go_must (refine (number_any _ l _ hrd').mono ?_; rw [h1]; rintro e w' ⟨rfl, rfl⟩)) | (go_at_call 60; go_must (refine (fail_any _ b l k 4 H.out).mono ?_; rintro e w' ⟨rfl, hr, hg⟩)))
    all_goals
      go_ret
      rw [HN.out]
      refine ⟨rfl, H.out.setLeft ?_ (fun hk => ?_), grown_setCell _ b 0 _⟩
      · rw [← H4.out]
        first
          | exact rd_cut hrd hsl ‹_›
          | (have hcs : cap = s := ‹_›
             subst hcs
             exact rd_cut0 hrd hsl)
      · have := H.out.gone hk
        rw [← H4.out, this]; simp

end Go.Proofs.Ytdjfedlkfekeoaa
