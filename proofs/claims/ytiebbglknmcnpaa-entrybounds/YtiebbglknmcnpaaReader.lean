/-
  The contracts of layer 1's reader, by a state of two parts: the bytes that are left, and what is wrong.
  The contracts of the other calls of layer 1's reader: what is left, what is wrong, and how an Int, bytes, a count, a text and a word are taken; and of a reader of given bytes.
  The contracts of layer 1's reader for bytes, counts and words, and of a reader of given bytes.
-/
import Derived.Test.YtiebbglknmcnpaaPut
import Derived.Test.YtiebbglknmcnpaaNumber
namespace Go.Proofs.Ytiebbglknmcnpaa
section
set_option linter.unusedVariables false
open Go.RowKit

/-- Block b holds a reader: the bytes l are left, k is wrong (0: nothing). -/
structure Rdr (w : World) (b : Nat) (l : List Int) (k : Int) : Prop where
  left : ∃ v, w.cell? ⟨b, 0, none⟩ = some v ∧ Rd w v l
  wrong : w.cell? ⟨b, 1, none⟩ = some (.int .i64 k)
  f0 : w.frozen? ⟨b, 0, none⟩ = false
  f1 : w.frozen? ⟨b, 1, none⟩ = false
  two : ∀ o, 2 ≤ o → w.cell? ⟨b, o, none⟩ = none
  gone : k ≠ 0 → l = []

abbrev ptr (b : Nat) : Value := .pointer (some ⟨b, 0, none⟩)

theorem grown_setCell (w : World) (b o : Nat) (u : Value) : w.grownBy (w.setCell ⟨b, o, none⟩ u) (some b) :=
  ⟨rfl, rfl, rfl, by simp, fun k _ hne => Below.heap_setCell w _ _ k (fun e => hne (by rw [e]))⟩

/-- What is read stays so while a reader is written. -/
theorem Rd.past {w w' : World} {v : Value} {l m : List Int} {b : Nat} {k : Int} (h : Rd w v l) (hr : Rdr w b m k) (hg : w.grownBy w' (some b)) : Rd w' v l := by
  obtain ⟨ho, a, cap, rfl, h1, h2, h3, h4⟩ := h
  refine ⟨ho, a, cap, rfl, h1, h2, h3, fun hp => ?_⟩
  obtain ⟨c, off, rfl, hc⟩ := h4 hp
  refine ⟨c, off, rfl, fun j hj => hg.cell (hc j hj) fun e => ?_⟩
  obtain rfl : c = b := by simpa using e
  have hcj := hc j hj
  obtain ⟨u, hu, _, _, _, rfl, _⟩ := hr.left
  have hw := hr.wrong
  rcases Nat.lt_trichotomy (off + j) 1 with h | h | h
  · rw [show off + j = 0 by omega, hu] at hcj; cases hcj
  · rw [h, hw] at hcj; cases hcj
  · rw [hr.two _ (by omega)] at hcj; cases hcj

theorem Rdr.kept {w w' : World} {l : List Int} {b : Nat} {k : Int} (h : Rdr w b l k) (hg : w.grownBy w' none) : Rdr w' b l k := by
  obtain ⟨v, hv, hrd⟩ := h.left
  have hb : w'.heap[b]? = w.heap[b]? := hg.block b (World.block_lt_of_cell? w _ hv) (by simp)
  exact ⟨⟨v, (World.cell?_of_block hb).trans hv, hrd.kept0 hg⟩, (World.cell?_of_block hb).trans h.wrong, (World.frozen?_of_block hb).trans h.f0, (World.frozen?_of_block hb).trans h.f1, fun o ho => (World.cell?_of_block hb).trans (h.two o ho), h.gone⟩

theorem Rdr.lt {w : World} {l : List Int} {b : Nat} {k : Int} (h : Rdr w b l k) : b < w.heap.size := World.block_lt_of_cell? w _ h.wrong

/-- A store of other bytes. -/
theorem Rdr.setLeft {w : World} {l m : List Int} {b : Nat} {k : Int} {v : Value} (h : Rdr w b l k) (hv : Rd w v m) (hk : k ≠ 0 → m = []) : Rdr (w.setCell ⟨b, 0, none⟩ v) b m k := by
  obtain ⟨u, hu, _⟩ := h.left
  refine ⟨⟨v, World.cell?_setCell_same _ _ _ hu, hv.past h (grown_setCell w b 0 v)⟩, ?_, by simpa using h.f0, by simpa using h.f1, fun o ho => ?_, hk⟩
  · rw [World.cell?_setCell_other _ _ _ _ (by simp)]; exact h.wrong
  · rw [World.cell?_setCell_other _ _ _ _ (by simp <;> omega)]; exact h.two o ho

/-- A store of what is wrong. -/
theorem Rdr.setWrong {w : World} {b : Nat} {k q : Int} (h : Rdr w b [] k) : Rdr (w.setCell ⟨b, 1, none⟩ (.int .i64 q)) b [] q := by
  obtain ⟨u, hu, hr⟩ := h.left
  refine ⟨⟨u, ?_, hr.past h (grown_setCell w b 1 _)⟩, World.cell?_setCell_same _ _ _ h.wrong, by simpa using h.f0, by simpa using h.f1, fun o ho => ?_, fun _ => rfl⟩
  · rw [World.cell?_setCell_other _ _ _ _ (by simp)]; exact hu
  · rw [World.cell?_setCell_other _ _ _ _ (by simp <;> omega)]; exact h.two o ho

theorem rest_any (w : World) (b : Nat) (l : List Int) (k : Int) (h : Rdr w b l k) :
    Calls Try.prog 82 #[ptr b] w fun e w' => (∃ v, e = .returned v ∧ w.cell? ⟨b, 0, none⟩ = some v ∧ Rd w v l) ∧ w' = w := by
  obtain ⟨v, hv, hrd⟩ := h.left
  go_enter Try.func82, Try.ntmps82
  go_wp2
  go_ret
  exact ⟨⟨_, rfl, hv, hrd⟩, rfl⟩

theorem fail_any (w : World) (b : Nat) (l : List Int) (k q : Int) (h : Rdr w b l k) :
    Calls Try.prog 80 #[ptr b, .int .i64 q] w fun e w' => e = .returned (.tuple #[]) ∧ Rdr w' b [] (if k = 0 then q else k) ∧ w.grownBy w' (some b) := by
  obtain ⟨v, hv, hrd⟩ := h.left
  have hw := h.wrong
  have hf0 := h.f0
  have hf1 := h.f1
  have H : Hid (Rdr w b l k) := h
  clear h
  by_cases hk : k = 0
  · subst hk
    go_enter Try.func80, Try.ntmps80
    go_wp2
    go_end0
    exact ⟨rfl, (H.out.setLeft (rd_nil w) (fun h => absurd rfl h)).setWrong, grown_trans (grown_setCell w b 0 _) (grown_setCell _ b 1 _) (fun k hk => .inl hk)⟩
  · have hk' : (k != 0) = true := by simpa using hk
    go_enter Try.func80, Try.ntmps80
    go_wp2
    have hl := H.out.gone hk
    subst hl
    exact bodyPost_ret (results_none rfl _ _ _) rfl ⟨rfl, by first | exact H.out | (rw [if_neg hk]; exact H.out), grown_refl _ _⟩

/-- What taking a number makes of a reader: the number, and the reader behind. -/
def rNum (l : List Int) (k : Int) : Nat × List Int × Int := match parse 0 l with
  | some (n, r) => (n, r, k)
  | none => (0, [], if k = 0 then 4 else k)

theorem numAt_none {l : List Int} (h : parse 0 l = none) : numAt l = (0, 0) := by unfold numAt; rw [h]
theorem numAt_some {l r : List Int} {n : Nat} (ho : Oct l) (h : parse 0 l = some (n, r)) : numAt l = (n, (form n).length) ∧ l = form n ++ r ∧ n < 18446744073709551616 ∧ l.drop (form n).length = r := by
  obtain ⟨e, hb, _⟩ := parse_some l 0 n r ho h
  refine ⟨?_, e, by simpa using hb, by rw [e]; simp⟩
  unfold numAt
  rw [h]
  have := congrArg List.length e
  simp only [List.length_append] at this
  simp only [Prod.mk.injEq, true_and]
  omega

set_option maxHeartbeats 400000 in
set_option maxRecDepth 20000 in
theorem rnum_any (w : World) (b : Nat) (l : List Int) (k : Int) (h : Rdr w b l k) :
    Calls Try.prog 67 #[ptr b] w fun e w' => e = .returned (.int .u64 (rNum l k).1) ∧ Rdr w' b (rNum l k).2.1 (rNum l k).2.2 ∧ w.grownBy w' (some b) := by
  obtain ⟨v, hv, hrd⟩ := h.left
  have H : Hid (Rdr w b l k) := h
  cases hp : parse 0 l with
  | none =>
    have HN : Hid (rNum l k = (0, [], if k = 0 then 4 else k)) := by show _ = _; unfold rNum; rw [hp]
    have hn := numAt_none hp
    clear h hp
    go_enter Try.func67, Try.ntmps67
    go_wp2_with (first | (go_at_call 82; go_must (refine (rest_any _ b l k H.out).mono ?_; rintro e w' ⟨⟨v', rfl, hv', hrd'⟩, rfl⟩)) | (go_at_call 81; go_must (refine (number_any _ l _ hrd').mono ?_; rw [hn]; rintro e w' ⟨rfl, rfl⟩)) | (go_at_call 80; go_must (refine (fail_any _ b l k 4 H.out).mono ?_; rintro e w' ⟨rfl, hr, hg⟩)))
    go_ret
    rw [HN.out]
    exact ⟨rfl, hr, hg⟩
  | some q =>
    obtain ⟨n, r⟩ := q
    obtain ⟨h1, h2, h3, h4⟩ := numAt_some hrd.oct hp
    have HN : Hid (rNum l k = (n, r, k)) := by show _ = _; unfold rNum; rw [hp]
    have hpos := form_pos n
    obtain ⟨s, hs⟩ : ∃ s, s = (form n).length := ⟨_, rfl⟩
    rw [← hs] at h1 h4 hpos
    have H4 : Hid (l.drop s = r) := h4
    have hsl : s ≤ l.length := by rw [h2, List.length_append]; omega
    obtain ⟨av, cap, hva⟩ := hrd.len
    subst hva
    have hf0 := h.f0
    have hcap := hrd.cap.2
    clear h hp h2 h3 h4 hs
    go_enter Try.func67, Try.ntmps67
    go_wp2_with (first | (go_at_call 82; go_must (refine (rest_any _ b l k H.out).mono ?_; rintro e w' ⟨⟨v', rfl, hv', hrd'⟩, rfl⟩)) | (go_at_call 81; go_must (refine (number_any _ l _ hrd').mono ?_; rw [h1]; rintro e w' ⟨rfl, rfl⟩)) | (go_at_call 80; go_must (refine (fail_any _ b l k 4 H.out).mono ?_; rintro e w' ⟨rfl, hr, hg⟩)))
    all_goals
      go_ret
      rw [HN.out]
      refine ⟨rfl, H.out.setLeft ?_ (fun hk => ?_), grown_setCell _ b 0 _⟩
      · rw [← H4.out]
        first
          | exact rd_cut hrd hsl ‹_›
          | (have hcs : cap = s := ‹_›
             subst hcs
             exact rd_cut0 hrd hsl)
      · have := H.out.gone hk
        rw [← H4.out, this]; simp
end

section
set_option linter.unusedVariables false
open Go.RowKit

theorem left_any (w : World) (b : Nat) (l : List Int) (k : Int) (h : Rdr w b l k) :
    Calls Try.prog 83 #[ptr b] w fun e w' => e = .returned (.int .i64 l.length) ∧ w' = w := by
  have H : Hid (Rdr w b l k) := h
  clear h
  go_enter Try.func83, Try.ntmps83
  go_wp2_with (first | (go_at_call 82; go_must (refine (rest_any _ b l k H.out).mono ?_; rintro e w' ⟨⟨v', rfl, hv', hrd'⟩, rfl⟩; obtain ⟨av, cap, rfl⟩ := hrd'.len)))
  go_ret
  exact ⟨rfl, rfl⟩

def doneK (l : List Int) (k : Int) : Int := if k = 0 ∧ 0 < l.length then 4 else k

theorem done_any (w : World) (b : Nat) (l : List Int) (k : Int) (h : Rdr w b l k) :
    Calls Try.prog 45 #[ptr b] w fun e w' => e = .returned (.int .i64 (doneK l k)) ∧ w' = w := by
  obtain ⟨v, hv, hrd⟩ := h.left
  obtain ⟨av, cap, rfl⟩ := hrd.len
  have hw := h.wrong
  clear h hrd
  by_cases hk : k = 0
  · subst hk
    by_cases hl : 0 < l.length
    · have HD : Hid (doneK l 0 = 4) := by show _ = _; unfold doneK; rw [if_pos ⟨rfl, hl⟩]
      go_enter Try.func45, Try.ntmps45
      go_wp2
      go_ret
      exact ⟨by rw [HD.out]; rfl, rfl⟩
    · have HD : Hid (doneK l 0 = 0) := by show _ = _; unfold doneK; rw [if_neg (fun h => hl h.2)]
      go_enter Try.func45, Try.ntmps45
      go_wp2
      go_ret
      exact ⟨by rw [HD.out]; rfl, rfl⟩
  · have HD : Hid (doneK l k = k) := by show _ = _; unfold doneK; rw [if_neg (fun h => hk h.1)]
    have hk' : (k == 0) = false := by simpa using hk
    go_enter Try.func45, Try.ntmps45
    go_wp2
    go_ret
    exact ⟨by rw [HD.out]; rfl, rfl⟩

theorem above_any (n m : Int) (w : World) (hn : 0 ≤ n) (hm : -9223372036854775808 ≤ m ∧ m ≤ 9223372036854775807) : Calls Try.prog 79 #[.int .u64 n, .int .i64 m] w fun e w' => e = .returned (.bool (decide (m < n))) ∧ w' = w := by
  by_cases h : m < 0
  · have HD : Hid (decide (m < n) = true) := by show _ = _; simp; omega
    go_enter Try.func79, Try.ntmps79
    go_wp2
    go_ret
    exact ⟨by rw [HD.out]; rfl, rfl⟩
  · go_enter Try.func79, Try.ntmps79
    go_wp2
    go_ret
    exact ⟨rfl, rfl⟩

set_option maxHeartbeats 400000 in
theorem rnum_lt (l : List Int) (k : Int) (ho : Oct l) : (rNum l k).1 < 18446744073709551616 := by
  unfold rNum
  cases hp : parse 0 l with
  | none => show 0 < _; omega
  | some q => exact (numAt_some ho hp).2.2.1

theorem half64 (n : Nat) (h : n < 18446744073709551616) : wrap64 ((n : Int) / 2) = ((n / 2 : Nat) : Int) := by
  unfold wrap64; omega
theorem odd64 (n : Nat) (h : n < 18446744073709551616) : bits .xor .i64 (-1) (wrap64 ((n : Int) / 2)) = -((n / 2 : Nat) : Int) - 1 := by
  rw [half64 n h]; exact not64 _ (by omega)

theorem Rdr.oct {w : World} {l : List Int} {b : Nat} {k : Int} (h : Rdr w b l k) : Oct l := by obtain ⟨_, _, hr⟩ := h.left; exact hr.oct

set_option maxHeartbeats 400000 in
set_option maxRecDepth 20000 in
theorem rint_any (w : World) (b : Nat) (l : List Int) (k : Int) (h : Rdr w b l k) :
    Calls Try.prog 70 #[ptr b] w fun e w' => e = .returned (.int .i64 (zag (rNum l k).1)) ∧ Rdr w' b (rNum l k).2.1 (rNum l k).2.2 ∧ w.grownBy w' (some b) := by
  have H : Hid (Rdr w b l k) := h
  have hlt := rnum_lt l k h.oct
  obtain ⟨n, hn⟩ : ∃ n, n = (rNum l k).1 := ⟨_, rfl⟩
  rw [← hn] at hlt ⊢
  have HL : Hid (n < 18446744073709551616) := hlt
  have HN : Hid (n = (rNum l k).1) := hn
  have hand := and1 (n : Int) (by omega) (by omega)
  clear h hlt hn
  by_cases hodd : n % 2 = 1
  · have he : (((n : Int) % 2) == 1) = true := by simp; omega
    have HZ : Hid (zag n = -((n / 2 : Nat) : Int) - 1) := by show _ = _; unfold zag; rw [if_pos hodd]
    clear hodd
    go_enter Try.func70, Try.ntmps70
    go_wp2_with (first | (go_at_call 67; go_must (refine (rnum_any _ b l k H.out).mono ?_; rw [← HN.out]; rintro e w' ⟨rfl, hr, hg⟩)))
    go_ret
    refine ⟨?_, hr, hg⟩
    rw [HZ.out, ← odd64 n HL.out]
    rfl
  · have he : (((n : Int) % 2) == 1) = false := by simp; omega
    have HZ : Hid (zag n = ((n / 2 : Nat) : Int)) := by show _ = _; unfold zag; rw [if_neg hodd]
    clear hodd
    go_enter Try.func70, Try.ntmps70
    go_wp2_with (first | (go_at_call 67; go_must (refine (rnum_any _ b l k H.out).mono ?_; rw [← HN.out]; rintro e w' ⟨rfl, hr, hg⟩)))
    go_ret
    refine ⟨?_, hr, hg⟩
    rw [HZ.out, ← half64 n HL.out]
    rfl

/-- What taking at most 'most' bytes makes of a reader. -/
def rBytes (l : List Int) (k most : Int) : List Int × List Int × Int :=
  if (rNum l k).2.1.length < (rNum l k).1 then ([], [], if (rNum l k).2.2 = 0 then 4 else (rNum l k).2.2)
  else if most < (rNum l k).1 then ([], [], if (rNum l k).2.2 = 0 then 3 else (rNum l k).2.2)
  else ((rNum l k).2.1.take (rNum l k).1, (rNum l k).2.1.drop (rNum l k).1, (rNum l k).2.2)

set_option maxHeartbeats 400000 in
set_option maxRecDepth 20000 in
theorem take_any (w : World) (b : Nat) (l : List Int) (k : Int) (n : Nat) (h : Rdr w b l k) (hn : n ≤ l.length) (hl : l.length ≤ 1000000000) :
    Calls Try.prog 84 #[ptr b, .int .i64 n] w fun e w' => ∃ v, e = .returned v ∧ Rd w' v (l.take n) ∧ Rdr w' b (l.drop n) k ∧ w.grownBy w' (some b) := by
  by_cases h0 : n = 0
  · subst h0
    go_enter Try.func84, Try.ntmps84
    go_wp2
    go_ret
    refine ⟨_, rfl, rd_nil w, by simpa using h, grown_refl _ _⟩
  · have h0' : ((n : Int) == 0) = false := by simp; omega
    obtain ⟨v, hv, hrd⟩ := h.left
    obtain ⟨av, cap, rfl⟩ := hrd.len
    have hc := hrd.cap.2
    have hf0 := h.f0
    have H : Hid (Rdr w b l k) := h
    have hlt := h.lt
    clear h h0
    go_enter Try.func84, Try.ntmps84
    go_wp2_with (first | (go_at_call 65; go_must (refine (apart_any _ (l.take n) 0 _ (rd_head hrd hn) (by simp; omega) (by omega)).mono ?_; rintro e w' ⟨v', rfl, hown, hb⟩; have hv1 := (hb.cell (p := ⟨b, 0, none⟩) hlt).trans hv; have hf1 := (hb.frozen (p := ⟨b, 0, none⟩) hlt).trans hf0)))
    all_goals
      go_ret
      have hr1 := H.out.kept (below_grown hb)
      have hrd1 := hrd.below hb
      have hcut : Rd w' (.slice av l.length cap) l := hrd1
      refine ⟨_, rfl, hown.rd.past hr1 (grown_setCell w' b 0 _), hr1.setLeft ?_ (fun hk => ?_), grown_none (below_grown hb) (grown_setCell w' b 0 _)⟩
      · first
          | exact rd_cut hrd1 hn ‹_›
          | (have hcs : cap = n := ‹_›
             subst hcs
             exact rd_cut0 hrd1 hn)
      · have := H.out.gone hk
        rw [this]; simp
end

section
set_option linter.unusedVariables false
open Go.RowKit

theorem rNum_len (l : List Int) (k : Int) (ho : Oct l) : (rNum l k).2.1.length ≤ l.length := by
  unfold rNum
  cases hp : parse 0 l with
  | none => simp
  | some q =>
    have := congrArg List.length (numAt_some ho hp).2.1
    simp only [List.length_append] at this
    show q.2.length ≤ _
    omega

set_option maxHeartbeats 400000 in
set_option maxRecDepth 20000 in
theorem rbytes_any (w : World) (b : Nat) (l : List Int) (k most : Int) (h : Rdr w b l k) (hl : l.length ≤ 1000000000) (hm : -9223372036854775808 ≤ most ∧ most ≤ 9223372036854775807) :
    Calls Try.prog 71 #[ptr b, .int .i64 most] w fun e w' => ∃ v, e = .returned v ∧ Rd w' v (rBytes l k most).1 ∧ Rdr w' b (rBytes l k most).2.1 (rBytes l k most).2.2 ∧ w.grownBy w' (some b) := by
  have H : Hid (Rdr w b l k) := h
  have hlt := rnum_lt l k h.oct
  have hle := rNum_len l k h.oct
  obtain ⟨n, hn⟩ : ∃ n, n = (rNum l k).1 := ⟨_, rfl⟩
  obtain ⟨l', hl'⟩ : ∃ l', l' = (rNum l k).2.1 := ⟨_, rfl⟩
  obtain ⟨k', hk'⟩ : ∃ k', k' = (rNum l k).2.2 := ⟨_, rfl⟩
  have HB : Hid (rBytes l k most = if l'.length < n then ([], [], if k' = 0 then 4 else k') else if most < (n : Int) then ([], [], if k' = 0 then 3 else k') else (l'.take n, l'.drop n, k')) := by
    show _ = _; unfold rBytes; rw [hn, hl', hk']
  have HN : Hid (∀ w' : World, Rdr w' b (rNum l k).2.1 (rNum l k).2.2 → Rdr w' b l' k') := by intro w' hr; rw [hl', hk']; exact hr
  have HNN : Hid (n = (rNum l k).1) := hn
  rw [← hl'] at hle
  rw [← hn] at hlt
  have HL : Hid (n < 18446744073709551616) := hlt
  clear h hlt hn hl' hk'
  by_cases h1 : l'.length < n
  · have h1' : (l'.length : Int) < (n : Int) := by omega
    go_enter Try.func71, Try.ntmps71
    go_wp2_with (first | (go_at_call 67; go_must (refine (rnum_any _ b l k H.out).mono ?_; rw [← HNN.out]; rintro e w1 ⟨rfl, hr1, hg1⟩; replace hr1 := HN.out _ hr1)) | (go_at_call 83; go_must (refine (left_any _ b l' k' hr1).mono ?_; rintro e w2 ⟨rfl, rfl⟩)) | (go_at_call 80; go_must (refine (fail_any _ b l' k' 4 hr1).mono ?_; rintro e w3 ⟨rfl, hr3, hg3⟩)))
    go_ret
    rw [HB.out, if_pos h1]
    exact ⟨_, rfl, rd_nil _, hr3, grown_trans hg1 hg3 (fun _ h => .inl h)⟩
  · have h1' : ¬ (l'.length : Int) < (n : Int) := by omega
    by_cases h2 : most < (n : Int)
    · have h2' : decide (most < (n : Int)) = true := by simpa using h2
      go_enter Try.func71, Try.ntmps71
      go_wp2_with (first | (go_at_call 67; go_must (refine (rnum_any _ b l k H.out).mono ?_; rw [← HNN.out]; rintro e w1 ⟨rfl, hr1, hg1⟩; replace hr1 := HN.out _ hr1)) | (go_at_call 83; go_must (refine (left_any _ b l' k' hr1).mono ?_; rintro e w2 ⟨rfl, rfl⟩)) | (go_at_call 79; go_must (refine (above_any n most _ (by omega) hm).mono ?_; rintro e w2 ⟨rfl, rfl⟩)) | (go_at_call 80; go_must (refine (fail_any _ b l' k' 3 hr1).mono ?_; rintro e w3 ⟨rfl, hr3, hg3⟩)))
      go_ret
      rw [HB.out, if_neg h1, if_pos h2]
      exact ⟨_, rfl, rd_nil _, hr3, grown_trans hg1 hg3 (fun _ h => .inl h)⟩
    · have h2' : decide (most < (n : Int)) = false := by simpa using h2
      go_enter Try.func71, Try.ntmps71
      go_wp2_with (first | (go_at_call 67; go_must (refine (rnum_any _ b l k H.out).mono ?_; rw [← HNN.out]; rintro e w1 ⟨rfl, hr1, hg1⟩; replace hr1 := HN.out _ hr1)) | (go_at_call 83; go_must (refine (left_any _ b l' k' hr1).mono ?_; rintro e w2 ⟨rfl, rfl⟩)) | (go_at_call 79; go_must (refine (above_any n most _ (by omega) hm).mono ?_; rintro e w2 ⟨rfl, rfl⟩)) | (go_at_call 84; go_must (refine (take_any _ b l' k' n hr1 (by omega) (by omega)).mono ?_; rintro e w3 ⟨v3, rfl, hrd3, hr3, hg3⟩)))
      go_ret
      rw [HB.out, if_neg (by omega), if_neg (by omega)]
      exact ⟨_, rfl, hrd3, hr3, grown_trans hg1 hg3 (fun _ h => .inl h)⟩

/-- What taking a word makes of a reader. -/
def rBool (l : List Int) (k : Int) : Bool × List Int × Int :=
  if 1 < (rNum l k).1 then (false, [], if (rNum l k).2.2 = 0 then 4 else (rNum l k).2.2) else (decide ((rNum l k).1 = 1), (rNum l k).2.1, (rNum l k).2.2)

/-- What taking a count of at most 'most' makes of a reader. -/
def rCount (l : List Int) (k most : Int) : Int × List Int × Int :=
  if most < (rNum l k).1 then (0, [], if (rNum l k).2.2 = 0 then 3 else (rNum l k).2.2) else ((rNum l k).1, (rNum l k).2.1, (rNum l k).2.2)

set_option maxHeartbeats 400000 in
set_option maxRecDepth 20000 in
theorem rcount_any (w : World) (b : Nat) (l : List Int) (k most : Int) (h : Rdr w b l k) (hm : -9223372036854775808 ≤ most ∧ most ≤ 9223372036854775807) :
    Calls Try.prog 66 #[ptr b, .int .i64 most] w fun e w' => e = .returned (.int .i64 (rCount l k most).1) ∧ Rdr w' b (rCount l k most).2.1 (rCount l k most).2.2 ∧ w.grownBy w' (some b) := by
  have H : Hid (Rdr w b l k) := h
  obtain ⟨n, hn⟩ : ∃ n, n = (rNum l k).1 := ⟨_, rfl⟩
  have HNN : Hid (n = (rNum l k).1) := hn
  have HB : Hid (rCount l k most = if most < (n : Int) then (0, [], if (rNum l k).2.2 = 0 then 3 else (rNum l k).2.2) else ((n : Int), (rNum l k).2.1, (rNum l k).2.2)) := by
    show _ = _; unfold rCount; rw [hn]
  clear h hn
  by_cases h2 : most < (n : Int)
  · have h2' : decide (most < (n : Int)) = true := by simpa using h2
    go_enter Try.func66, Try.ntmps66
    go_wp2_with (first | (go_at_call 67; go_must (refine (rnum_any _ b l k H.out).mono ?_; rw [← HNN.out]; rintro e w1 ⟨rfl, hr1, hg1⟩)) | (go_at_call 79; go_must (refine (above_any n most _ (by omega) hm).mono ?_; rintro e w2 ⟨rfl, rfl⟩)) | (go_at_call 80; go_must (refine (fail_any _ b _ _ 3 hr1).mono ?_; rintro e w3 ⟨rfl, hr3, hg3⟩)))
    go_ret
    rw [HB.out, if_pos h2]
    exact ⟨rfl, hr3, grown_trans hg1 hg3 (fun _ h => .inl h)⟩
  · have h2' : decide (most < (n : Int)) = false := by simpa using h2
    go_enter Try.func66, Try.ntmps66
    go_wp2_with (first | (go_at_call 67; go_must (refine (rnum_any _ b l k H.out).mono ?_; rw [← HNN.out]; rintro e w1 ⟨rfl, hr1, hg1⟩)) | (go_at_call 79; go_must (refine (above_any n most _ (by omega) hm).mono ?_; rintro e w2 ⟨rfl, rfl⟩)) | (go_at_call 80; go_must (refine (fail_any _ b _ _ 3 hr1).mono ?_; rintro e w3 ⟨rfl, hr3, hg3⟩)))
    go_ret
    rw [HB.out, if_neg (by omega)]
    exact ⟨rfl, hr1, hg1⟩

theorem rdr_new (w : World) (v : Value) (l : List Int) (t : TypeId) (h : Rd w v l) : Rdr (w.alloc (.cells #[v, .int .i64 0] t)) w.heap.size l 0 := by
  refine ⟨⟨v, by simp, h.kept0 (World.grownBy_alloc w _ none)⟩, by simp, by simp, by simp, fun o ho => ?_, fun h => absurd rfl h⟩
  rw [World.cell?_alloc_new]
  exact Array.getElem?_eq_none (by simpa using ho)

set_option maxHeartbeats 400000 in
theorem read_any (w : World) (v : Value) (l : List Int) (h : Rd w v l) (hl : l.length ≤ 1000000000) :
    Calls Try.prog 43 #[v] w fun e w' => ∃ b, e = .returned (ptr b) ∧ w.heap.size ≤ b ∧ Rdr w' b l 0 ∧ w.grownBy w' none := by
  go_enter Try.func43, Try.ntmps43
  go_wp2_with (first | (go_at_call 65; go_must (refine (apart_any _ l 0 _ h hl (by omega)).mono ?_; rintro e w1 ⟨v1, rfl, hown, hb⟩; obtain ⟨av, cap, rfl⟩ := hown.rd.len)))
  go_ret
  exact ⟨w1.heap.size, rfl, hb.size, rdr_new w1 _ l 105 hown.rd, grown_none (below_grown hb) (World.grownBy_alloc w1 _ none)⟩
end
end Go.Proofs.Ytiebbglknmcnpaa
