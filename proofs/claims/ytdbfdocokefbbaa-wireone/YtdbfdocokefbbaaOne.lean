/-
  The walk of WireOne: bytes that are taken as a number, an Int, or a count of bytes with them, are the form of it.
-/
import Derived.Test.YtdbfdocokefbbaaAlive
namespace Go.Proofs.Ytdbfdocokefbbaa
set_option linter.unusedVariables false
open Go.RowKit

theorem done_num {l : List Int} (ho : Oct l) (h : doneK (rNum l 0).2.1 (rNum l 0).2.2 = 0) : form (rNum l 0).1 = l := by
  unfold rNum at h ⊢
  cases hp : parse 0 l with
  | none => rw [hp] at h; simp [doneK] at h
  | some q =>
    obtain ⟨n, r⟩ := q
    rw [hp] at h
    obtain ⟨_, e, _, _⟩ := numAt_some ho hp
    have hr : r = [] := by
      rcases Nat.eq_zero_or_pos r.length with h0 | h0
      · exact List.eq_nil_of_length_eq_zero h0
      · simp [doneK, h0] at h
    subst hr
    rw [e]; simp

theorem done_nil (k : Int) : doneK [] k = k := by unfold doneK; rw [if_neg]; simp

theorem done_bytes {l : List Int} (ho : Oct l) (h : doneK (rBytes l 0 1000).2.1 (rBytes l 0 1000).2.2 = 0) : form (rBytes l 0 1000).1.length ++ (rBytes l 0 1000).1 = l := by
  have hk : ∀ q : Int, q ≠ 0 → (if (rNum l 0).2.2 = 0 then q else (rNum l 0).2.2) ≠ 0 := fun q hq => by split <;> assumption
  unfold rBytes at h ⊢
  split at h
  · exact absurd ((done_nil _).symm.trans h) (hk 4 (by omega))
  · rename_i h1
    split at h
    · exact absurd ((done_nil _).symm.trans h) (hk 3 (by omega))
    · rename_i h2
      rw [if_neg h1, if_neg h2]
      show form ((rNum l 0).2.1.take (rNum l 0).1).length ++ (rNum l 0).2.1.take (rNum l 0).1 = l
      have h' : doneK ((rNum l 0).2.1.drop (rNum l 0).1) (rNum l 0).2.2 = 0 := h
      unfold rNum at h' h1 ⊢
      cases hp : parse 0 l with
      | none => rw [hp] at h'; simp [doneK] at h'
      | some q =>
        obtain ⟨n, r⟩ := q
        rw [hp] at h' h1
        obtain ⟨_, e, _, _⟩ := numAt_some ho hp
        have h1' : ¬ r.length < n := h1
        have hr : r.length = n := by
          rcases Nat.lt_or_ge n r.length with h0 | h0
          · exfalso
            have h3 : doneK (r.drop n) 0 = 0 := h'
            unfold doneK at h3
            rw [if_pos ⟨rfl, by rw [List.length_drop]; omega⟩] at h3
            omega
          · omega
        show form (r.take n).length ++ r.take n = l
        rw [List.take_of_length_le (by omega), hr]
        exact e.symm

theorem rBytes_len (l : List Int) (k most : Int) (ho : Oct l) : (rBytes l k most).1.length ≤ l.length := by
  have h := rNum_len l k ho
  unfold rBytes
  split
  · simp
  · split
    · simp
    · show ((rNum l k).2.1.take (rNum l k).1).length ≤ l.length
      rw [List.length_take]; omega

set_option maxHeartbeats 2000000 in
set_option maxRecDepth 20000 in
theorem one_walk (v : Value) (l : List Int) (w : World) (hv : Rd w v l) :
    Calls Try.prog 5 #[v] w fun e w' => e = .returned (.bool true) ∧ Below w.heap.size w w' := by
  obtain ⟨a, cap, rfl⟩ := hv.len
  have hc := hv.cap
  by_cases hl : 1000 < l.length
  · go_enter Try.func5, Try.ntmps5
    go_wp2_with (first | (go_at_call 7; go_must (refine (alive_any _).mono ?_; rintro e w1 ⟨rfl, hb⟩)))
    go_ret
    exact ⟨rfl, hb⟩
  · have HO : Hid (Oct l) := hv.oct
    have HLT : Hid ((rNum l 0).1 < 18446744073709551616) := rnum_lt l 0 hv.oct
    have HZ : Hid (zig (zag (rNum l 0).1) = (rNum l 0).1) := zig_zag _
    have h1 : form (rNum l 0).1 = l ∧ doneK (rNum l 0).2.1 (rNum l 0).2.2 = 0 ∨ (doneK (rNum l 0).2.1 (rNum l 0).2.2 == 0) = false := by
      by_cases h : doneK (rNum l 0).2.1 (rNum l 0).2.2 = 0
      · exact .inl ⟨done_num hv.oct h, h⟩
      · exact .inr (by simpa using h)
    have h2 : form (rBytes l 0 1000).1.length ++ (rBytes l 0 1000).1 = l ∧ doneK (rBytes l 0 1000).2.1 (rBytes l 0 1000).2.2 = 0 ∨ (doneK (rBytes l 0 1000).2.1 (rBytes l 0 1000).2.2 == 0) = false := by
      by_cases h : doneK (rBytes l 0 1000).2.1 (rBytes l 0 1000).2.2 = 0
      · exact .inl ⟨done_bytes hv.oct h, h⟩
      · exact .inr (by simpa using h)
    have C19 : Hid (∀ (w : World) b, Rdr w b l 0 → Calls Try.prog 19 #[ptr b] w fun e w' => e = .returned (.int .u64 (rNum l 0).1) ∧ Rdr w' b (rNum l 0).2.1 (rNum l 0).2.2 ∧ w.grownBy w' (some b)) := fun w b h => rnum_any w b l 0 h
    have C20 : Hid (∀ (w : World) b, Rdr w b l 0 → Calls Try.prog 20 #[ptr b] w fun e w' => e = .returned (.int .i64 (zag (rNum l 0).1)) ∧ Rdr w' b (rNum l 0).2.1 (rNum l 0).2.2 ∧ w.grownBy w' (some b)) := fun w b h => rint_any w b l 0 h
    have C21 : Hid (∀ (w : World) b, Rdr w b l 0 → Calls Try.prog 21 #[ptr b, .int .i64 1000] w fun e w' => ∃ v, e = .returned v ∧ Rd w' v (rBytes l 0 1000).1 ∧ Rdr w' b (rBytes l 0 1000).2.1 (rBytes l 0 1000).2.2 ∧ w.grownBy w' (some b)) := fun w b h => rbytes_any w b l 0 1000 h (by omega) (by omega)
    have C11 : Hid (∀ w : World, Calls Try.prog 11 #[.slice none 0 0, .int .i64 (zag (rNum l 0).1)] w fun e w' => ∃ v', e = .returned v' ∧ Own w.heap.size 5 w' v' (form (rNum l 0).1) ∧ Below w.heap.size w w') := by
      intro w
      have := int_any (.slice none 0 0) [] (zag (rNum l 0).1) w (rd_nil w) (by simp) (by have := HLT.out; unfold zag; split <;> omega)
      rwa [HZ.out] at this
    have C9 : Hid (∀ w : World, Calls Try.prog 9 #[.slice none 0 0, .int .u64 (rNum l 0).1] w fun e w' => ∃ v', e = .returned v' ∧ Own w.heap.size 5 w' v' (form (rNum l 0).1) ∧ Below w.heap.size w w') :=
      fun w => num_any (.slice none 0 0) [] (rNum l 0).1 w (rd_nil w) (by simp) HLT.out
    have hx : (rBytes l 0 1000).1.length ≤ l.length := rBytes_len l 0 1000 hv.oct
    generalize (rNum l 0).1 = n, (rNum l 0).2.1 = l1, (rNum l 0).2.2 = k1 at *
    generalize (rBytes l 0 1000).1 = x, (rBytes l 0 1000).2.1 = l2, (rBytes l 0 1000).2.2 = k2 at *
    clear HO HLT HZ
    obtain ⟨W, hW⟩ : ∃ W, Hid (W = w) := ⟨_, rfl⟩
    have hB : Below W.heap.size W w := by rw [hW.out]; exact Below.refl _ _
    suffices hs : Calls Try.prog 5 #[Value.slice a l.length cap] w fun e w' => e = .returned (.bool true) ∧ Below W.heap.size W w' by
      rw [hW.out] at hs; exact hs
    clear hW
    rcases h1 with ⟨h1f, h1⟩ | h1
    all_goals
      try (have H1F : Hid (form n = l) := h1f; clear h1f)
      rcases h2 with ⟨h2f, h2⟩ | h2
      all_goals
        try (have H2F : Hid (form x.length ++ x = l) := h2f; clear h2f)
        go_enter Try.func5, Try.ntmps5
        go_wp2_with (first
          | (go_at_call 18; go_must (refine (read_any _ _ l hv (by omega)).mono ?_; rintro e w1 ⟨b, rfl, hb, hr, hg⟩; replace hv := hv.kept0 hg; have hbb := Nat.le_trans hB.size hb; replace hB := bgrown0 hB hg; clear hb hg))
          | (go_at_call 19; go_must (refine (C19.out _ b hr).mono ?_; rintro e w2 ⟨rfl, hr2, hg⟩; replace hv := hv.past hr hg; replace hB := bgrown hB hbb hg; clear hr hg))
          | (go_at_call 20; go_must (refine (C20.out _ b hr).mono ?_; rintro e w2 ⟨rfl, hr2, hg⟩; replace hv := hv.past hr hg; replace hB := bgrown hB hbb hg; clear hr hg))
          | (go_at_call 21; go_must (refine (C21.out _ b hr).mono ?_; rintro e w2 ⟨vx, rfl, hvx, hr2, hg⟩; replace hv := hv.past hr hg; replace hB := bgrown hB hbb hg; clear hr hg))
          | (go_at_call 23; go_must (refine (done_any _ b _ _ hr2).mono ?_; rintro e w3 ⟨rfl, rfl⟩; clear hr2))
          | (go_at_call 9; go_must (refine (C9.out _).mono ?_; rw [H1F.out]; rintro e w4 ⟨v4, rfl, hown, hb4⟩; replace hv := hv.below hb4; replace hB := bnext hB hb4; clear hb4))
          | (go_at_call 11; go_must (refine (C11.out _).mono ?_; rw [H1F.out]; rintro e w4 ⟨v4, rfl, hown, hb4⟩; replace hv := hv.below hb4; replace hB := bnext hB hb4; clear hb4))
          | (go_at_call 13; go_must (refine (bytes_any _ _ [] x _ (rd_nil _) hvx (by simp) (by omega)).mono ?_; rw [List.nil_append, H2F.out]; rintro e w4 ⟨v4, rfl, hown, hb4⟩; replace hv := hv.below hb4; replace hB := bnext hB hb4; clear hb4))
          | (go_at_call 8; go_must (refine (same_any _ _ l l _ hown.rd hv).mono ?_; rw [decide_eq_true rfl]; rintro e w5 ⟨rfl, hb5⟩; replace hv := hv.below hb5; replace hB := bnext hB hb5; clear hb5 hown))
          | (go_at_call 7; go_must (refine (alive_any _).mono ?_; rintro e w6 ⟨rfl, hb6⟩; replace hB := bnext hB hb6)))
        go_ret
        exact ⟨rfl, hB⟩

end Go.Proofs.Ytdbfdocokefbbaa
