/-
  WirR: grafted.
-/
import Derived.Test.YtcchokedfbogfaaBase
import Derived.Test.YtcchokedfbogfaaPut
import Derived.Test.YtcchokedfbogfaaRef
import Derived.Test.YtcchokedfbogfaaTurn
import Derived.Test.YtcchokedfbogfaaChain
import Derived.Test.YtcchokedfbogfaaCmp
import Derived.Test.YtcchokedfbogfaaPutsS
import Derived.BigQuiet
import Derived.Deep.RegionWith
import Derived.Laws.CopyOwn
import Derived.Lib.AppendStr
namespace Go.Proofs.Ytcchokedfbogfaa
section
set_option linter.unusedVariables false
open Go.RowKit
theorem ends_any (x : Int) (i : Nat) (w : World) (hi : i < 10) : Calls Try.prog 99 #[.int .u8 x, .int .i64 i] w fun e w' => e = .returned (.bool (endsB x i)) ∧ w' = w := by
  by_cases h9 : i = 9
  · subst h9
    go_enter Try.func99, Try.ntmps99
    go_wp2
    go_ret
    exact ⟨by simp [endsB], rfl⟩
  · have h9' : ((i : Int) == 9) = false := by simp; omega
    have he : endsB x i = (x != 0 || i == 0) := by unfold endsB; rw [if_neg h9]
    have HE : Hid (endsB x i = (x != 0 || i == 0)) := he
    clear he
    by_cases hx : x = 0
    · subst hx
      go_enter Try.func99, Try.ntmps99
      go_wp2
      go_ret
      refine ⟨?_, rfl⟩
      rw [HE.out]
      show Ending.returned (.bool ((i : Int) == 0)) = _
      rcases Nat.eq_zero_or_pos i with rfl | hp
      · rfl
      · rw [show ((i : Int) == 0) = false by simp; omega, show (i == 0) = false by simp; omega]; rfl
    · have hx' : (x != 0) = true := by simpa using hx
      go_enter Try.func99, Try.ntmps99
      go_wp2
      go_ret
      refine ⟨?_, rfl⟩
      rw [HE.out, hx']
      rfl
set_option maxHeartbeats 1000000 in
set_option maxRecDepth 20000 in
theorem number_any (v : Value) (l : List Int) (w : World) (hv : Rd w v l) :
    Calls Try.prog 87 #[v] w fun e w' => e = .returned (.tuple #[.int .u64 (numAt l).1, .int .i64 (numAt l).2]) ∧ w' = w := by
  obtain ⟨ho, a, cap, rfl, h1, h2, h3, h4⟩ := hv
  unfold maxLen at h2
  by_cases h10 : l.length ≤ 10
  all_goals
    go_enter Try.func87, Try.ntmps87
    go_wp2
    go_loop [4, 9] (fun n i => ∃ k acc : Nat, k ≤ l.length ∧ k ≤ 10 ∧ i = .int .i64 k ∧ n = .int .u64 acc ∧ Hid (Upto l k acc)) (fun _ i => 10 - (intOf i).toNat)
    case atStart => exact ⟨0, 0, by omega, by omega, rfl, rfl, upto_zero l⟩
    case round =>
      obtain ⟨k, acc, hk, hk10, rfl, rfl, hu⟩ := hrel
      by_cases hlt : k < l.length ∧ k < 10
      · obtain ⟨b, off, rfl, hc⟩ := h4 (by omega)
        have ck := hc k hlt.1
        have hx := ho.at k
        obtain ⟨x, HX⟩ : ∃ x, Hid (l.getD k 0 = x) := ⟨_, rfl⟩
        rw [HX.out] at ck hx
        have hnot := not128 x hx.1 hx.2
        clear hc h4 ho
        by_cases hx1 : x < 128
        · by_cases he : endsB x k = true
          · have HN : Hid (numAt l = ((nextAcc acc k x).toNat, k + 1)) := by
              have := numAt_end hu.out hlt.1 hlt.2 (by rw [HX.out]; exact hx) (by rw [HX.out]; exact hx1) (by rw [HX.out]; exact he)
              rwa [HX.out] at this
            go_wp2_with (go_at_call 99; go_must (refine (ends_any x k _ (by omega)).mono ?_; rintro e w' ⟨rfl, rfl⟩))
            go_ret2
            refine ⟨?_, rfl⟩
            rw [HN.out, Int.toNat_of_nonneg (nextAcc_nonneg acc k x)]
            rfl
          · have he' : endsB x k = false := by simpa using he
            have HN : Hid (numAt l = (0, 0)) := numAt_bad hu.out hlt.1 hlt.2 (by rw [HX.out]; exact hx1) (by rw [HX.out]; exact he')
            go_wp2_with (go_at_call 99; go_must (refine (ends_any x k _ (by omega)).mono ?_; rintro e w' ⟨rfl, rfl⟩))
            go_ret2
            refine ⟨?_, rfl⟩
            rw [HN.out]
            rfl
        · have HN : Hid (Upto l (k + 1) (nextAcc acc k x).toNat) := by
            have := upto_more hu.out hlt.1 hlt.2 (by rw [HX.out]; exact hx) (by rw [HX.out]; exact hx1)
            rwa [HX.out] at this
          go_wp2_with (go_at_call 99; go_must (refine (ends_any x k _ (by omega)).mono ?_; rintro e w' ⟨rfl, rfl⟩))
          go_round
          case rel => exact ⟨k + 1, _, by omega, by omega, by go_num, by rw [Int.toNat_of_nonneg (nextAcc_nonneg acc k x)]; rfl, HN⟩
          case measure => simp [intOf]; omega
      · have HN : Hid (numAt l = (0, 0)) := numAt_out hu.out hk hlt
        clear ho h4
        go_wp2
        go_ret2
        refine ⟨?_, rfl⟩
        rw [HN.out]
        rfl
end
section
section
set_option linter.unusedVariables false
open Go.RowKit
theorem rest_any (w : World) (b : Nat) (l : List Int) (k : Int) (h : Rdr w b l k) :
    Calls Try.prog 88 #[ptr b] w fun e w' => (∃ v, e = .returned v ∧ w.cell? ⟨b, 0, none⟩ = some v ∧ Rd w v l) ∧ w' = w := by
  obtain ⟨v, hv, hrd⟩ := h.left
  go_enter Try.func88, Try.ntmps88
  go_wp2
  go_ret
  exact ⟨⟨_, rfl, hv, hrd⟩, rfl⟩
theorem fail_any (w : World) (b : Nat) (l : List Int) (k q : Int) (h : Rdr w b l k) :
    Calls Try.prog 71 #[ptr b, .int .i64 q] w fun e w' => e = .returned (.tuple #[]) ∧ Rdr w' b [] (if k = 0 then q else k) ∧ w.grownBy w' (some b) := by
  obtain ⟨v, hv, hrd⟩ := h.left
  have hw := h.wrong
  have hf0 := h.f0
  have hf1 := h.f1
  have H : Hid (Rdr w b l k) := h
  clear h
  by_cases hk : k = 0
  · subst hk
    go_enter Try.func71, Try.ntmps71
    go_wp2
    go_end0
    exact ⟨rfl, (H.out.setLeft (rd_nil w) (fun h => absurd rfl h)).setWrong, grown_trans (grown_setCell w b 0 _) (grown_setCell _ b 1 _) (fun k hk => .inl hk)⟩
  · have hk' : (k != 0) = true := by simpa using hk
    go_enter Try.func71, Try.ntmps71
    go_wp2
    have hl := H.out.gone hk
    subst hl
    exact bodyPost_ret (results_none rfl _ _ _) rfl ⟨rfl, by first | exact H.out | (rw [if_neg hk]; exact H.out), grown_refl _ _⟩
set_option maxHeartbeats 400000 in
set_option maxRecDepth 20000 in
theorem rnum_any (w : World) (b : Nat) (l : List Int) (k : Int) (h : Rdr w b l k) :
    Calls Try.prog 69 #[ptr b] w fun e w' => e = .returned (.int .u64 (rNum l k).1) ∧ Rdr w' b (rNum l k).2.1 (rNum l k).2.2 ∧ w.grownBy w' (some b) := by
  obtain ⟨v, hv, hrd⟩ := h.left
  have H : Hid (Rdr w b l k) := h
  cases hp : parse 0 l with
  | none =>
    have HN : Hid (rNum l k = (0, [], if k = 0 then 4 else k)) := by show _ = _; unfold rNum; rw [hp]
    have hn := numAt_none hp
    clear h hp
    go_enter Try.func69, Try.ntmps69
    go_wp2_with (first | (go_at_call 88; go_must (refine (rest_any _ b l k H.out).mono ?_; rintro e w' ⟨⟨v', rfl, hv', hrd'⟩, rfl⟩)) | (go_at_call 87; go_must (refine (number_any _ l _ hrd').mono ?_; rw [hn]; rintro e w' ⟨rfl, rfl⟩)) | (go_at_call 71; go_must (refine (fail_any _ b l k 4 H.out).mono ?_; rintro e w' ⟨rfl, hr, hg⟩)))
    go_ret
    rw [HN.out]
    exact ⟨rfl, hr, hg⟩
  | some q =>
    obtain ⟨n, r⟩ := q
    obtain ⟨h1, h2, h3, h4⟩ := numAt_some hrd.oct hp
    have HN : Hid (rNum l k = (n, r, k)) := by show _ = _; unfold rNum; rw [hp]
    have hpos := form_pos n
    obtain ⟨s, hs⟩ : ∃ s, s = (form n).length := ⟨_, rfl⟩
    rw [← hs] at h1 h4 hpos
    have H4 : Hid (l.drop s = r) := h4
    have hsl : s ≤ l.length := by rw [h2, List.length_append]; omega
    obtain ⟨av, cap, hva⟩ := hrd.len
    subst hva
    have hf0 := h.f0
    have hcap := hrd.cap.2
    clear h hp h2 h3 h4 hs
    go_enter Try.func69, Try.ntmps69
    go_wp2_with (first | (go_at_call 88; go_must (refine (rest_any _ b l k H.out).mono ?_; rintro e w' ⟨⟨v', rfl, hv', hrd'⟩, rfl⟩)) | (go_at_call 87; go_must (refine (number_any _ l _ hrd').mono ?_; rw [h1]; rintro e w' ⟨rfl, rfl⟩)) | (go_at_call 71; go_must (refine (fail_any _ b l k 4 H.out).mono ?_; rintro e w' ⟨rfl, hr, hg⟩)))
    all_goals
      go_ret
      rw [HN.out]
      refine ⟨rfl, H.out.setLeft ?_ (fun hk => ?_), grown_setCell _ b 0 _⟩
      · rw [← H4.out]
        first
          | exact rd_cut hrd hsl ‹_›
          | (have hcs : cap = s := ‹_›
             subst hcs
             exact rd_cut0 hrd hsl)
      · have := H.out.gone hk
        rw [← H4.out, this]; simp
end
section
set_option linter.unusedVariables false
open Go.RowKit
theorem left_any (w : World) (b : Nat) (l : List Int) (k : Int) (h : Rdr w b l k) :
    Calls Try.prog 97 #[ptr b] w fun e w' => e = .returned (.int .i64 l.length) ∧ w' = w := by
  have H : Hid (Rdr w b l k) := h
  clear h
  go_enter Try.func97, Try.ntmps97
  go_wp2_with (first | (go_at_call 88; go_must (refine (rest_any _ b l k H.out).mono ?_; rintro e w' ⟨⟨v', rfl, hv', hrd'⟩, rfl⟩; obtain ⟨av, cap, rfl⟩ := hrd'.len)))
  go_ret
  exact ⟨rfl, rfl⟩
theorem done_any (w : World) (b : Nat) (l : List Int) (k : Int) (h : Rdr w b l k) :
    Calls Try.prog 35 #[ptr b] w fun e w' => e = .returned (.int .i64 (doneK l k)) ∧ w' = w := by
  obtain ⟨v, hv, hrd⟩ := h.left
  obtain ⟨av, cap, rfl⟩ := hrd.len
  have hw := h.wrong
  clear h hrd
  by_cases hk : k = 0
  · subst hk
    by_cases hl : 0 < l.length
    · have HD : Hid (doneK l 0 = 4) := by show _ = _; unfold doneK; rw [if_pos ⟨rfl, hl⟩]
      go_enter Try.func35, Try.ntmps35
      go_wp2
      go_ret
      exact ⟨by rw [HD.out]; rfl, rfl⟩
    · have HD : Hid (doneK l 0 = 0) := by show _ = _; unfold doneK; rw [if_neg (fun h => hl h.2)]
      go_enter Try.func35, Try.ntmps35
      go_wp2
      go_ret
      exact ⟨by rw [HD.out]; rfl, rfl⟩
  · have HD : Hid (doneK l k = k) := by show _ = _; unfold doneK; rw [if_neg (fun h => hk h.1)]
    have hk' : (k == 0) = false := by simpa using hk
    go_enter Try.func35, Try.ntmps35
    go_wp2
    go_ret
    exact ⟨by rw [HD.out]; rfl, rfl⟩
theorem above_any (n m : Int) (w : World) (hn : 0 ≤ n) (hm : -9223372036854775808 ≤ m ∧ m ≤ 9223372036854775807) : Calls Try.prog 70 #[.int .u64 n, .int .i64 m] w fun e w' => e = .returned (.bool (decide (m < n))) ∧ w' = w := by
  by_cases h : m < 0
  · have HD : Hid (decide (m < n) = true) := by show _ = _; simp; omega
    go_enter Try.func70, Try.ntmps70
    go_wp2
    go_ret
    exact ⟨by rw [HD.out]; rfl, rfl⟩
  · go_enter Try.func70, Try.ntmps70
    go_wp2
    go_ret
    exact ⟨rfl, rfl⟩
set_option maxHeartbeats 400000 in
set_option maxRecDepth 20000 in
theorem rint_any (w : World) (b : Nat) (l : List Int) (k : Int) (h : Rdr w b l k) :
    Calls Try.prog 96 #[ptr b] w fun e w' => e = .returned (.int .i64 (zag (rNum l k).1)) ∧ Rdr w' b (rNum l k).2.1 (rNum l k).2.2 ∧ w.grownBy w' (some b) := by
  have H : Hid (Rdr w b l k) := h
  have hlt := rnum_lt l k h.oct
  obtain ⟨n, hn⟩ : ∃ n, n = (rNum l k).1 := ⟨_, rfl⟩
  rw [← hn] at hlt ⊢
  have HL : Hid (n < 18446744073709551616) := hlt
  have HN : Hid (n = (rNum l k).1) := hn
  have hand := and1 (n : Int) (by omega) (by omega)
  clear h hlt hn
  by_cases hodd : n % 2 = 1
  · have he : (((n : Int) % 2) == 1) = true := by simp; omega
    have HZ : Hid (zag n = -((n / 2 : Nat) : Int) - 1) := by show _ = _; unfold zag; rw [if_pos hodd]
    clear hodd
    go_enter Try.func96, Try.ntmps96
    go_wp2_with (first | (go_at_call 69; go_must (refine (rnum_any _ b l k H.out).mono ?_; rw [← HN.out]; rintro e w' ⟨rfl, hr, hg⟩)))
    go_ret
    refine ⟨?_, hr, hg⟩
    rw [HZ.out, ← odd64 n HL.out]
    rfl
  · have he : (((n : Int) % 2) == 1) = false := by simp; omega
    have HZ : Hid (zag n = ((n / 2 : Nat) : Int)) := by show _ = _; unfold zag; rw [if_neg hodd]
    clear hodd
    go_enter Try.func96, Try.ntmps96
    go_wp2_with (first | (go_at_call 69; go_must (refine (rnum_any _ b l k H.out).mono ?_; rw [← HN.out]; rintro e w' ⟨rfl, hr, hg⟩)))
    go_ret
    refine ⟨?_, hr, hg⟩
    rw [HZ.out, ← half64 n HL.out]
    rfl
set_option maxHeartbeats 400000 in
set_option maxRecDepth 20000 in
theorem take_any (w : World) (b : Nat) (l : List Int) (k : Int) (n : Nat) (h : Rdr w b l k) (hn : n ≤ l.length) (hl : l.length ≤ 1000000000) :
    Calls Try.prog 98 #[ptr b, .int .i64 n] w fun e w' => ∃ v, e = .returned v ∧ Rd w' v (l.take n) ∧ Rdr w' b (l.drop n) k ∧ w.grownBy w' (some b) := by
  by_cases h0 : n = 0
  · subst h0
    go_enter Try.func98, Try.ntmps98
    go_wp2
    go_ret
    refine ⟨_, rfl, rd_nil w, by simpa using h, grown_refl _ _⟩
  · have h0' : ((n : Int) == 0) = false := by simp; omega
    obtain ⟨v, hv, hrd⟩ := h.left
    obtain ⟨av, cap, rfl⟩ := hrd.len
    have hc := hrd.cap.2
    have hf0 := h.f0
    have H : Hid (Rdr w b l k) := h
    have hlt := h.lt
    clear h h0
    go_enter Try.func98, Try.ntmps98
    go_wp2_with (first | (go_at_call 57; go_must (refine (apart_any _ (l.take n) 0 _ (rd_head hrd hn) (by simp; omega) (by omega)).mono ?_; rintro e w' ⟨v', rfl, hown, hb⟩; have hv1 := (hb.cell (p := ⟨b, 0, none⟩) hlt).trans hv; have hf1 := (hb.frozen (p := ⟨b, 0, none⟩) hlt).trans hf0)))
    all_goals
      go_ret
      have hr1 := H.out.kept (below_grown hb)
      have hrd1 := hrd.below hb
      have hcut : Rd w' (.slice av l.length cap) l := hrd1
      refine ⟨_, rfl, hown.rd.past hr1 (grown_setCell w' b 0 _), hr1.setLeft ?_ (fun hk => ?_), grown_none (below_grown hb) (grown_setCell w' b 0 _)⟩
      · first
          | exact rd_cut hrd1 hn ‹_›
          | (have hcs : cap = n := ‹_›
             subst hcs
             exact rd_cut0 hrd1 hn)
      · have := H.out.gone hk
        rw [this]; simp
end
section
set_option linter.unusedVariables false
open Go.RowKit
set_option maxHeartbeats 400000 in
set_option maxRecDepth 20000 in
theorem rbytes_any (w : World) (b : Nat) (l : List Int) (k most : Int) (h : Rdr w b l k) (hl : l.length ≤ 1000000000) (hm : -9223372036854775808 ≤ most ∧ most ≤ 9223372036854775807) :
    Calls Try.prog 86 #[ptr b, .int .i64 most] w fun e w' => ∃ v, e = .returned v ∧ Rd w' v (rBytes l k most).1 ∧ Rdr w' b (rBytes l k most).2.1 (rBytes l k most).2.2 ∧ w.grownBy w' (some b) := by
  have H : Hid (Rdr w b l k) := h
  have hlt := rnum_lt l k h.oct
  have hle := rNum_len l k h.oct
  obtain ⟨n, hn⟩ : ∃ n, n = (rNum l k).1 := ⟨_, rfl⟩
  obtain ⟨l', hl'⟩ : ∃ l', l' = (rNum l k).2.1 := ⟨_, rfl⟩
  obtain ⟨k', hk'⟩ : ∃ k', k' = (rNum l k).2.2 := ⟨_, rfl⟩
  have HB : Hid (rBytes l k most = if l'.length < n then ([], [], if k' = 0 then 4 else k') else if most < (n : Int) then ([], [], if k' = 0 then 3 else k') else (l'.take n, l'.drop n, k')) := by
    show _ = _; unfold rBytes; rw [hn, hl', hk']
  have HN : Hid (∀ w' : World, Rdr w' b (rNum l k).2.1 (rNum l k).2.2 → Rdr w' b l' k') := by intro w' hr; rw [hl', hk']; exact hr
  have HNN : Hid (n = (rNum l k).1) := hn
  rw [← hl'] at hle
  rw [← hn] at hlt
  have HL : Hid (n < 18446744073709551616) := hlt
  clear h hlt hn hl' hk'
  by_cases h1 : l'.length < n
  · have h1' : (l'.length : Int) < (n : Int) := by omega
    go_enter Try.func86, Try.ntmps86
    go_wp2_with (first | (go_at_call 69; go_must (refine (rnum_any _ b l k H.out).mono ?_; rw [← HNN.out]; rintro e w1 ⟨rfl, hr1, hg1⟩; replace hr1 := HN.out _ hr1)) | (go_at_call 97; go_must (refine (left_any _ b l' k' hr1).mono ?_; rintro e w2 ⟨rfl, rfl⟩)) | (go_at_call 71; go_must (refine (fail_any _ b l' k' 4 hr1).mono ?_; rintro e w3 ⟨rfl, hr3, hg3⟩)))
    go_ret
    rw [HB.out, if_pos h1]
    exact ⟨_, rfl, rd_nil _, hr3, grown_trans hg1 hg3 (fun _ h => .inl h)⟩
  · have h1' : ¬ (l'.length : Int) < (n : Int) := by omega
    by_cases h2 : most < (n : Int)
    · have h2' : decide (most < (n : Int)) = true := by simpa using h2
      go_enter Try.func86, Try.ntmps86
      go_wp2_with (first | (go_at_call 69; go_must (refine (rnum_any _ b l k H.out).mono ?_; rw [← HNN.out]; rintro e w1 ⟨rfl, hr1, hg1⟩; replace hr1 := HN.out _ hr1)) | (go_at_call 97; go_must (refine (left_any _ b l' k' hr1).mono ?_; rintro e w2 ⟨rfl, rfl⟩)) | (go_at_call 70; go_must (refine (above_any n most _ (by omega) hm).mono ?_; rintro e w2 ⟨rfl, rfl⟩)) | (go_at_call 71; go_must (refine (fail_any _ b l' k' 3 hr1).mono ?_; rintro e w3 ⟨rfl, hr3, hg3⟩)))
      go_ret
      rw [HB.out, if_neg h1, if_pos h2]
      exact ⟨_, rfl, rd_nil _, hr3, grown_trans hg1 hg3 (fun _ h => .inl h)⟩
    · have h2' : decide (most < (n : Int)) = false := by simpa using h2
      go_enter Try.func86, Try.ntmps86
      go_wp2_with (first | (go_at_call 69; go_must (refine (rnum_any _ b l k H.out).mono ?_; rw [← HNN.out]; rintro e w1 ⟨rfl, hr1, hg1⟩; replace hr1 := HN.out _ hr1)) | (go_at_call 97; go_must (refine (left_any _ b l' k' hr1).mono ?_; rintro e w2 ⟨rfl, rfl⟩)) | (go_at_call 70; go_must (refine (above_any n most _ (by omega) hm).mono ?_; rintro e w2 ⟨rfl, rfl⟩)) | (go_at_call 98; go_must (refine (take_any _ b l' k' n hr1 (by omega) (by omega)).mono ?_; rintro e w3 ⟨v3, rfl, hrd3, hr3, hg3⟩)))
      go_ret
      rw [HB.out, if_neg (by omega), if_neg (by omega)]
      exact ⟨_, rfl, hrd3, hr3, grown_trans hg1 hg3 (fun _ h => .inl h)⟩
set_option maxHeartbeats 400000 in
set_option maxRecDepth 20000 in
theorem rcount_any (w : World) (b : Nat) (l : List Int) (k most : Int) (h : Rdr w b l k) (hm : -9223372036854775808 ≤ most ∧ most ≤ 9223372036854775807) :
    Calls Try.prog 34 #[ptr b, .int .i64 most] w fun e w' => e = .returned (.int .i64 (rCount l k most).1) ∧ Rdr w' b (rCount l k most).2.1 (rCount l k most).2.2 ∧ w.grownBy w' (some b) := by
  have H : Hid (Rdr w b l k) := h
  obtain ⟨n, hn⟩ : ∃ n, n = (rNum l k).1 := ⟨_, rfl⟩
  have HNN : Hid (n = (rNum l k).1) := hn
  have HB : Hid (rCount l k most = if most < (n : Int) then (0, [], if (rNum l k).2.2 = 0 then 3 else (rNum l k).2.2) else ((n : Int), (rNum l k).2.1, (rNum l k).2.2)) := by
    show _ = _; unfold rCount; rw [hn]
  clear h hn
  by_cases h2 : most < (n : Int)
  · have h2' : decide (most < (n : Int)) = true := by simpa using h2
    go_enter Try.func34, Try.ntmps34
    go_wp2_with (first | (go_at_call 69; go_must (refine (rnum_any _ b l k H.out).mono ?_; rw [← HNN.out]; rintro e w1 ⟨rfl, hr1, hg1⟩)) | (go_at_call 70; go_must (refine (above_any n most _ (by omega) hm).mono ?_; rintro e w2 ⟨rfl, rfl⟩)) | (go_at_call 71; go_must (refine (fail_any _ b _ _ 3 hr1).mono ?_; rintro e w3 ⟨rfl, hr3, hg3⟩)))
    go_ret
    rw [HB.out, if_pos h2]
    exact ⟨rfl, hr3, grown_trans hg1 hg3 (fun _ h => .inl h)⟩
  · have h2' : decide (most < (n : Int)) = false := by simpa using h2
    go_enter Try.func34, Try.ntmps34
    go_wp2_with (first | (go_at_call 69; go_must (refine (rnum_any _ b l k H.out).mono ?_; rw [← HNN.out]; rintro e w1 ⟨rfl, hr1, hg1⟩)) | (go_at_call 70; go_must (refine (above_any n most _ (by omega) hm).mono ?_; rintro e w2 ⟨rfl, rfl⟩)) | (go_at_call 71; go_must (refine (fail_any _ b _ _ 3 hr1).mono ?_; rintro e w3 ⟨rfl, hr3, hg3⟩)))
    go_ret
    rw [HB.out, if_neg (by omega)]
    exact ⟨rfl, hr1, hg1⟩
set_option maxHeartbeats 400000 in
theorem read_any (w : World) (v : Value) (l : List Int) (h : Rd w v l) (hl : l.length ≤ 1000000000) :
    Calls Try.prog 33 #[v] w fun e w' => ∃ b, e = .returned (ptr b) ∧ w.heap.size ≤ b ∧ Rdr w' b l 0 ∧ w.grownBy w' none := by
  go_enter Try.func33, Try.ntmps33
  go_wp2_with (first | (go_at_call 57; go_must (refine (apart_any _ l 0 _ h hl (by omega)).mono ?_; rintro e w1 ⟨v1, rfl, hown, hb⟩; obtain ⟨av, cap, rfl⟩ := hown.rd.len)))
  go_ret
  exact ⟨w1.heap.size, rfl, hb.size, rdr_new w1 _ l 80 hown.rd, grown_none (below_grown hb) (World.grownBy_alloc w1 _ none)⟩
end
end
section
set_option linter.unusedVariables false
open Go.RowKit
set_option maxHeartbeats 400000 in
set_option maxRecDepth 20000 in
theorem rbool_any (w : World) (b : Nat) (l : List Int) (k : Int) (h : Rdr w b l k) :
    Calls Try.prog 84 #[ptr b] w fun e w' => e = .returned (.bool (rBool l k).1) ∧ Rdr w' b (rBool l k).2.1 (rBool l k).2.2 ∧ w.grownBy w' (some b) := by
  have H : Hid (Rdr w b l k) := h
  obtain ⟨n, hn⟩ : ∃ n, n = (rNum l k).1 := ⟨_, rfl⟩
  have HNN : Hid (n = (rNum l k).1) := hn
  have HB : Hid (rBool l k = if 1 < n then (false, [], if (rNum l k).2.2 = 0 then 4 else (rNum l k).2.2) else (decide (n = 1), (rNum l k).2.1, (rNum l k).2.2)) := by
    show _ = _; unfold rBool; rw [hn]
  clear h hn
  by_cases h1 : 1 < n
  · have h1' : (1 : Int) < (n : Int) := by omega
    go_enter Try.func84, Try.ntmps84
    go_wp2_with (first | (go_at_call 69; go_must (refine (rnum_any _ b l k H.out).mono ?_; rw [← HNN.out]; rintro e w1 ⟨rfl, hr1, hg1⟩)) | (go_at_call 71; go_must (refine (fail_any _ b _ _ 4 hr1).mono ?_; rintro e w3 ⟨rfl, hr3, hg3⟩)))
    go_ret
    rw [HB.out, if_pos h1]
    exact ⟨rfl, hr3, grown_trans hg1 hg3 (fun _ h => .inl h)⟩
  · have h1' : ¬ (1 : Int) < (n : Int) := by omega
    go_enter Try.func84, Try.ntmps84
    go_wp2_with (first | (go_at_call 69; go_must (refine (rnum_any _ b l k H.out).mono ?_; rw [← HNN.out]; rintro e w1 ⟨rfl, hr1, hg1⟩)) | (go_at_call 71; go_must (refine (fail_any _ b _ _ 4 hr1).mono ?_; rintro e w3 ⟨rfl, hr3, hg3⟩)))
    go_ret
    rw [HB.out, if_neg h1]
    refine ⟨?_, hr1, hg1⟩
    show Ending.returned (.bool ((n : Int) == 1)) = .returned (.bool (decide (n = 1)))
    by_cases h : n = 1
    · subst h; rfl
    · rw [show ((n : Int) == 1) = false by simp; omega, decide_eq_false h]
end
section
set_option linter.unusedVariables false
open Go.RowKit
set_option maxHeartbeats 400000 in
set_option maxRecDepth 20000 in
theorem rtext_any (w : World) (b : Nat) (l : List Int) (k most : Int) (h : Rdr w b l k) (hl : l.length ≤ 1000000000) (hm : -9223372036854775808 ≤ most ∧ most ≤ 9223372036854775807) :
    Calls Try.prog 82 #[ptr b, .int .i64 most] w fun e w' => e = .returned (.string (strOfNums (rBytes l k most).1)) ∧ Rdr w' b (rBytes l k most).2.1 (rBytes l k most).2.2 ∧ w.grownBy w' (some b) := by
  have C := rbytes_any w b l k most h hl hm
  generalize (rBytes l k most).1 = x, (rBytes l k most).2.1 = l', (rBytes l k most).2.2 = k' at C
  have HC := C
  clear C h
  go_enter Try.func82, Try.ntmps82
  go_wp2_with (first | (go_at_call 86; go_must (refine HC.mono ?_; rintro e w1 ⟨v1, rfl, hv1, hr1, hg1⟩; have hcv := run_convert_rd (P := Try.prog) w1 24 9 5 (by kernel_rfl) (by kernel_rfl) (by kernel_rfl) v1 x hv1)))
  go_ret
  exact ⟨rfl, hr1, hg1⟩
end
section
set_option linter.unusedVariables false
open Go.RowKit
set_option maxHeartbeats 400000 in
theorem get_any (w : World) (b : Nat) (l : List Int) (k : Int) (h : Rdr w b l k) :
    Calls Try.prog 80 #[ptr b] w fun e w' => e = .returned (sv (gotS l k).1) ∧ Rdr w' b (gotS l k).2.1 (gotS l k).2.2 ∧ w.grownBy w' (some b) := by
  have H : Hid (Rdr w b l k) := h
  have hlt := h.lt
  clear h
  go_enter Try.func80, Try.ntmps80
  go_wp2_with (first
    | (go_at_call 96; go_must (refine (rint_any _ b l k (H.out.kept (World.grownBy_alloc w _ none))).mono ?_; rintro e w1 ⟨rfl, hr1, hg1⟩))
    | (go_at_call 34; refine (rcount_any _ b _ _ 7 hr1 (by omega)).mono ?_; rintro e w2 ⟨rfl, hr2, hg2⟩
       have X := (blk_new w [.int .i64 0, .int .i64 0] 23).block (hg1.block _ (by simp) (fun e => by have := Option.some.inj e; omega))
       have Y := X.block (hg2.block _ X.lt (fun e => by have := Option.some.inj e; omega))
       have y0 := Y.cell 0 _ rfl
       have y1 := Y.cell 1 _ rfl
       have f0 := Y.frozen 0
       have f1 := Y.frozen 1))
  refine bodyPost_ret (v := sv (gotS l k).1) ?_ rfl ⟨rfl, ?_, ?_⟩
  · rw [results_cell1 rfl]
    unfold sv gotS
    go_simp
  · exact ((hr2.pastS Y (grown_setCell _ _ _ _) (by omega)).pastS (Y.set 0 _) (grown_setCell _ _ _ _) (by omega))
  · exact stored hlt hg1 hg2
end
section
section
set_option linter.unusedVariables false
set_option linter.unusedSimpArgs false
set_option synthInstance.maxSize 20000
set_option maxHeartbeats 2000000
set_option maxRecDepth 20000
open Go.RowKit Go.Maps
theorem eql_slice (t e : TypeId) (hu : Try.prog.underlying t = some (.slice e)) (w : World) (a : Option Addr) (n c : Nat) : (binOp .eql t (.slice a n c) (.slice none 0 0)).run Try.prog w = .ok (.bool a.isNone) w := by
  have key : ∀ d, (Op.equalIn (d + 1) t (.slice a n c) (.slice none 0 0)).run Try.prog w = .ok a.isNone w := fun d => by
    cases a <;> simp [Op.equalIn, run_underlying hu, Result.andThen]
  have e1 : (binOp .eql t (.slice a n c) (.slice none 0 0)).run Try.prog w = ((Op.equalIn (9999 + 1) t (.slice a n c) (.slice none 0 0)).run Try.prog w).andThen fun b w' => .ok (.bool b) w' := by
    simp only [binOp]
    simp [Op.equal, Op.maxDepth]
  rw [e1, key]
  rfl
theorem bclone_any (v : Value) (l : List Int) (w : World) (hv : Rd w v l) (hl : l.length ≤ 1000000) :
    Calls Try.prog 53 #[v] w fun e w' => ∃ v', e = .returned v' ∧ Own w.heap.size 5 w' v' l ∧ Below w.heap.size w w' := by
  have HV : Hid (Rd w v l) := hv
  obtain ⟨hU, a, cap, rfl, h1, h2, h3, h4⟩ := hv
  cases a with
  | none =>
    have hc := h3 rfl
    subst hc
    have hl0 : l = [] := List.eq_nil_of_length_eq_zero (by omega)
    subst hl0
    have hq := eql_slice 24 5 (by kernel_rfl) w none 0 0
    go_enter Try.func53, Try.ntmps53
    go_wp2
    go_ret
    exact ⟨_, rfl, own_nil _ _ w, Below.refl _ _⟩
  | some ad =>
    have hq := eql_slice 24 5 (by kernel_rfl) w (some ad) l.length cap
    have HO : Hid (Own w.heap.size 5 (w.alloc (.cells #[] 5)) (.slice (some ⟨w.heap.size, 0, none⟩) 0 0) []) :=
      ⟨Oct.nil, rfl, .inr ⟨w.heap.size, 0, #[], rfl, Nat.le_refl _, heap_alloc_new w _, Nat.le_refl _, Nat.zero_le _, rfl, rfl⟩⟩
    have HB : Hid (Below w.heap.size w (w.alloc (.cells #[] 5))) := (show Below _ _ _ from balloc (Below.refl _ _) _)
    clear h4
    go_enter Try.func53, Try.ntmps53
    go_wp2_with (at_builtin; go_must (refine wpList_append_cells 24 5 byteTy rfl (.tmp 5) (.tmp 6) rfl w.heap.size _ [] rfl HO.out _ l rfl (HV.out.below HB.out) (by simp; omega) (by simp) ?_; intro v2 w2 hown2 hg2))
    go_ret
    exact ⟨_, rfl, by simpa using hown2, HO.out.below HB.out (Nat.le_refl _) hg2⟩
end
end
end Go.Proofs.Ytcchokedfbogfaa
