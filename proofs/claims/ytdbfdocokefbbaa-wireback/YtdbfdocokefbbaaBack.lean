/-
  The walk of WireBack: what was put, one form behind the other, is taken as it was, and cut off anywhere it is not whole.
-/
import Derived.Test.YtdbfdocokefbbaaBackMath
import Derived.Test.YtdbfdocokefbbaaAlive
namespace Go.Proofs.Ytdbfdocokefbbaa
set_option linter.unusedVariables false
open Go.RowKit

set_option maxHeartbeats 4000000 in
set_option maxRecDepth 20000 in
theorem back_core (n : Nat) (m : Int) (v : Value) (x : List Int) (is : Bool) (cut : Int) (w W : World) (hB : Below W.heap.size W w) (hv : Rd w v x)
    (P0 P1 P2 P3 Q0 Q1 Q2 Q3 : List Int) (k1 k2 k3 : Int) (hx : x.length ≤ 1000) (hP0 : P0.length ≤ 1031)
    (C9 : Hid (∀ w : World, Calls Try.prog 9 #[.slice none 0 0, .int .u64 n] w fun e w' => ∃ v', e = .returned v' ∧ Own w.heap.size 5 w' v' (form n) ∧ Below w.heap.size w w'))
    (C11 : Hid (∀ (w : World) v, Rd w v (form n) → Calls Try.prog 11 #[v, .int .i64 m] w fun e w' => ∃ v', e = .returned v' ∧ Own w.heap.size 5 w' v' (form n ++ form (zig m)) ∧ Below w.heap.size w w'))
    (C13 : Hid (∀ (w : World) v y, Rd w v (form n ++ form (zig m)) → Rd w y x → Calls Try.prog 13 #[v, y] w fun e w' => ∃ v', e = .returned v' ∧ Own w.heap.size 5 w' v' (form n ++ form (zig m) ++ form x.length ++ x) ∧ Below w.heap.size w w'))
    (C16 : Hid (∀ (w : World) v, Rd w v (form n ++ form (zig m) ++ form x.length ++ x) → Calls Try.prog 16 #[v, .bool is] w fun e w' => ∃ v', e = .returned v' ∧ Own w.heap.size 5 w' v' P0 ∧ Below w.heap.size w w'))
    (C19a : Hid (∀ (w : World) b, Rdr w b P0 0 → Calls Try.prog 19 #[ptr b] w fun e w' => e = .returned (.int .u64 n) ∧ Rdr w' b P1 0 ∧ w.grownBy w' (some b)))
    (C20a : Hid (∀ (w : World) b, Rdr w b P1 0 → Calls Try.prog 20 #[ptr b] w fun e w' => e = .returned (.int .i64 m) ∧ Rdr w' b P2 0 ∧ w.grownBy w' (some b)))
    (C21a : Hid (∀ (w : World) b, Rdr w b P2 0 → Calls Try.prog 21 #[ptr b, .int .i64 x.length] w fun e w' => ∃ y, e = .returned y ∧ Rd w' y x ∧ Rdr w' b P3 0 ∧ w.grownBy w' (some b)))
    (C22a : Hid (∀ (w : World) b, Rdr w b P3 0 → Calls Try.prog 22 #[ptr b] w fun e w' => e = .returned (.bool is) ∧ Rdr w' b [] 0 ∧ w.grownBy w' (some b)))
    (HQ : Hid (0 ≤ cut → cut < P0.length → Q0 = P0.take cut.toNat))
    (C19b : Hid (∀ (w : World) b, Rdr w b Q0 0 → Calls Try.prog 19 #[ptr b] w fun e w' => ∃ q : Nat, e = .returned (.int .u64 q) ∧ Rdr w' b Q1 k1 ∧ w.grownBy w' (some b)))
    (C20b : Hid (∀ (w : World) b, Rdr w b Q1 k1 → Calls Try.prog 20 #[ptr b] w fun e w' => ∃ q : Int, e = .returned (.int .i64 q) ∧ Rdr w' b Q2 k2 ∧ w.grownBy w' (some b)))
    (C21b : Hid (∀ (w : World) b, Rdr w b Q2 k2 → Calls Try.prog 21 #[ptr b, .int .i64 x.length] w fun e w' => ∃ y, e = .returned y ∧ Rdr w' b Q3 k3 ∧ w.grownBy w' (some b)))
    (C22b : Hid (0 ≤ cut → cut < P0.length → ∀ (w : World) b, Rdr w b Q3 k3 → Calls Try.prog 22 #[ptr b] w fun e w' => ∃ q : Bool, e = .returned (.bool q) ∧ Rdr w' b [] 4 ∧ w.grownBy w' (some b))) :
    Calls Try.prog 4 #[.int .u64 n, .int .i64 m, v, .bool is, .int .i64 cut] w fun e w' => e = .returned (.bool true) ∧ Below W.heap.size W w' := by
  obtain ⟨a, cap, rfl⟩ := hv.len
  have hd0 : doneK [] 0 = 0 := rfl
  have hd4 : doneK [] 4 = 4 := rfl
  have tk : Hid True := trivial
  by_cases hc : 0 ≤ cut ∧ cut < P0.length
  · obtain ⟨hc0, hc1⟩ := hc
    go_enter Try.func4, Try.ntmps4
    go_wp2_with (first
      | (go_at_call 9; go_must (refine (C9.out _).mono ?_; rintro e w1 ⟨v1, rfl, hown1, hb1⟩; replace hv := hv.below hb1; replace hB := bnext hB hb1; clear hb1))
      | (go_at_call 11; go_must (refine (C11.out _ _ hown1.rd).mono ?_; rintro e w2 ⟨v2, rfl, hown2, hb2⟩; replace hv := hv.below hb2; replace hB := bnext hB hb2; clear hb2 hown1))
      | (go_at_call 13; go_must (refine (C13.out _ _ _ hown2.rd hv).mono ?_; rintro e w3 ⟨v3, rfl, hown3, hb3⟩; replace hv := hv.below hb3; replace hB := bnext hB hb3; clear hb3 hown2))
      | (go_at_call 16; go_must (refine (C16.out _ _ hown3.rd).mono ?_; rintro e w4 ⟨v4, rfl, hown4, hb4⟩; replace hv := hv.below hb4; replace hB := bnext hB hb4; have hvb := hown4.rd; obtain ⟨ab, cb, rfl⟩ := hvb.len; have hcb := hvb.cap; clear hb4 hown3 hown4))
      | (go_at_call 18; have _t := tk; go_must (refine (read_any _ _ P0 hvb (by omega)).mono ?_; rintro e w5 ⟨b, rfl, hb, hr0, hg⟩; replace hv := hv.kept0 hg; replace hvb := hvb.kept0 hg; have hbb := Nat.le_trans hB.size hb; replace hB := bgrown0 hB hg; clear hb hg tk _t))
      | (go_at_call 19; refine (C19a.out _ b hr0).mono ?_; rintro e w6 ⟨rfl, hr1, hg⟩; replace hv := hv.past hr0 hg; replace hvb := hvb.past hr0 hg; replace hB := bgrown hB hbb hg; clear hr0 hg)
      | (go_at_call 20; refine (C20a.out _ b hr1).mono ?_; rintro e w6 ⟨rfl, hr2, hg⟩; replace hv := hv.past hr1 hg; replace hvb := hvb.past hr1 hg; replace hB := bgrown hB hbb hg; clear hr1 hg)
      | (go_at_call 21; refine (C21a.out _ b hr2).mono ?_; rintro e w6 ⟨y, rfl, hy, hr3, hg⟩; replace hv := hv.past hr2 hg; replace hvb := hvb.past hr2 hg; replace hB := bgrown hB hbb hg; clear hr2 hg)
      | (go_at_call 8; go_must (refine (same_any _ _ x x _ hy hv).mono ?_; rw [decide_eq_true rfl]; rintro e w7 ⟨rfl, hb7⟩; replace hv := hv.below hb7; replace hvb := hvb.below hb7; replace hr3 := hr3.kept (below_grown hb7); replace hB := bnext hB hb7; clear hb7 hy))
      | (go_at_call 22; refine (C22a.out _ b hr3).mono ?_; rintro e w6 ⟨rfl, hr4, hg⟩; replace hv := hv.past hr3 hg; replace hvb := hvb.past hr3 hg; replace hB := bgrown hB hbb hg; clear hr3 hg)
      | (go_at_call 23; refine (done_any _ b [] 0 hr4).mono ?_; rw [hd0]; rintro e w8 ⟨rfl, rfl⟩; clear hr4))
    have hq := rd_head hvb (s := cut.toNat) (by omega)
    rw [← HQ.out hc0 hc1] at hq
    have hql : Q0.length ≤ 1031 := by rw [HQ.out hc0 hc1, List.length_take]; omega
    refine (read_any _ _ Q0 hq (by omega)).mono ?_
    rintro e w5 ⟨b, rfl, hb, hr0, hg⟩
    have hbb := Nat.le_trans hB.size hb
    replace hB := bgrown0 hB hg
    clear hb hg hq hql hvb
    go_wp2_with (first
      | (go_at_call 19; go_must (refine (C19b.out _ b hr0).mono ?_; rintro e w6 ⟨q, rfl, hr1, hg⟩; replace hB := bgrown hB hbb hg; clear hr0 hg))
      | (go_at_call 20; go_must (refine (C20b.out _ b hr1).mono ?_; rintro e w6 ⟨q, rfl, hr2, hg⟩; replace hB := bgrown hB hbb hg; clear hr1 hg))
      | (go_at_call 21; go_must (refine (C21b.out _ b hr2).mono ?_; rintro e w6 ⟨y, rfl, hr3, hg⟩; replace hB := bgrown hB hbb hg; clear hr2 hg))
      | (go_at_call 22; go_must (refine (C22b.out hc0 hc1 _ b hr3).mono ?_; rintro e w6 ⟨q, rfl, hr4, hg⟩; replace hB := bgrown hB hbb hg; clear hr3 hg))
      | (go_at_call 23; go_must (refine (done_any _ b [] 4 hr4).mono ?_; rw [hd4]; rintro e w8 ⟨rfl, rfl⟩))
      | (go_at_call 24; go_must (refine (left_any _ b [] 4 hr4).mono ?_; rintro e w8 ⟨rfl, rfl⟩))
      | (go_at_call 7; go_must (refine (alive_any _).mono ?_; rintro e w9 ⟨rfl, hb9⟩; replace hB := bnext hB hb9)))
    go_ret
    exact ⟨rfl, hB⟩
  · have hc' : cut < 0 ∨ 0 ≤ cut ∧ (P0.length : Int) ≤ cut := by omega
    clear hc
    rcases hc' with hc0 | ⟨hc0, hc1⟩
    all_goals
      go_enter Try.func4, Try.ntmps4
      go_wp2_with (first
        | (go_at_call 9; go_must (refine (C9.out _).mono ?_; rintro e w1 ⟨v1, rfl, hown1, hb1⟩; replace hv := hv.below hb1; replace hB := bnext hB hb1; clear hb1))
        | (go_at_call 11; go_must (refine (C11.out _ _ hown1.rd).mono ?_; rintro e w2 ⟨v2, rfl, hown2, hb2⟩; replace hv := hv.below hb2; replace hB := bnext hB hb2; clear hb2 hown1))
        | (go_at_call 13; go_must (refine (C13.out _ _ _ hown2.rd hv).mono ?_; rintro e w3 ⟨v3, rfl, hown3, hb3⟩; replace hv := hv.below hb3; replace hB := bnext hB hb3; clear hb3 hown2))
        | (go_at_call 16; go_must (refine (C16.out _ _ hown3.rd).mono ?_; rintro e w4 ⟨v4, rfl, hown4, hb4⟩; replace hv := hv.below hb4; replace hB := bnext hB hb4; have hvb := hown4.rd; obtain ⟨ab, cb, rfl⟩ := hvb.len; have hcb := hvb.cap; clear hb4 hown3 hown4))
        | (go_at_call 18; have _t := tk; go_must (refine (read_any _ _ P0 hvb (by omega)).mono ?_; rintro e w5 ⟨b, rfl, hb, hr0, hg⟩; replace hv := hv.kept0 hg; replace hvb := hvb.kept0 hg; have hbb := Nat.le_trans hB.size hb; replace hB := bgrown0 hB hg; clear hb hg tk _t))
        | (go_at_call 19; refine (C19a.out _ b hr0).mono ?_; rintro e w6 ⟨rfl, hr1, hg⟩; replace hv := hv.past hr0 hg; replace hvb := hvb.past hr0 hg; replace hB := bgrown hB hbb hg; clear hr0 hg)
        | (go_at_call 20; refine (C20a.out _ b hr1).mono ?_; rintro e w6 ⟨rfl, hr2, hg⟩; replace hv := hv.past hr1 hg; replace hvb := hvb.past hr1 hg; replace hB := bgrown hB hbb hg; clear hr1 hg)
        | (go_at_call 21; refine (C21a.out _ b hr2).mono ?_; rintro e w6 ⟨y, rfl, hy, hr3, hg⟩; replace hv := hv.past hr2 hg; replace hvb := hvb.past hr2 hg; replace hB := bgrown hB hbb hg; clear hr2 hg)
        | (go_at_call 8; go_must (refine (same_any _ _ x x _ hy hv).mono ?_; rw [decide_eq_true rfl]; rintro e w7 ⟨rfl, hb7⟩; replace hv := hv.below hb7; replace hvb := hvb.below hb7; replace hr3 := hr3.kept (below_grown hb7); replace hB := bnext hB hb7; clear hb7 hy))
        | (go_at_call 22; refine (C22a.out _ b hr3).mono ?_; rintro e w6 ⟨rfl, hr4, hg⟩; replace hv := hv.past hr3 hg; replace hvb := hvb.past hr3 hg; replace hB := bgrown hB hbb hg; clear hr3 hg)
        | (go_at_call 23; refine (done_any _ b [] 0 hr4).mono ?_; rw [hd0]; rintro e w8 ⟨rfl, rfl⟩; clear hr4)
        | (go_at_call 7; go_must (refine (alive_any _).mono ?_; rintro e w9 ⟨rfl, hb9⟩; replace hB := bnext hB hb9)))
      go_ret
      exact ⟨rfl, hB⟩

set_option maxHeartbeats 1000000 in
theorem back_walk (n : Nat) (m : Int) (v : Value) (x : List Int) (is : Bool) (cut : Int) (w : World) (hv : Rd w v x) (hn : n < 18446744073709551616) (hm : -9223372036854775808 ≤ m ∧ m ≤ 9223372036854775807) :
    Calls Try.prog 4 #[.int .u64 n, .int .i64 m, v, .bool is, .int .i64 cut] w fun e w' => e = .returned (.bool true) ∧ Below w.heap.size w w' := by
  by_cases hl : 1000 < x.length
  · obtain ⟨a, cap, rfl⟩ := hv.len
    have hc := hv.cap
    clear hn hm
    go_enter Try.func4, Try.ntmps4
    go_wp2_with (first | (go_at_call 7; go_must (refine (alive_any _).mono ?_; rintro e w1 ⟨rfl, hb⟩)))
    go_ret
    exact ⟨rfl, hb⟩
  · have hx : x.length ≤ 1000 := by omega
    have hz := zig_lt m hm
    have hf1 := form_le10 hn
    have hf2 := form_le10 hz
    have hf3 := form_le10 (n := x.length) (by omega)
    have hlen := put4_length n m x is hn hm hx
    refine back_core n m v x is cut w w (Below.refl _ _) hv (put4 n m x is) (form (zig m) ++ (form x.length ++ (x ++ [if is then 1 else 0]))) (form x.length ++ (x ++ [if is then 1 else 0])) [if is then 1 else 0]
      ((put4 n m x is).take cut.toNat) (st1 ((put4 n m x is).take cut.toNat)).1 (st2 ((put4 n m x is).take cut.toNat)).1 (st3 ((put4 n m x is).take cut.toNat) x.length).1
      (st1 ((put4 n m x is).take cut.toNat)).2 (st2 ((put4 n m x is).take cut.toNat)).2 (st3 ((put4 n m x is).take cut.toNat) x.length).2 hx hlen
      (fun w => num_any _ [] n w (rd_nil w) (by simp) hn) (fun w v h => int_any v _ m w h (by omega) hm) (fun w v y h hy => bytes_any v y _ x w h hy (by simp only [List.length_append]; omega) (by omega))
      (fun w v h => ?_) (fun w b h => ?_) (fun w b h => ?_) (fun w b h => ?_) (fun w b h => ?_) (fun _ _ => rfl) (fun w b h => ?_) (fun w b h => ?_) (fun w b h => ?_) (fun h0 h1 w b h => ?_)
    · have := bool_any v _ is w h (by simp only [List.length_append]; omega)
      rw [show form n ++ form (zig m) ++ form x.length ++ x ++ [if is = true then 1 else 0] = put4 n m x is by unfold put4; simp only [List.append_assoc]] at this
      exact this
    · have := rnum_any w b _ 0 h
      unfold put4 at this
      rwa [rNum_form n _ 0 hn] at this
    · have := rint_any w b _ 0 h
      rwa [rNum_form _ _ 0 hz, zag_zig] at this
    · have := rbytes_any w b _ 0 x.length h (by simp only [List.length_append, List.length_cons, List.length_nil]; omega) (by omega)
      rwa [rBytes_form x _ hx] at this
    · have := rbool_any w b _ 0 h
      rwa [rBool_form] at this
    · exact (rnum_any w b _ 0 h).mono fun e w' ⟨he, hr, hg⟩ => ⟨_, he, hr, hg⟩
    · exact (rint_any w b _ _ h).mono fun e w' ⟨he, hr, hg⟩ => ⟨_, he, hr, hg⟩
    · refine (rbytes_any w b _ _ x.length h ?_ (by omega)).mono fun e w' ⟨y, he, _, hr, hg⟩ => ⟨y, he, hr, hg⟩
      have ho0 : Oct ((put4 n m x is).take cut.toNat) := by
        refine Oct.take ?_ _
        unfold put4
        refine (form_oct n).append ((form_oct _).append ((form_oct _).append (hv.oct.append (Oct.cons ?_ Oct.nil))))
        cases is <;> simp
      have h1 := rNum_len _ 0 ho0
      have h2 := rNum_len _ (st1 ((put4 n m x is).take cut.toNat)).2 (rNum_oct _ 0 ho0)
      rw [List.length_take] at h1
      have h3 : (st2 ((put4 n m x is).take cut.toNat)).1.length ≤ (st1 ((put4 n m x is).take cut.toNat)).1.length := h2
      have h4 : (st1 ((put4 n m x is).take cut.toNat)).1.length ≤ min cut.toNat (put4 n m x is).length := h1
      omega
    · have := rbool_any w b _ _ h
      have hc := cut_end n m x is cut.toNat hn hm hx (by omega)
      unfold st4 at hc
      rw [hc] at this
      exact this.mono fun e w' ⟨he, hr, hg⟩ => ⟨_, he, hr, hg⟩

end Go.Proofs.Ytdbfdocokefbbaa
