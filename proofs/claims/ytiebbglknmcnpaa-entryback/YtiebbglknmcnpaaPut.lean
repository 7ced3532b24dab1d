/-
  The contracts of the calls of layer 1 that put a form behind bytes: apart, putNum, Num, Int, Bytes, Bool.
-/
import Derived.Test.YtiebbglknmcnpaaRows
import Derived.Test.YtiebbglknmcnpaaBase
import Derived.WalkSpells
namespace Go.Proofs.Ytiebbglknmcnpaa
set_option linter.unusedVariables false
open Go.RowKit

theorem byteTy : ByteTy Try.prog 26 5 := ⟨by kernel_rfl, by kernel_rfl⟩

set_option maxHeartbeats 400000 in
theorem apart_any (v : Value) (l : List Int) (room : Nat) (w : World) (hv : Rd w v l) (hl : l.length ≤ 1000000000) (hr : room ≤ 1000000000) :
    Calls Try.prog 65 #[v, .int .i64 room] w fun e w' => ∃ v', e = .returned v' ∧ Own w.heap.size 5 w' v' l ∧ Below w.heap.size w w' := by
  obtain ⟨a, cap, rfl⟩ := hv.len
  go_enter Try.func65, Try.ntmps65
  go_wp2_with (first | (at_make; go_must (refine wpList_make_bytes 26 5 byteTy rfl (.tmp 7) (.tmp 11) rfl .i64 .i64 _ _ l.length (l.length + room) rfl rfl rfl (by omega) (by omega) (by omega) ?_)) | (refine wpList_copy_bytes 26 5 byteTy rfl (.tmp 13) (.tmp 14) rfl w _ l (l.length + room) rfl rfl rfl hv (by omega) (by unfold maxLen; omega) ?_; intro w1 hown1 hb1))
  go_ret
  exact ⟨_, rfl, hown1, hb1⟩

set_option maxHeartbeats 400000 in
set_option maxRecDepth 20000 in
theorem putNum_any (v : Value) (l : List Int) (N : Nat) (B : Nat) (w : World) (hv : Own B 5 w v l) (hB : B ≤ w.heap.size) (hl : l.length ≤ 2000000000) (hN : N < 18446744073709551616) :
    Calls Try.prog 77 #[v, .int .u64 N] w fun e w' => ∃ v', e = .returned v' ∧ Own B 5 w' v' (l ++ form N) ∧ Below B w w' := by
  have HN : Hid (N < 18446744073709551616) := hN
  clear hN
  go_enter Try.func77, Try.ntmps77
  go_wp2
  go_loopw [0, 1] (fun v n wr => ∃ (k : Nat) (pre : List Int), k ≤ N ∧ n = .int .u64 k ∧ Own B 5 wr v (l ++ pre) ∧ Hid (pre ++ form k = form N) ∧ Below B w wr)
    (fun _ n _ => (intOf n).toNat)
  case atStart => exact ⟨N, [], Nat.le_refl _, rfl, by simpa using hv, rfl, Below.refl _ _⟩
  case round =>
    obtain ⟨k, pre, hk, rfl, hown, hform, hb⟩ := hrel
    have hpre : pre.length ≤ 10 := by
      have h1 := form_le10 HN.out
      have h2 := congrArg List.length hform.out
      simp only [List.length_append] at h2
      omega
    have hsz := hb.size
    by_cases h : k < 128
    · go_wp2_with (at_builtin; go_must (refine wpList_append_cells 26 5 byteTy rfl (.tmp 15) (.tmp 18) rfl B _ (l ++ pre) rfl (hown.alloc _) _ [(k : Int)] rfl (rd_one wr k 5 (by omega)) (by simp; omega) (by simp; omega) ?_; intro v2 w2 hown2 hg2))
      go_ret
      refine ⟨_, rfl, ?_, (hown.alloc _).below (hb.alloc (by omega) _) hB hg2⟩
      rw [← hform.out, form_lt h, ← List.append_assoc]
      exact hown2
    · have hor := or128 ((k : Int) % 256) (by omega) (by omega)
      have hmm : (k : Int) % 256 % 128 = (k : Int) % 128 := by omega
      rw [hmm] at hor
      clear hmm
      go_wp2_with (at_builtin; go_must (refine wpList_append_cells 26 5 byteTy rfl (.tmp 7) (.tmp 11) rfl B _ (l ++ pre) rfl (hown.alloc _) _ [(k : Int) % 128 + 128] rfl (rd_one wr _ 5 (by omega)) (by simp; omega) (by simp; omega) ?_; intro v2 w2 hown2 hg2))
      go_roundw
      case rel =>
        refine ⟨k / 128, pre ++ [(k : Int) % 128 + 128], by omega, by simp, ?_, ?_, (hown.alloc _).below (hb.alloc (by omega) _) hB hg2⟩
        · rw [← List.append_assoc]; exact hown2
        · show _ = _
          rw [← hform.out, form_ge h, List.append_assoc]; simp
      case measure => simp [intOf]; omega

set_option maxHeartbeats 400000 in
theorem num_any (v : Value) (l : List Int) (N : Nat) (w : World) (hv : Rd w v l) (hl : l.length ≤ 1000000000) (hN : N < 18446744073709551616) :
    Calls Try.prog 63 #[v, .int .u64 N] w fun e w' => ∃ v', e = .returned v' ∧ Own w.heap.size 5 w' v' (l ++ form N) ∧ Below w.heap.size w w' := by
  have HN : Hid (N < 18446744073709551616) := hN
  clear hN
  go_enter Try.func63, Try.ntmps63
  go_wp2_with (first | (go_at_call 65; go_must (refine (apart_any _ l 10 _ hv hl (by omega)).mono ?_; rintro e w1 ⟨v1, rfl, hown1, hb1⟩)) | (go_at_call 77; go_must (refine (putNum_any _ l N _ _ hown1 hb1.size (by omega) HN.out).mono ?_; rintro e w2 ⟨v2, rfl, hown2, hb2⟩)))
  go_ret
  exact ⟨_, rfl, hown2, hb1.trans hb2⟩

set_option maxHeartbeats 400000 in
theorem int_any (v : Value) (l : List Int) (m : Int) (w : World) (hv : Rd w v l) (hl : l.length ≤ 1000000000) (hm : -9223372036854775808 ≤ m ∧ m ≤ 9223372036854775807) :
    Calls Try.prog 76 #[v, .int .i64 m] w fun e w' => ∃ v', e = .returned v' ∧ Own w.heap.size 5 w' v' (l ++ form (zig m)) ∧ Below w.heap.size w w' := by
  have HZ : Hid (zig m < 18446744073709551616) := zig_lt m hm
  by_cases h : m < 0
  · go_enter Try.func76, Try.ntmps76
    go_wp2_with (go_at_call 63; go_must (rw [neg_zig m h hm]; refine (num_any _ l (zig m) _ hv hl HZ.out).mono ?_; rintro e w2 ⟨v2, rfl, hown2, hb2⟩))
    go_ret
    exact ⟨_, rfl, hown2, hb2⟩
  · have hz : ((zig m : Nat) : Int) = 2 * m := by unfold zig; rw [if_neg h]; omega
    have HH : Hid (((zig m : Nat) : Int) = 2 * m) := hz
    clear hz
    go_enter Try.func76, Try.ntmps76
    go_wp2_with (go_at_call 63; go_must (rw [show m * 2 = ((zig m : Nat) : Int) from by have := HH.out; omega]; refine (num_any _ l (zig m) _ hv hl HZ.out).mono ?_; rintro e w2 ⟨v2, rfl, hown2, hb2⟩))
    go_ret
    exact ⟨_, rfl, hown2, hb2⟩

set_option maxHeartbeats 400000 in
theorem bytes_any (v x : Value) (l m : List Int) (w : World) (hv : Rd w v l) (hx : Rd w x m) (hl : l.length ≤ 100000000) (hm : m.length ≤ 100000000) :
    Calls Try.prog 62 #[v, x] w fun e w' => ∃ v', e = .returned v' ∧ Own w.heap.size 5 w' v' (l ++ form m.length ++ m) ∧ Below w.heap.size w w' := by
  obtain ⟨ax, cx, rfl⟩ := hx.len
  have hf := form_le10 (n := m.length) (by omega)
  go_enter Try.func62, Try.ntmps62
  go_wp2_with (first | (go_at_call 65; go_must (refine (apart_any _ l (10 + m.length) _ hv (by omega) (by omega)).mono ?_; rintro e w1 ⟨v1, rfl, hown1, hb1⟩)) | (go_at_call 77; go_must (refine (putNum_any _ l m.length _ _ hown1 hb1.size (by omega) (by omega)).mono ?_; rintro e w2 ⟨v2, rfl, hown2, hb2⟩)) | (at_builtin; go_must (refine wpList_append_cells 26 5 byteTy rfl (.tmp 15) (.tmp 16) rfl w.heap.size _ (l ++ form m.length) rfl hown2 _ m rfl (hx.below (hb1.trans hb2)) (by simp only [List.length_append]; omega) (hb1.trans hb2).size ?_; intro v3 w3 hown3 hg3)))
  go_ret
  exact ⟨_, rfl, hown3, hown2.below (hb1.trans hb2) (Nat.le_refl _) hg3⟩

end Go.Proofs.Ytiebbglknmcnpaa
