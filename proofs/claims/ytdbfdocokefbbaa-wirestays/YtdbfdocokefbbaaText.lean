/-
  The contracts of layer 1's reader for texts, and of a reader that is nil.
-/
import Derived.Test.YtdbfdocokefbbaaReader3
namespace Go.Proofs.Ytdbfdocokefbbaa
set_option linter.unusedVariables false
open Go.RowKit

/-- string(v), v bytes. -/
theorem run_convert_rd {P : Program} (w : World) (src dst e : TypeId) (hs : P.underlying src = some (.slice e)) (he : P.underlying e = some (.int .u8)) (hd : P.underlying dst = some .string) (v : Value) (l : List Int) (hv : Rd w v l) :
    (convert src dst v).run P w = .ok (.string (strOfNums l)) w := by
  obtain ⟨ho, a, cap, rfl, h1, h2, h3, h4⟩ := hv
  rcases Nat.eq_zero_or_pos l.length with h0 | hp
  · obtain rfl : l = [] := List.eq_nil_of_length_eq_zero h0
    cases a with
    | none => exact run_convert_bytes_nil w src e hs he 0 cap dst hd
    | some a =>
      have hl : (loadCells a 0).run P w = .ok (([] : List Int).map (Value.int .u8)).toArray w := by
        simp [loadCells, loadCellsFrom]
      rw [List.length_nil, run_convert_bytes_string w src dst e _ 0 cap hs he hd, run_bytesToString w a 0 cap [] hl]
      rfl
  · obtain ⟨b, off, rfl, hc⟩ := h4 hp
    exact run_convert_bytes_arg w src e hs he b off l.length cap l rfl hc dst hd

set_option maxHeartbeats 400000 in
set_option maxRecDepth 20000 in
theorem rtext_any (w : World) (b : Nat) (l : List Int) (k most : Int) (h : Rdr w b l k) (hl : l.length ≤ 1000000000) (hm : -9223372036854775808 ≤ most ∧ most ≤ 9223372036854775807) :
    Calls Try.prog 26 #[ptr b, .int .i64 most] w fun e w' => e = .returned (.string (strOfNums (rBytes l k most).1)) ∧ Rdr w' b (rBytes l k most).2.1 (rBytes l k most).2.2 ∧ w.grownBy w' (some b) := by
  have C := rbytes_any w b l k most h hl hm
  generalize (rBytes l k most).1 = x, (rBytes l k most).2.1 = l', (rBytes l k most).2.2 = k' at C
  have HC := C
  clear C h
  go_enter Try.func26, Try.ntmps26
  go_wp2_with (first | (go_at_call 21; go_must (refine HC.mono ?_; rintro e w1 ⟨v1, rfl, hv1, hr1, hg1⟩; have hcv := run_convert_rd (P := Try.prog) w1 22 9 5 (by kernel_rfl) (by kernel_rfl) (by kernel_rfl) v1 x hv1)))
  go_ret
  exact ⟨rfl, hr1, hg1⟩

theorem rest_nil (w : World) : Calls Try.prog 30 #[.pointer none] w fun e w' => e = .returned (.slice none 0 0) ∧ w' = w := by
  go_enter Try.func30, Try.ntmps30
  go_wp2
  go_ret
  exact ⟨rfl, rfl⟩

theorem fail_nil (w : World) (q : Int) : Calls Try.prog 31 #[.pointer none, .int .i64 q] w fun e w' => e = .returned (.tuple #[]) ∧ w' = w := by
  go_enter Try.func31, Try.ntmps31
  go_wp2
  exact bodyPost_ret (results_none rfl _ _ _) rfl ⟨rfl, rfl⟩

theorem num_nil (w : World) : Calls Try.prog 19 #[.pointer none] w fun e w' => e = .returned (.int .u64 0) ∧ w' = w := by
  have hn : numAt [] = (0, 0) := rfl
  go_enter Try.func19, Try.ntmps19
  go_wp2_with (first | (go_at_call 30; go_must (refine (rest_nil _).mono ?_; rintro e w' ⟨rfl, rfl⟩)) | (go_at_call 29; go_must (refine (number_any _ [] _ (rd_nil _)).mono ?_; rw [hn]; rintro e w' ⟨rfl, rfl⟩)) | (go_at_call 31; go_must (refine (fail_nil _ 4).mono ?_; rintro e w' ⟨rfl, rfl⟩)))
  go_ret
  exact ⟨rfl, rfl⟩

theorem left_nil (w : World) : Calls Try.prog 24 #[.pointer none] w fun e w' => e = .returned (.int .i64 0) ∧ w' = w := by
  go_enter Try.func24, Try.ntmps24
  go_wp2_with (first | (go_at_call 30; go_must (refine (rest_nil _).mono ?_; rintro e w' ⟨rfl, rfl⟩)))
  go_ret
  exact ⟨rfl, rfl⟩

theorem done_nilr (w : World) : Calls Try.prog 23 #[.pointer none] w fun e w' => e = .returned (.int .i64 4) ∧ w' = w := by
  go_enter Try.func23, Try.ntmps23
  go_wp2
  go_ret
  exact ⟨rfl, rfl⟩

theorem bool_nil (w : World) : Calls Try.prog 22 #[.pointer none] w fun e w' => e = .returned (.bool false) ∧ w' = w := by
  go_enter Try.func22, Try.ntmps22
  go_wp2_with (first | (go_at_call 19; go_must (refine (num_nil _).mono ?_; rintro e w' ⟨rfl, rfl⟩)))
  go_ret
  exact ⟨rfl, rfl⟩

theorem bytes9_nil (w : World) : Calls Try.prog 21 #[.pointer none, .int .i64 9] w fun e w' => e = .returned (.slice none 0 0) ∧ w' = w := by
  go_enter Try.func21, Try.ntmps21
  go_wp2_with (first | (go_at_call 19; go_must (refine (num_nil _).mono ?_; rintro e w' ⟨rfl, rfl⟩)) | (go_at_call 24; go_must (refine (left_nil _).mono ?_; rintro e w' ⟨rfl, rfl⟩)) | (go_at_call 32; go_must (refine (above_any 0 9 _ (by omega) (by omega)).mono ?_; rintro e w' ⟨rfl, rfl⟩)) | go_in)
  go_ret
  exact ⟨rfl, rfl⟩

/-- A reader that is wrong, whatever is asked of it. -/
theorem rNum_wrong (k : Int) (hk : k ≠ 0) : rNum [] k = (0, [], k) := by unfold rNum; simp [parse, hk]
theorem rBytes_wrong (k most : Int) (hk : k ≠ 0) : rBytes [] k most = ([], [], k) := by
  unfold rBytes; rw [rNum_wrong k hk]; simp [hk]
theorem rBool_wrong (k : Int) (hk : k ≠ 0) : rBool [] k = (false, [], k) := by
  unfold rBool; rw [rNum_wrong k hk]; simp
theorem rCount_wrong (k most : Int) (hk : k ≠ 0) : rCount [] k most = (0, [], k) := by
  unfold rCount; rw [rNum_wrong k hk]; simp [hk]
theorem doneK_nil (k : Int) : doneK [] k = k := by unfold doneK; rw [if_neg]; simp

section
variable (w : World) (b : Nat) (k : Int)
theorem wrong_num (hk : k ≠ 0) (h : Rdr w b [] k) : Calls Try.prog 19 #[ptr b] w fun e w' => e = .returned (.int .u64 0) ∧ Rdr w' b [] k ∧ w.grownBy w' (some b) := by
  have := rnum_any w b [] k h
  rwa [rNum_wrong k hk] at this
theorem wrong_int (hk : k ≠ 0) (h : Rdr w b [] k) : Calls Try.prog 20 #[ptr b] w fun e w' => e = .returned (.int .i64 0) ∧ Rdr w' b [] k ∧ w.grownBy w' (some b) := by
  have := rint_any w b [] k h
  rw [rNum_wrong k hk, show zag (0, ([] : List Int), k).1 = 0 by simp [zag]] at this
  exact this
theorem wrong_bool (hk : k ≠ 0) (h : Rdr w b [] k) : Calls Try.prog 22 #[ptr b] w fun e w' => e = .returned (.bool false) ∧ Rdr w' b [] k ∧ w.grownBy w' (some b) := by
  have := rbool_any w b [] k h
  rwa [rBool_wrong k hk] at this
theorem wrong_count (hk : k ≠ 0) (h : Rdr w b [] k) (most : Int) (hm : -9223372036854775808 ≤ most ∧ most ≤ 9223372036854775807) : Calls Try.prog 25 #[ptr b, .int .i64 most] w fun e w' => e = .returned (.int .i64 0) ∧ Rdr w' b [] k ∧ w.grownBy w' (some b) := by
  have := rcount_any w b [] k most h hm
  rwa [rCount_wrong k most hk] at this
theorem wrong_bytes (hk : k ≠ 0) (h : Rdr w b [] k) (most : Int) (hm : -9223372036854775808 ≤ most ∧ most ≤ 9223372036854775807) : Calls Try.prog 21 #[ptr b, .int .i64 most] w fun e w' => ∃ a c, e = .returned (.slice a 0 c) ∧ Rdr w' b [] k ∧ w.grownBy w' (some b) := by
  have := rbytes_any w b [] k most h (by simp) hm
  rw [rBytes_wrong k most hk] at this
  exact this.mono fun e w' ⟨v, he, hv, hr, hg⟩ => by obtain ⟨a, c, rfl⟩ := hv.len; exact ⟨a, c, he, hr, hg⟩
theorem wrong_text (hk : k ≠ 0) (h : Rdr w b [] k) (most : Int) (hm : -9223372036854775808 ≤ most ∧ most ≤ 9223372036854775807) : Calls Try.prog 26 #[ptr b, .int .i64 most] w fun e w' => e = .returned (.string ⟨#[]⟩) ∧ Rdr w' b [] k ∧ w.grownBy w' (some b) := by
  have := rtext_any w b [] k most h (by simp) hm
  rwa [rBytes_wrong k most hk] at this
end

end Go.Proofs.Ytdbfdocokefbbaa
