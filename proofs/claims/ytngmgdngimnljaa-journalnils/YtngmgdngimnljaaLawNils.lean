/-
  The walk of JournalNils: what a nil journal says.
-/
import Derived.Test.YtngmgdngimnljaaAlv
namespace Go.Proofs.Ytngmgdngimnljaa
set_option linter.unusedVariables false
set_option linter.unusedSimpArgs false
set_option synthInstance.maxSize 20000
set_option maxHeartbeats 2000000
set_option maxRecDepth 20000
open Go.RowKit Go.Maps

def nlD : Dk := (((newD 3).arm 0).2.write 0 (List.replicate 64 0)).2
theorem nl_arm : ((newD 3).arm 0).1 = 0 := by decide +kernel
theorem nl_wrong : wrongK nlD 0 1 1 = 19 := by decide +kernel
theorem nl_len : nlD.now.length = 3 := by decide +kernel
theorem nils_walk (v : Value) (l : List Int) (gen : Int) (w : World) (hv : Rd w v l) (hg : U32 gen) : Calls Try.prog 8 #[v, .int .u32 gen] w fun r w' => r = .returned (.bool true) ∧ Below w.heap.size w w' := by
  obtain ⟨a, c, rfl⟩ := hv.len
  have hcap := hv.cap
  have hc1 : l.length ≤ c := hcap.2.1
  have hc2 : c ≤ 9223372036854775807 := hcap.2.2
  have HAl : Hid (∀ w, Calls Try.prog 9 #[] w fun r w' => r = .returned (.bool true) ∧ Below w.heap.size w w') := alive9
  generalize l.length = n at *
  clear hcap hv
  by_cases h3 : 300 < n
  · go_enter Try.func8, Try.ntmps8
    go_wp2_with (go_at_call 9; go_must (refine (HAl.out _).mono ?_; rintro r w2 ⟨rfl, hb2⟩; have HB2 : Hid (Below w.heap.size w w2) := hb2; clear hb2))
    go_ret
    exact ⟨rfl, HB2.out⟩
  · have HO : Hid (∀ w, Calls Try.prog 23 #[.pointer none, .int .i64 0, .int .i64 1, .int .u32 1] w fun r w' => r = .returned (.tuple #[.pointer none, .slice none 0 0, .int .i64 23]) ∧ w' = w) := open_nil
    have HC : Hid (∀ w, Calls Try.prog 24 #[.pointer none, .int .i64 0, .int .i64 1, .int .u32 1] w fun r w' => r = .returned (.tuple #[.pointer none, .int .i64 23]) ∧ w' = w) := create_nil
    have HN : Hid (Calls Try.prog 19 #[.int .i64 3] w fun r w' => r = .returned (.tuple #[ptr (w.heap.size + 2), .int .i64 0]) ∧ ∃ o', DIs w' o' 5 (w.heap.size + 2) (newD 3) ∧ Mv [5] w zo w' o') := by
      refine (dnew_any w zo 5 3 (by omega) (by omega) (by omega)).mono ?_
      rintro r w' ⟨rfl, hd, hb⟩
      exact ⟨rfl, _, hd, Mv.of_below 5 hb⟩
    have HArm : Hid (∀ w2 o, DIs w2 o 5 (w.heap.size + 2) (newD 3) → Mv [5] w zo w2 o → Calls Try.prog 32 #[ptr (w.heap.size + 2), .int .i64 0] w2 fun r w' => r = .returned (.int .i64 0) ∧ ∃ o', DIs w' o' 5 (w.heap.size + 2) ((newD 3).arm 0).2 ∧ Mv [5] w zo w' o') := fun w2 o hd m => by
      obtain ⟨g, nn, p, hd⟩ := hd
      refine (arm_any hd 0).mono ?_
      rintro r w' ⟨rfl, o', d', m'⟩
      rw [nl_arm]
      exact ⟨rfl, o', d', m.trans m'⟩
    have HW : Hid (∀ w2 o, DIs w2 o 5 (w.heap.size + 2) ((newD 3).arm 0).2 → Mv [5] w zo w2 o → Calls Try.prog 20 #[ptr (w.heap.size + 2), .int .i64 0, .slice (some ⟨w2.heap.size, 0, none⟩) 64 64] (w2.alloc (.cells (cs8 (List.replicate 64 0)).toArray 5)) fun r w' => ∃ k, r = .returned (.int .i64 k) ∧ ∃ o', DIs w' o' 5 (w.heap.size + 2) nlD ∧ Mv [5] w zo w' o') := fun w2 o hd m => by
      have hm : ∀ I, Mv I w2 o (w2.alloc (.cells (cs8 (List.replicate 64 0)).toArray 5)) (newTo o w2 0) := fun I => Mv.of_below 0 (balloc (Below.refl _ _) _)
      obtain ⟨g, nn, p, hd'⟩ := hd.mv (hm []) (by simp)
      have hr := rd_row w2 (List.replicate 64 0) 5 (0, 0) (Oct.zeros _) (by simp [maxLen])
      rw [List.length_replicate] at hr
      refine (write_any hd' ((newD_ok 3 (by omega) (by omega)).arm (by omega)) (by omega) 0 hr).mono ?_
      rintro r w' ⟨rfl, o', d', m'⟩
      exact ⟨_, rfl, o', d', m.trans ((hm _).trans m')⟩
    have HO2 : Hid (∀ w2 o, DIs w2 o 5 (w.heap.size + 2) nlD → Mv [5] w zo w2 o → Calls Try.prog 23 #[ptr (w.heap.size + 2), .int .i64 0, .int .i64 1, .int .u32 1] w2 fun r w' => r = .returned (.tuple #[.pointer none, .slice none 0 0, .int .i64 19]) ∧ w' = w2) := fun w2 o hd m => by
      have := open_bad hd (by rw [nl_len]; omega) (base := 0) (size := 1) (gen := 1) (by unfold I64; omega) (by unfold I64; omega) (by unfold U32; omega) (by rw [nl_wrong]; decide)
      rwa [nl_wrong] at this
    have HA : Hid (∀ w2, Calls Try.prog 29 #[.pointer none, .slice a n c] w2 fun r w' => r = .returned (.int .i64 23) ∧ w' = w2) := fun w2 => append29_nil w2 _
    have H26 : Hid (∀ w2, Calls Try.prog 26 #[.pointer none] w2 fun r w' => r = .returned (.int .i64 0) ∧ w' = w2) := count26_nil
    have H27 : Hid (∀ w2, Calls Try.prog 27 #[.pointer none] w2 fun r w' => r = .returned (.int .i64 0) ∧ w' = w2) := room27_nil
    have H28 : Hid (∀ w2, Calls Try.prog 28 #[.pointer none] w2 fun r w' => r = .returned (.int .u32 0) ∧ w' = w2) := round28_nil
    have tk : Hid True := trivial
    go_enter Try.func8, Try.ntmps8
    go_wp2_with fail
    refine (HO.out _).mono ?_
    rintro r w2 ⟨rfl, hw2⟩
    replace hw2 := hw2.symm
    subst hw2
    go_wp2_with fail
    refine (HC.out _).mono ?_
    rintro r w2 ⟨rfl, hw2⟩
    replace hw2 := hw2.symm
    subst hw2
    go_wp2_with fail
    refine HN.out.mono ?_
    rintro r w2 ⟨rfl, o2, hd2, hm2⟩
    have HC2 := HArm.out w2 o2 hd2 hm2
    clear hd2 hm2
    go_wp2_with fail
    refine HC2.mono ?_
    rintro r w3 ⟨rfl, o3, hd3, hm3⟩
    have HC3 := HW.out w3 o3 hd3 hm3
    clear hd3 hm3 HC2
    go_wp2_with (at_make; go_must (refine wpList_make_bytes 23 5 byteTy rfl _ _ rfl .i64 .i64 64 64 64 64 rfl rfl rfl rfl (by omega) (by omega) ?_))
    refine HC3.mono ?_
    rintro r w4 ⟨k4, rfl, o4, hd4, hm4⟩
    have HC4 := HO2.out w4 o4 hd4 hm4
    have HB4 : Hid (Below w.heap.size w w4) := mvz_below hm4 (by simp)
    clear hd4 hm4 HC3
    go_wp2_with (first
      | (go_at_call 23; go_must (refine HC4.mono ?_; rintro r w2 ⟨rfl, hw2⟩; replace hw2 := hw2.symm; subst hw2))
      | (go_at_call 29; go_must (refine (HA.out _).mono ?_; rintro r w2 ⟨rfl, hw2⟩; replace hw2 := hw2.symm; subst hw2))
      | (go_at_call 26; go_must (refine (H26.out _).mono ?_; rintro r w2 ⟨rfl, hw2⟩; replace hw2 := hw2.symm; subst hw2))
      | (go_at_call 27; go_must (refine (H27.out _).mono ?_; rintro r w2 ⟨rfl, hw2⟩; replace hw2 := hw2.symm; subst hw2))
      | (go_at_call 28; go_must (refine (H28.out _).mono ?_; rintro r w2 ⟨rfl, hw2⟩; replace hw2 := hw2.symm; subst hw2))
      | (go_at_call 9; go_must (refine (HAl.out _).mono ?_; rintro r w5 ⟨rfl, hb5⟩; have HB5 : Hid (Below w.heap.size w w5) := bnext HB4.out hb5; clear hb5)))
    go_ret
    exact ⟨rfl, HB5.out⟩
end Go.Proofs.Ytngmgdngimnljaa
