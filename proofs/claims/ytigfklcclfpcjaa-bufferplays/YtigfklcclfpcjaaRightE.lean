/-
  Which entries are right, by the program; and those that a law takes as light.
-/
import Derived.Test.YtigfklcclfpcjaaEnt
import Derived.Test.YtigfklcclfpcjaaCmp
namespace Go.Proofs.Ytigfklcclfpcjaa
set_option linter.unusedVariables false
set_option linter.unusedSimpArgs false
set_option synthInstance.maxSize 20000
open Go.RowKit
set_option maxHeartbeats 1000000
set_option maxRecDepth 20000

theorem within_any (x a b : Int) (w : World) : Calls Try.prog 41 #[.int .i64 x, .int .i64 a, .int .i64 b] w fun e w' => e = .returned (.bool (decide (a ≤ x ∧ x ≤ b))) ∧ w' = w := by
  go_enter Try.func41, Try.ntmps41
  go_wp2
  all_goals
    go_ret
    refine ⟨ret_bool ?_, rfl⟩
    (try simp only [Bool.and_eq_true, decide_eq_true_eq, Bool.false_eq_true, false_iff]); omega

set_option maxHeartbeats 1000000 in
set_option maxRecDepth 20000 in
theorem beqq (x y : Int) : ((x == 0) == (y == 0)) = true ↔ (x = 0 ↔ y = 0) := by
  rw [beq_iff_eq, Bool.eq_iff_iff, beq_iff_eq, beq_iff_eq]

theorem placed_any (e : Ent) (v : Value) (w : World) (hv : Rd w v e.b) : Calls Try.prog 39 #[ev e v] w fun r w' => r = .returned (.bool (decide ((0 ≤ e.w ∧ e.w ≤ 7) ∧ (0 ≤ e.i ∧ e.i ≤ 199) ∧ (e.p = 0 ↔ e.i = 0)))) ∧ Below w.heap.size w w' := by
  obtain ⟨a, cap, rfl⟩ := hv.len
  obtain ⟨ew, ei, ep, et, eu, en, eb, eg⟩ := e
  unfold ev
  dsimp only
  clear hv
  generalize eb.length = n
  have HR : Hid (decide ((0 ≤ ew ∧ ew ≤ 7) ∧ (0 ≤ ei ∧ ei ≤ 199) ∧ (ep = 0 ↔ ei = 0)) = true ↔ ((0 ≤ ew ∧ ew ≤ 7) ∧ (0 ≤ ei ∧ ei ≤ 199) ∧ (ep = 0 ↔ ei = 0))) := (decide_eq_true_iff : _ ↔ _)
  generalize decide ((0 ≤ ew ∧ ew ≤ 7) ∧ (0 ≤ ei ∧ ei ≤ 199) ∧ (ep = 0 ↔ ei = 0)) = p at HR ⊢
  go_enter Try.func39, Try.ntmps39
  go_wp2_with (go_at_call 41; go_must (refine (within_any _ _ _ _).mono ?_; rintro r w1 ⟨rfl, rfl⟩))
  all_goals
    go_ret
    refine ⟨ret_bool ?_, balloc (Below.refl _ w) _⟩
    rw [HR.out]
    (try rw [beqq]); (try simp only [Bool.false_eq_true, false_iff]); omega

theorem stamped_any (e : Ent) (v : Value) (w : World) (hv : Rd w v e.b) : Calls Try.prog 40 #[ev e v] w fun r w' => r = .returned (.bool (decide (rightP (e.t, e.u) ∧ e.u = e.w))) ∧ Below w.heap.size w w' := by
  obtain ⟨a, cap, rfl⟩ := hv.len
  obtain ⟨ew, ei, ep, et, eu, en, eb, eg⟩ := e
  unfold ev
  dsimp only
  clear hv
  generalize eb.length = n
  have HR : Hid (decide (rightP (et, eu) ∧ eu = ew) = true ↔ (rightP (et, eu) ∧ eu = ew)) := (decide_eq_true_iff : _ ↔ _)
  generalize decide (rightP (et, eu) ∧ eu = ew) = p at HR ⊢
  have HQ : Hid (decide (rightP (et, eu)) = true ↔ rightP (et, eu)) := (decide_eq_true_iff : _ ↔ _)
  have C := fun w' => right_any (et, eu) w'
  generalize decide (rightP (et, eu)) = q at HQ C
  generalize rightP (et, eu) = Q at HR HQ
  unfold sv at C
  have HC : Hid (∀ w', Calls Try.prog 52 #[.agg #[.int .i64 et, .int .i64 eu]] w' fun r w'' => r = .returned (.bool q) ∧ Below w'.heap.size w' w'') := C
  clear C
  by_cases hu : eu = ew
  · subst hu
    cases q
    all_goals
      go_enter Try.func40, Try.ntmps40
      go_wp2_with (go_at_call 52; go_must (refine (HC.out _).mono ?_; rintro r w2 ⟨rfl, hb⟩; have X := ((blk_new w [.int .i64 eu, .int .i64 ei, .int .u64 ep, .int .i64 et, .int .i64 eu, .int .i64 en, .slice a n cap, .int .u64 eg] 38).below hb); have x0 := X.cell 0 _ rfl; have x4 := X.cell 4 _ rfl))
      go_ret
      refine ⟨ret_bool ?_, bnext (balloc (Below.refl _ w) _) hb⟩
      rw [HR.out, ← HQ.out]
      simp
  · have hu' : (eu == ew) = false := by simpa using hu
    have HU : Hid (¬ eu = ew) := hu
    clear hu
    cases q
    all_goals
      go_enter Try.func40, Try.ntmps40
      go_wp2_with (go_at_call 52; go_must (refine (HC.out _).mono ?_; rintro r w2 ⟨rfl, hb⟩; have X := ((blk_new w [.int .i64 ew, .int .i64 ei, .int .u64 ep, .int .i64 et, .int .i64 eu, .int .i64 en, .slice a n cap, .int .u64 eg] 38).below hb); have x0 := X.cell 0 _ rfl; have x4 := X.cell 4 _ rfl))
      go_ret
      refine ⟨ret_bool ?_, bnext (balloc (Below.refl _ w) _) hb⟩
      rw [HR.out, ← HQ.out]
      simp [HU.out]

theorem rightB_parts (e : Ent) : rightB e = (decide ((0 ≤ e.w ∧ e.w ≤ 7) ∧ (0 ≤ e.i ∧ e.i ≤ 199) ∧ (e.p = 0 ↔ e.i = 0)) && decide (rightP (e.t, e.u) ∧ e.u = e.w) && decide (-1 ≤ e.n ∧ e.n ≤ 19) && decide (e.b.length ≤ 1100)) := by
  rw [Bool.eq_iff_iff, rightB_iff]
  simp only [Bool.and_eq_true, decide_eq_true_eq]
  constructor
  · rintro ⟨h1, h2, h3, h4, h5, h6, h7⟩
    exact ⟨⟨⟨⟨h1, h2, h3⟩, h4, h5⟩, h6⟩, h7⟩
  · rintro ⟨⟨⟨⟨h1, h2, h3⟩, h4, h5⟩, h6⟩, h7⟩
    exact ⟨h1, h2, h3, h4, h5, h6, h7⟩

set_option maxHeartbeats 1000000 in
set_option maxRecDepth 20000 in
theorem rightE_any (e : Ent) (v : Value) (w : World) (hv : Rd w v e.b) : Calls Try.prog 25 #[ev e v] w fun r w' => r = .returned (.bool (rightB e)) ∧ Below w.heap.size w w' := by
  rw [rightB_parts]
  have HV : Hid (Rd w v e.b) := hv
  have P1 := fun w' (h : Rd w' v e.b) => placed_any e v w' h
  have P2 := fun w' (h : Rd w' v e.b) => stamped_any e v w' h
  have hcap : e.b.length ≤ 9223372036854775807 := by obtain ⟨a, cap, rfl⟩ := hv.len; have := hv.cap; omega
  obtain ⟨a, cap, rfl⟩ := hv.len
  obtain ⟨ew, ei, ep, et, eu, en, eb, eg⟩ := e
  unfold ev at *
  dsimp only at *
  generalize decide ((0 ≤ ew ∧ ew ≤ 7) ∧ (0 ≤ ei ∧ ei ≤ 199) ∧ (ep = 0 ↔ ei = 0)) = p at P1 ⊢
  generalize decide (rightP (et, eu) ∧ eu = ew) = q at P2 ⊢
  have H1 : Hid (∀ w', Rd w' (.slice a eb.length cap) eb → Calls Try.prog 39 #[.agg #[.int .i64 ew, .int .i64 ei, .int .u64 ep, .int .i64 et, .int .i64 eu, .int .i64 en, .slice a eb.length cap, .int .u64 eg]] w' fun r w'' => r = .returned (.bool p) ∧ Below w'.heap.size w' w'') := P1
  have H2 : Hid (∀ w', Rd w' (.slice a eb.length cap) eb → Calls Try.prog 40 #[.agg #[.int .i64 ew, .int .i64 ei, .int .u64 ep, .int .i64 et, .int .i64 eu, .int .i64 en, .slice a eb.length cap, .int .u64 eg]] w' fun r w'' => r = .returned (.bool q) ∧ Below w'.heap.size w' w'') := P2
  have HX : Hid (∀ w', Below (w.alloc (.cells #[.int .i64 ew, .int .i64 ei, .int .u64 ep, .int .i64 et, .int .i64 eu, .int .i64 en, .slice a eb.length cap, .int .u64 eg] 38)).heap.size (w.alloc (.cells #[.int .i64 ew, .int .i64 ei, .int .u64 ep, .int .i64 et, .int .i64 eu, .int .i64 en, .slice a eb.length cap, .int .u64 eg] 38)) w' → Blk w' w.heap.size 38 [.int .i64 ew, .int .i64 ei, .int .u64 ep, .int .i64 et, .int .i64 eu, .int .i64 en, .slice a eb.length cap, .int .u64 eg]) := fun w' h => (blk_new w [.int .i64 ew, .int .i64 ei, .int .u64 ep, .int .i64 et, .int .i64 eu, .int .i64 en, .slice a eb.length cap, .int .u64 eg] 38).below h
  have HB0 : Hid (Below w.heap.size w (w.alloc (.cells #[.int .i64 ew, .int .i64 ei, .int .u64 ep, .int .i64 et, .int .i64 eu, .int .i64 en, .slice a eb.length cap, .int .u64 eg] 38))) := by show Below _ _ _; exact balloc (Below.refl _ _) _
  clear P1 P2 hv
  cases p
  · go_enter Try.func25, Try.ntmps25
    go_wp2_with (go_at_call 39; go_must (refine (H1.out _ (HV.out.below HB0.out)).mono ?_; rintro r w1 ⟨rfl, hb1⟩))
    go_ret
    exact ⟨rfl, bnext HB0.out hb1⟩
  · cases q
    · go_enter Try.func25, Try.ntmps25
      go_wp2_with (first
        | (go_at_call 39; go_must (refine (H1.out _ (HV.out.below HB0.out)).mono ?_; rintro r w1 ⟨rfl, hb1⟩; have X := HX.out _ hb1; have x0 := X.cell 0 _ rfl; have x1 := X.cell 1 _ rfl; have x2 := X.cell 2 _ rfl; have x3 := X.cell 3 _ rfl; have x4 := X.cell 4 _ rfl; have x5 := X.cell 5 _ rfl; have x6 := X.cell 6 _ rfl; have x7 := X.cell 7 _ rfl))
        | (go_at_call 40; go_must (refine (H2.out _ (HV.out.below (bnext HB0.out hb1))).mono ?_; rintro r w2 ⟨rfl, hb2⟩)))
      go_ret
      exact ⟨rfl, bnext (bnext HB0.out hb1) hb2⟩
    · go_enter Try.func25, Try.ntmps25
      go_wp2_with (first
        | (go_at_call 39; go_must (refine (H1.out _ (HV.out.below HB0.out)).mono ?_; rintro r w1 ⟨rfl, hb1⟩; have X := HX.out _ hb1; have x0 := X.cell 0 _ rfl; have x1 := X.cell 1 _ rfl; have x2 := X.cell 2 _ rfl; have x3 := X.cell 3 _ rfl; have x4 := X.cell 4 _ rfl; have x5 := X.cell 5 _ rfl; have x6 := X.cell 6 _ rfl; have x7 := X.cell 7 _ rfl))
        | (go_at_call 40; go_must (refine (H2.out _ (HV.out.below (bnext HB0.out hb1))).mono ?_; rintro r w2 ⟨rfl, hb2⟩; have Y := HX.out _ (bnext hb1 hb2); have y5 := Y.cell 5 _ rfl; have y6 := Y.cell 6 _ rfl))
        | (go_at_call 41; go_must (refine (within_any _ _ _ _).mono ?_; rintro r w3 ⟨rfl, hw3⟩; replace hw3 := hw3.symm; subst hw3)))
      all_goals
        go_ret
        refine ⟨ret_bool ?_, bnext (bnext HB0.out hb1) hb2⟩
        (try simp only [Bool.and_eq_true, decide_eq_true_eq, Bool.false_eq_true, false_iff, Bool.true_and, Bool.and_true]); try omega

end Go.Proofs.Ytigfklcclfpcjaa
