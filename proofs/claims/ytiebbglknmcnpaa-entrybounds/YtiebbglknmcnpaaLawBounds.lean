/-
  The walk of EntryBounds: two places are bound to the same bytes just if they are the same; what is asked of no oracle.
-/
import Derived.Test.YtiebbglknmcnpaaAliveE
namespace Go.Proofs.Ytiebbglknmcnpaa
set_option linter.unusedVariables false
set_option linter.unusedSimpArgs false
set_option synthInstance.maxSize 20000
set_option maxHeartbeats 4000000
set_option maxRecDepth 20000
open Go.RowKit Go.Maps

def oneE : Ent := ⟨0, 0, 0, 1, 0, 0, [], 0⟩
theorem oneE_right : rightB oneE = true := by rw [rightB_iff]; unfold oneE rightE rightP; simp
theorem oneE_ok : EOk oneE := by
  refine ⟨?_, ?_, ?_, ?_, ?_, ?_, ?_, ?_⟩
  all_goals first | (unfold I64 oneE; simp; done) | (unfold U64 oneE; simp; done) | exact Oct.nil

theorem bounds_walk (x1 x2 x3 y1 y2 y3 : Int) (w : World) (h1 : I64 x1) (h2 : I64 x2) (h3 : I64 x3) (g1 : I64 y1) (g2 : I64 y2) (g3 : I64 y3) :
    Calls Try.prog 6 #[.int .i64 x1, .int .i64 x2, .int .i64 x3, .int .i64 y1, .int .i64 y2, .int .i64 y3] w fun e w' => e = .returned (.bool true) ∧ Below w.heap.size w w' := by
  have S1 := fun w' => sumE_nil w' oneE _ oneE_ok (rd_nil w') (by unfold oneE; simp) oneE_right
  have S2 := fun w' => signE_nil w' 1 oneE _ oneE_ok (rd_nil w') (by unfold oneE; simp) oneE_right
  have S3 := fun w' => holdsE_nil w' 1 oneE _ oneE_ok (rd_nil w') (by unfold oneE; simp) oneE_right
  have HE : Hid (decide (boundL x1 x2 x3 = boundL y1 y2 y3) = decide (max x1 0 = max y1 0 ∧ max x2 0 = max y2 0 ∧ x3 = y3)) := bound_inj h1 h2 h3 g1 g2 g3
  have B1 := fun w' => boundE_any w' x1 x2 x3 h1 h2 h3
  have B2 := fun w' => boundE_any w' y1 y2 y3 g1 g2 g3
  unfold oneE ev at S1 S3
  unfold oneE zeroE ev at S2
  dsimp only at S1 S2 S3
  have HS1 : Hid (∀ w', Calls Try.prog 12 #[.pointer none, .agg #[.int .i64 0, .int .i64 0, .int .u64 0, .int .i64 1, .int .i64 0, .int .i64 0, .slice none 0 0, .int .u64 0]] w' fun r w'' => r = .returned (.tuple #[.int .u64 0, .int .i64 23]) ∧ Below w'.heap.size w' w'') := S1
  have HS2 : Hid (∀ w', Calls Try.prog 14 #[.pointer none, .int .u64 1, .agg #[.int .i64 0, .int .i64 0, .int .u64 0, .int .i64 1, .int .i64 0, .int .i64 0, .slice none 0 0, .int .u64 0]] w' fun r w'' => r = .returned (.tuple #[.agg #[.int .i64 0, .int .i64 0, .int .u64 0, .int .i64 0, .int .i64 0, .int .i64 0, .slice none 0 0, .int .u64 0], .int .i64 23]) ∧ Below w'.heap.size w' w'') := S2
  have HS3 : Hid (∀ w', Calls Try.prog 17 #[.pointer none, .int .u64 1, .agg #[.int .i64 0, .int .i64 0, .int .u64 0, .int .i64 1, .int .i64 0, .int .i64 0, .slice none 0 0, .int .u64 0]] w' fun r w'' => r = .returned (.bool false) ∧ Below w'.heap.size w' w'') := S3
  generalize boundL x1 x2 x3 = L1 at B1 HE
  generalize boundL y1 y2 y3 = L2 at B2 HE
  have HB1 : Hid (∀ w', Calls Try.prog 24 #[.int .i64 x1, .int .i64 x2, .int .i64 x3] w' fun e w'' => ∃ v, e = .returned v ∧ Own (w'.heap.size + 1) 5 w'' v L1 ∧ Below w'.heap.size w' w'') := B1
  have HB2 : Hid (∀ w', Calls Try.prog 24 #[.int .i64 y1, .int .i64 y2, .int .i64 y3] w' fun e w'' => ∃ v, e = .returned v ∧ Own (w'.heap.size + 1) 5 w'' v L2 ∧ Below w'.heap.size w' w'') := B2
  clear S1 S2 S3 B1 B2 h1 h2 h3 g1 g2 g3
  have tk : Hid True := trivial
  go_enter Try.func6, Try.ntmps6
  go_upto_region 1 with fail
  go_cut [13] (fun p wx => p = .bool (decide (max x1 0 = max y1 0 ∧ max x2 0 = max y2 0 ∧ x3 = y3)) ∧ wx = w)
  case first =>
    clear HE
    obtain ⟨M1, m1⟩ : ∃ M : Int, (if x1 < 0 then 0 else x1) = M := ⟨_, rfl⟩
    obtain ⟨M2, m2⟩ : ∃ M : Int, (if x2 < 0 then 0 else x2) = M := ⟨_, rfl⟩
    obtain ⟨N1, n1⟩ : ∃ M : Int, (if y1 < 0 then 0 else y1) = M := ⟨_, rfl⟩
    obtain ⟨N2, n2⟩ : ∃ M : Int, (if y2 < 0 then 0 else y2) = M := ⟨_, rfl⟩
    have HM : Hid (max x1 0 = M1 ∧ max x2 0 = M2 ∧ max y1 0 = N1 ∧ max y2 0 = N2) := ⟨by omega, by omega, by omega, by omega⟩
    by_cases e1 : M1 = N1
    · by_cases e2 : M2 = N2
      · subst e1 e2
        go_wp2_with fail
        go_meet
        refine ⟨congrArg Value.bool ?_, rfl⟩
        rw [Bool.eq_iff_iff, HM.out.1, HM.out.2.1, HM.out.2.2.1, HM.out.2.2.2]
        simp
      · have b2 : (M2 == N2) = false := by simpa using e2
        subst e1
        go_wp2_with fail
        go_meet
        refine ⟨congrArg Value.bool ?_, rfl⟩
        rw [Bool.eq_iff_iff, HM.out.1, HM.out.2.1, HM.out.2.2.1, HM.out.2.2.2]
        simp [e2]
    · have b1 : (M1 == N1) = false := by simpa using e1
      go_wp2_with fail
      go_meet
      refine ⟨congrArg Value.bool ?_, rfl⟩
      rw [Bool.eq_iff_iff, HM.out.1, HM.out.2.1, HM.out.2.2.1, HM.out.2.2.2]
      simp [e1]
  case rest =>
    obtain ⟨rfl, rfl⟩ := hcut
    generalize decide (max x1 0 = max y1 0 ∧ max x2 0 = max y2 0 ∧ x3 = y3) = T at HE ⊢
    go_wp2_with (first
      | (go_at_call 12; go_must (refine (HS1.out _).mono ?_; rintro e w1 ⟨rfl, hb1⟩))
      | (go_at_call 14; go_must (refine (HS2.out _).mono ?_; rintro e w2 ⟨rfl, hb2⟩))
      | (go_at_call 24; first
          | (refine (HB1.out _).mono ?_; rintro e w3 ⟨v3, rfl, ho3, hb3⟩; clear HB1)
          | (refine (HB2.out _).mono ?_; rintro e w4 ⟨v4, rfl, ho4, hb4⟩))
      | (go_at_call 23; go_must (refine (same_any _ _ L1 L2 w4 (ho3.rd.below hb4) ho4.rd).mono ?_; rw [HE.out]; rintro e w5 ⟨rfl, hb5⟩))
      | (go_at_call 17; go_must (refine (HS3.out _).mono ?_; rintro e w6 ⟨rfl, hb6⟩))
      | (go_at_call 8; go_must (refine (alive_any _).mono ?_; rintro e w7 ⟨rfl, hb7⟩)))
    go_ret
    exact ⟨rfl, bnext (bnext (bnext (bnext (bnext (balloc (bnext hb1 hb2) _) hb3) hb4) hb5) hb6) hb7⟩
end Go.Proofs.Ytiebbglknmcnpaa
