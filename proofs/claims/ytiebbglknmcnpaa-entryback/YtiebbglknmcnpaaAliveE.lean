/-
  The chapter's example.
-/
import Derived.Test.YtiebbglknmcnpaaSignE
namespace Go.Proofs.Ytiebbglknmcnpaa
set_option linter.unusedVariables false
set_option linter.unusedSimpArgs false
set_option synthInstance.maxSize 20000
set_option maxHeartbeats 2000000
set_option maxRecDepth 20000
open Go.RowKit Go.Maps

def exE : Ent := ⟨1, 0, 0, 5, 1, 0, [120], 9⟩
def exL : List Int := [1, 0, 0, 10, 1, 0, 1, 120, 9]
theorem exE_right : rightE exE := by unfold exE rightE rightP; simp
theorem exE_ok : EOk exE := by
  refine ⟨?_, ?_, ?_, ?_, ?_, ?_, ?_, ?_⟩
  all_goals first | (unfold I64 exE; simp; done) | (unfold U64 exE; simp; done) | (unfold exE Oct; simp)
theorem form_small {n : Nat} (h : n < 128) : form n = [(n : Int)] := form_lt h
theorem exE_bytes : bytesE exE = exL := by
  have f0 : form 0 = [0] := form_lt (by omega)
  have f1 : form 1 = [1] := form_lt (by omega)
  have f9 : form 9 = [9] := form_lt (by omega)
  have f10 : form 10 = [10] := form_lt (by omega)
  show form 1 ++ form 0 ++ form 0 ++ (form 10 ++ form 1) ++ form 0 ++ form 1 ++ [120] ++ form 9 = exL
  rw [f0, f1, f9, f10]
  rfl
theorem exL_oct : Oct exL := by unfold Oct exL; simp
theorem exL_read : readE exL = (exE, 0) := by rw [← exE_bytes]; exact read_bytes exE_right exE_ok

theorem alive_any (w : World) : Calls Try.prog 8 #[] w fun r w' => r = .returned (.bool true) ∧ Below w.heap.size w w' := by
  have B := fun w' v (h : Rd w' v exE.b) => bytesF_yes w' exE v exE_ok h (by unfold exE; simp) ((rightB_iff _).2 exE_right)
  have R := fun w' v (h : Rd w' v exL) => readE_any w' v exL h (by unfold exL; simp)
  rw [exE_bytes] at B
  rw [exL_read] at R
  unfold exE ev at B R
  dsimp only at B R
  have HB : Hid (∀ w' v, Rd w' v [120] → Calls Try.prog 19 #[.agg #[.int .i64 1, .int .i64 0, .int .u64 0, .int .i64 5, .int .i64 1, .int .i64 0, v, .int .u64 9]] w' fun r w'' => ∃ x, r = .returned (.tuple #[x, .int .i64 0]) ∧ Own w'.heap.size 5 w'' x exL ∧ Below w'.heap.size w' w'') := B
  have HR : Hid (∀ w' v, Rd w' v exL → Calls Try.prog 21 #[v] w' fun r w'' => ∃ x, r = .returned (.tuple #[.agg #[.int .i64 1, .int .i64 0, .int .u64 0, .int .i64 5, .int .i64 1, .int .i64 0, x, .int .u64 9], .int .i64 0]) ∧ Rd w'' x [120] ∧ Below w'.heap.size w' w'') := R
  have HO : Hid (Oct exL) := exL_oct
  have HOO : Hid (Oct [120]) := by show Oct _; unfold Oct; simp
  have HL9 : Hid (∀ w : World, Rd (w.alloc (.cells #[.int .u8 1, .int .u8 0, .int .u8 0, .int .u8 10, .int .u8 1, .int .u8 0, .int .u8 1, .int .u8 120, .int .u8 9] 5)) (.slice (some ⟨w.heap.size, 0, none⟩) 9 9) exL) := fun w => rd_rowM w exL 5 (0, 0) exL_oct (by unfold exL maxLen; simp)
  have HL1 : Hid (∀ w : World, Rd (w.alloc (.cells #[.int .u8 120] 5 (1, 2))) (.slice (some ⟨w.heap.size, 0, none⟩) 1 1) [120]) := fun w => rd_rowM w [120] 5 (1, 2) HOO.out (by unfold maxLen; simp)
  clear B R
  have kc := fun (w : World) (C : Array Value) (n c : Nat) => Lib.run_convert_bytes_const (P := Try.prog) w 26 5 C n c Try.underlying26 Try.underlying5
  go_enter Try.func8, Try.ntmps8
  go_wp2_with (first
    | (go_at_call 19; go_must (refine (HB.out _ _ (HL1.out w)).mono ?_; rintro r w1 ⟨x, rfl, ho1, hb1⟩; obtain ⟨ax, cx, hx⟩ := ho1.rd.len; subst hx))
    | (go_at_call 21; go_must (refine (HR.out _ _ (HL9.out w1)).mono ?_; rintro r w2 ⟨y, rfl, hr2, hb2⟩; obtain ⟨ay, cy, hy⟩ := hr2.len; subst hy))
    | (go_at_call 23; go_must (
        have h9 : Rd ((w2.alloc (.cells #[.int .i64 1, .int .i64 0, .int .u64 0, .int .i64 5, .int .i64 1, .int .i64 0, .slice ay 1 cy, .int .u64 9] 28)).alloc (.cells #[.int .u8 1, .int .u8 0, .int .u8 0, .int .u8 10, .int .u8 1, .int .u8 0, .int .u8 1, .int .u8 120, .int .u8 9] 5)) (.slice (some ⟨w2.heap.size + 1, 0, none⟩) 9 9) exL := (by
          have := HL9.out (w2.alloc (.cells #[.int .i64 1, .int .i64 0, .int .u64 0, .int .i64 5, .int .i64 1, .int .i64 0, .slice ay 1 cy, .int .u64 9] 28))
          rwa [show (w2.alloc (.cells #[.int .i64 1, .int .i64 0, .int .u64 0, .int .i64 5, .int .i64 1, .int .i64 0, .slice ay 1 cy, .int .u64 9] 28)).heap.size = w2.heap.size + 1 by simp] at this)
        have hbb := bnext (balloc (Below.refl _ w1) _) hb2
        refine (same_any _ _ exL exL _ (ho1.rd.below (balloc (balloc hbb _) _)) h9).mono ?_
        rw [decide_eq_true rfl]
        rintro r w3 ⟨rfl, hb3⟩
        have X := ((blk_new w2 [.int .i64 1, .int .i64 0, .int .u64 0, .int .i64 5, .int .i64 1, .int .i64 0, .slice ay 1 cy, .int .u64 9] 28).alloc (.cells #[.int .u8 1, .int .u8 0, .int .u8 0, .int .u8 10, .int .u8 1, .int .u8 0, .int .u8 1, .int .u8 120, .int .u8 9] 5)).below hb3
        have x0 := X.cell 0 _ rfl
        have x3 := X.cell 3 _ rfl
        have x7 := X.cell 7 _ rfl)))
  go_ret
  exact ⟨rfl, bnext (bnext (bnext (balloc (Below.refl _ w) _) hb1) (balloc (balloc hbb _) _)) hb3⟩
end Go.Proofs.Ytiebbglknmcnpaa
