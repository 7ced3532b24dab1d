/-
  The walk of JournalFrames: parts and sectors of any record.
-/
import Derived.Test.YtngmgdngimnljaaAlv
import Derived.Test.YtngmgdngimnljaaRef2
namespace Go.Proofs.Ytngmgdngimnljaa
set_option linter.unusedVariables false
set_option linter.unusedSimpArgs false
set_option synthInstance.maxSize 20000
set_option maxHeartbeats 2000000
set_option maxRecDepth 20000
open Go.RowKit Go.Maps

theorem frames_walk (gen round seq : Int) (v : Value) (l : List Int) (n : Int) (w : World) (hg : U32 gen) (hr : U32 round) (hs : U32 seq) (hv : Rd w v l) (hn : I64 n) : Calls Try.prog 3 #[.int .u32 gen, .int .u32 round, .int .u32 seq, v, .int .i64 n] w fun r w' => r = .returned (.bool true) ∧ Below w.heap.size w w' := by
  obtain ⟨a, c, rfl⟩ := hv.len
  have hcap := hv.cap
  have hc1 : l.length ≤ c := hcap.2.1
  have hc2 : c ≤ 9223372036854775807 := hcap.2.2
  have HAl : Hid (∀ w, Calls Try.prog 9 #[] w fun r w' => r = .returned (.bool true) ∧ Below w.heap.size w w') := alive9
  by_cases h3 : 4100 < l.length
  · generalize l.length = n at *
    clear hcap hv
    go_enter Try.func3, Try.ntmps3
    go_wp2_with (go_at_call 9; go_must (refine (HAl.out _).mono ?_; rintro r w2 ⟨rfl, hb2⟩; have HB2 : Hid (Below w.heap.size w w2) := hb2; clear hb2))
    go_ret
    exact ⟨rfl, HB2.out⟩
  · have H10 : Hid (Calls Try.prog 10 #[.int .u32 gen, .int .u32 round, .int .u32 seq, .slice a l.length c] w fun r w' => ∃ v, r = .returned (.tuple #[v, .int .i64 (frameK gen round l)]) ∧ OutL w.heap.size w' v (frameB gen round seq l) ∧ Below w.heap.size w w') := frame10 hg hr hs hv (by omega)
    have H11 : Hid (∀ w1, Below w.heap.size w w1 → Calls Try.prog 11 #[.int .u32 gen, .int .u32 round, .int .u32 seq, .slice a l.length c] w1 fun r w' => ∃ v, r = .returned (.tuple #[v, .int .i64 (frameK gen round l)]) ∧ OutL w1.heap.size w' v (frameB gen round seq l) ∧ Below w1.heap.size w1 w') := fun w1 hb => rframe11 hg hr hs (hv.below hb) (by omega)
    have HFL : Hid ((frameB gen round seq l).length ≤ 1000) := by
      show _ ≤ _
      unfold frameB
      split
      · rename_i h9
        rw [frameL_len]
        have := partsN_le (frameK_zero.1 h9).1
        omega
      · simp
    have H12 : Hid (∀ w2 x y, OutL w.heap.size w2 x (frameB gen round seq l) → ∀ B, OutL B w2 y (frameB gen round seq l) → Calls Try.prog 12 #[x, y] w2 fun r w' => r = .returned (.bool true) ∧ Below w2.heap.size w2 w') := fun w2 x y hx B hy => by
      obtain ⟨ps, p1, p2, p3⟩ := hx
      obtain ⟨qs, q1, q2, q3⟩ := hy
      have := lists12 p1 q1 (by rw [← LL_len, p2]; exact HFL.out)
      rwa [p2, q2, decide_eq_true rfl] at this
    have H13 : Hid (∀ (x : Int) (w : World), I64 x → Calls Try.prog 13 #[.int .i64 x] w fun r w' => r = .returned (.int .i64 (partsI x)) ∧ w' = w) := fun x w hx => parts13 x w hx
    have H14 : Hid (∀ (x : Int) (w : World), I64 x → Calls Try.prog 14 #[.int .i64 x] w fun r w' => r = .returned (.int .i64 (partsI x)) ∧ w' = w) := fun x w hx => rparts14 x w hx
    have HI1 : Hid (I64 n) := hn
    have HI2 : Hid (I64 (l.length : Int)) := by show I64 _; unfold I64; omega
    have e1 : (partsI n == partsI n) = true := by simp
    have e2 : (partsI (l.length : Int) == partsI (l.length : Int)) = true := by simp
    have e3 : (frameK gen round l == frameK gen round l) = true := by simp
    generalize frameB gen round seq l = FB at *
    generalize frameK gen round l = FK at *
    generalize l.length = ln at *
    clear hcap hv
    go_enter Try.func3, Try.ntmps3
    go_wp2_with (first
      | (go_at_call 10; go_must (refine H10.out.mono ?_; rintro r w2 ⟨v2, rfl, ho2, hb2⟩; have HO2 : Hid (OutL w.heap.size w2 v2 FB) := ho2; have HB2 : Hid (Below w.heap.size w w2) := hb2; obtain ⟨q2, q21, q22, _⟩ := ho2; obtain ⟨a2, c2, hv2⟩ := q21.len; subst hv2; clear q21 q22 hb2))
      | (go_at_call 11; go_must (refine (H11.out _ HB2.out).mono ?_; rintro r w3 ⟨v3, rfl, ho3, hb3⟩; have HC := H12.out w3 _ _ (HO2.out.below hb3) _ ho3; have HB3 : Hid (Below w.heap.size w w3) := bnext HB2.out hb3; obtain ⟨q3, q31, q32, _⟩ := ho3; obtain ⟨a3, c3, hv3⟩ := q31.len; subst hv3; clear q31 q32 hb3))
      | (go_at_call 12; go_must (refine HC.mono ?_; rintro r w4 ⟨rfl, hb4⟩; have HB4 : Hid (Below w.heap.size w w4) := bnext HB3.out hb4; clear hb4))
      | (go_at_call 13; go_must (refine (H13.out _ _ (by first | exact HI1.out | exact HI2.out)).mono ?_; rintro r w5 ⟨rfl, hw5⟩; replace hw5 := hw5.symm; subst hw5))
      | (go_at_call 14; go_must (refine (H14.out _ _ (by first | exact HI1.out | exact HI2.out)).mono ?_; rintro r w5 ⟨rfl, hw5⟩; replace hw5 := hw5.symm; subst hw5))
      | (go_at_call 9; go_must (refine (HAl.out _).mono ?_; rintro r w6 ⟨rfl, hb6⟩; have HB6 : Hid (Below w.heap.size w w6) := bnext HB4.out hb6; clear hb6)))
    go_ret
    exact ⟨rfl, HB6.out⟩
end Go.Proofs.Ytngmgdngimnljaa
