/-
  The chapter's example.
-/
import Derived.Test.YtigfklcclfpcjaaBuf5
namespace Go.Proofs.Ytigfklcclfpcjaa
set_option linter.unusedVariables false
set_option linter.unusedSimpArgs false
set_option synthInstance.maxSize 20000
set_option maxHeartbeats 400000
set_option maxRecDepth 20000
open Go.RowKit Go.Maps

theorem one_pos (w : World) (a i : Int) (hi : 0 < i) : Calls Try.prog 24 #[.int .i64 a, .int .i64 i] w fun r w' => r = .returned (.agg #[.int .i64 a, .int .i64 i, .int .u64 1, .int .i64 1, .int .i64 a, .int .i64 0, .slice none 0 0, .int .u64 0]) ∧ Below w.heap.size w w' := by
  go_enter Try.func24, Try.ntmps24
  go_wp2
  refine bodyPost_ret (v := .agg #[.int .i64 a, .int .i64 i, .int .u64 1, .int .i64 1, .int .i64 a, .int .i64 0, .slice none 0 0, .int .u64 0]) ?_ rfl ⟨rfl, ?_⟩
  · rw [results_cell1 rfl]
    go_simp
  · exact balloc (balloc (Below.refl _ _) _) _

def oneE (i : Int) : Ent := ⟨1, i, 1, 1, 1, 0, [], 0⟩
theorem one_ok {i : Int} (h : 0 ≤ i ∧ i ≤ 100) : EOk (oneE i) := by
  unfold EOk oneE I64 U64
  exact ⟨by simp, by simp; omega, by simp, by simp, by simp, by simp, by simp, Oct.nil⟩
theorem hold1 : holdM 3 [] (oneE 3) = (0, [oneE 3]) := by rfl
theorem hold2 : holdM 3 [oneE 3] (oneE 1) = (0, [oneE 1, oneE 3]) := by rfl
theorem hold3 : holdM 3 [oneE 1, oneE 3] (oneE 2) = (0, [oneE 1, oneE 2, oneE 3]) := by rfl
theorem run3 : runM 3 [oneE 1, oneE 2, oneE 3] 1 1 = ([oneE 1, oneE 2, oneE 3], []) := by rfl

theorem alive_any (w : World) : Calls Try.prog 8 #[] w fun r w' => r = .returned (.bool true) ∧ Below w.heap.size w w' := by
  have N0 := fun (w' : World) => bnew_ok w' (fun _ => 0) 5 (by omega) 3 (by omega)
  have H1 : ∀ (w1 : World) (o1 : Nat → Nat) (b : Nat), BufIs w1 o1 5 b 3 [] → Calls Try.prog 10 #[ptr b, .agg #[.int .i64 1, .int .i64 3, .int .u64 1, .int .i64 1, .int .i64 1, .int .i64 0, .slice none 0 0, .int .u64 0]] w1 fun r w' => r = .returned (.int .i64 0) ∧ ∃ o', BufIs w' o' 5 b 3 [oneE 3] ∧ Mv [5] w1 o1 w' o' := fun w1 o1 b h => by
    have H := hold_any (e := oneE 3) (x := .slice none 0 0) h (by omega) (one_ok (by omega)) (kp0_nil _ _)
    rw [hold1] at H
    exact H
  have H2 : ∀ (w1 : World) (o1 : Nat → Nat) (b : Nat), BufIs w1 o1 5 b 3 [oneE 3] → Calls Try.prog 10 #[ptr b, .agg #[.int .i64 1, .int .i64 1, .int .u64 1, .int .i64 1, .int .i64 1, .int .i64 0, .slice none 0 0, .int .u64 0]] w1 fun r w' => r = .returned (.int .i64 0) ∧ ∃ o', BufIs w' o' 5 b 3 [oneE 1, oneE 3] ∧ Mv [5] w1 o1 w' o' := fun w1 o1 b h => by
    have H := hold_any (e := oneE 1) (x := .slice none 0 0) h (by omega) (one_ok (by omega)) (kp0_nil _ _)
    rw [hold2] at H
    exact H
  have H3 : ∀ (w1 : World) (o1 : Nat → Nat) (b : Nat), BufIs w1 o1 5 b 3 [oneE 1, oneE 3] → Calls Try.prog 10 #[ptr b, .agg #[.int .i64 1, .int .i64 2, .int .u64 1, .int .i64 1, .int .i64 1, .int .i64 0, .slice none 0 0, .int .u64 0]] w1 fun r w' => r = .returned (.int .i64 0) ∧ ∃ o', BufIs w' o' 5 b 3 [oneE 1, oneE 2, oneE 3] ∧ Mv [5] w1 o1 w' o' := fun w1 o1 b h => by
    have H := hold_any (e := oneE 2) (x := .slice none 0 0) h (by omega) (one_ok (by omega)) (kp0_nil _ _)
    rw [hold3] at H
    exact H
  have R0 : ∀ (w1 : World) (o1 : Nat → Nat) (b : Nat), BufIs w1 o1 5 b 3 [oneE 1, oneE 2, oneE 3] → Calls Try.prog 16 #[ptr b, .int .i64 1, .int .i64 1] w1 fun r w' => ∃ v', r = .returned v' ∧ ∃ o' rs, rs.map (·.1) = [oneE 1, oneE 2, oneE 3] ∧ BufIs w' o' 5 b 3 [] ∧ OutAt w' o' 0 w1.heap.size v' rs ∧ Mv [5] w1 o1 w' o' := fun w1 o1 b h => by
    have H := brun_any (a := 1) (i := 1) h (by omega)
    rw [show ([oneE 1, oneE 2, oneE 3] : List Ent).length = 3 from rfl, run3] at H
    exact H
  have L0 : ∀ (w1 : World) (o1 : Nat → Nat) (b : Nat), BufIs w1 o1 5 b 3 [] → Calls Try.prog 22 #[ptr b] w1 fun r w' => r = .returned (.int .i64 0) ∧ w' = w1 := fun w1 o1 b h => blen_any h
  have HN0 : Hid (_) := N0
  have HH1 : Hid (_) := H1
  have HH2 : Hid (_) := H2
  have HH3 : Hid (_) := H3
  have HR0 : Hid (_) := R0
  have HL0 : Hid (_) := L0
  have HFin : Hid (∀ (w1 w2 : World) (o1 : Nat → Nat), Below w.heap.size w w1 → Mv [5] w1 (newTo (fun _ => 0) w 5) w2 o1 → Below w.heap.size w w2) := fun w1 w2 o1 hb hm => hb.trans (hm.below hb.size (fun k hk => by rw [newTo_old hk]; simp))
  clear N0 H1 H2 H3 R0 L0
  have t1 : Hid True := trivial
  have t2 : Hid True := trivial
  have t3 : Hid True := trivial
  have s1 : Hid True := trivial
  have s2 : Hid True := trivial
  have s3 : Hid True := trivial
  go_enter Try.func8, Try.ntmps8
  go_upto_region 4 with (first
    | (go_at_call 9; go_must (refine (HN0.out w).mono ?_; rintro r w1 ⟨rfl, hB1, hb1⟩; have HB1 : Hid (BufIs w1 (newTo (fun _ => 0) w 5) 5 w.heap.size 3 []) := hB1; have HW1 : Hid (Below w.heap.size w w1) := hb1; clear hB1 hb1))
    | (replace s1 := s1; go_at_call 24; go_must (refine (one_pos w1 1 3 (by omega)).mono ?_; rintro r w2 ⟨rfl, hb2⟩; have HB2 : Hid (BufIs w2 (newTo (newTo (fun _ => 0) w 5) w1 0) 5 w.heap.size 3 []) := HB1.out.below hb2; have HM2 : Hid (Mv [5] w1 (newTo (fun _ => 0) w 5) w2 (newTo (newTo (fun _ => 0) w 5) w1 0)) := Mv.of_below 0 hb2; clear hb2 s1))
    | (replace t1 := t1; go_at_call 10; go_must (refine (HH1.out w2 _ _ HB2.out).mono ?_; rintro r w3 ⟨rfl, o3, hB3, hm3⟩; have HB3 : Hid (BufIs w3 o3 5 w.heap.size 3 [oneE 3]) := hB3; have HM3 : Hid (Mv [5] w1 (newTo (fun _ => 0) w 5) w3 o3) := HM2.out.trans hm3; clear hB3 hm3 t1))
    | (replace s2 := s2; go_at_call 24; go_must (refine (one_pos w3 1 1 (by omega)).mono ?_; rintro r w4 ⟨rfl, hb4⟩; have HB4 : Hid (BufIs w4 (newTo o3 w3 0) 5 w.heap.size 3 [oneE 3]) := HB3.out.below hb4; have HM4 : Hid (Mv [5] w1 (newTo (fun _ => 0) w 5) w4 (newTo o3 w3 0)) := HM3.out.trans (Mv.of_below 0 hb4); clear hb4 s2))
    | (replace t2 := t2; go_at_call 10; go_must (refine (HH2.out w4 _ _ HB4.out).mono ?_; rintro r w5 ⟨rfl, o5, hB5, hm5⟩; have HB5 : Hid (BufIs w5 o5 5 w.heap.size 3 [oneE 1, oneE 3]) := hB5; have HM5 : Hid (Mv [5] w1 (newTo (fun _ => 0) w 5) w5 o5) := HM4.out.trans hm5; clear hB5 hm5 t2))
    | (replace s3 := s3; go_at_call 24; go_must (refine (one_pos w5 1 2 (by omega)).mono ?_; rintro r w6 ⟨rfl, hb6⟩; have HB6 : Hid (BufIs w6 (newTo o5 w5 0) 5 w.heap.size 3 [oneE 1, oneE 3]) := HB5.out.below hb6; have HM6 : Hid (Mv [5] w1 (newTo (fun _ => 0) w 5) w6 (newTo o5 w5 0)) := HM5.out.trans (Mv.of_below 0 hb6); clear hb6 s3))
    | (replace t3 := t3; go_at_call 10; go_must (refine (HH3.out w6 _ _ HB6.out).mono ?_; rintro r w7 ⟨rfl, o7, hB7, hm7⟩; have HB7 : Hid (BufIs w7 o7 5 w.heap.size 3 [oneE 1, oneE 2, oneE 3]) := hB7; have HM7 : Hid (Mv [5] w1 (newTo (fun _ => 0) w 5) w7 o7) := HM6.out.trans hm7; clear hB7 hm7 t3))
    | (go_at_call 16; go_must (refine (HR0.out w7 _ _ HB7.out).mono ?_; rintro r w8 ⟨v8, rfl, o8, rs, hrs, hB8, hO8, hm8⟩; have HB8 : Hid (BufIs w8 o8 5 w.heap.size 3 []) := hB8; have HM8 : Hid (Mv [5] w1 (newTo (fun _ => 0) w 5) w8 o8) := HM7.out.trans hm8; have HO8 : Hid (OutAt w8 o8 0 w7.heap.size v8 rs) := hO8; have HRS : Hid (rs.map (·.1) = [oneE 1, oneE 2, oneE 3]) := hrs; clear hB8 hm8 hO8 hrs)))
  have hl : rs.length = 3 := by have := congrArg List.length HRS.out; simpa using this
  obtain ⟨a8, c8, hv8, hc8⟩ := slice_of_own HO8.out.row
  rw [hl] at hv8
  subst hv8
  obtain ⟨q0, hq0⟩ : ∃ q, rs[0]? = some q := ⟨_, List.getElem?_eq_getElem (by omega)⟩
  obtain ⟨q2, hq2⟩ : ∃ q, rs[2]? = some q := ⟨_, List.getElem?_eq_getElem (by omega)⟩
  have e0 : q0.1 = oneE 1 := by have h9 : (rs.map (·.1))[0]? = some (oneE 1) := by rw [HRS.out]; rfl
                                rw [List.getElem?_map, hq0] at h9; exact Option.some.inj h9
  have e2 : q2.1 = oneE 3 := by have h9 : (rs.map (·.1))[2]? = some (oneE 3) := by rw [HRS.out]; rfl
                                rw [List.getElem?_map, hq2] at h9; exact Option.some.inj h9
  obtain ⟨g, off, ea, hcc0⟩ := HO8.out.rowE.at hq0
  subst ea
  obtain ⟨g', off', ea, hcc2⟩ := HO8.out.rowE.at hq2
  cases ea
  have p0 := hcc0 1 _ rfl
  have p2 := hcc2 1 _ rfl
  rw [e0] at p0
  rw [e2] at p2
  simp only [Nat.zero_mul, Nat.add_zero, oneE] at p0 p2
  have hcap : 3 ≤ c8 ∧ c8 ≤ 9223372036854775807 := ⟨HO8.out.rowE.cap.2.1, HO8.out.rowE.cap.2.2⟩
  have HE : Hid (Below w.heap.size w w8) := HFin.out w1 w8 o8 HW1.out HM8.out
  clear hcc0 hcc2 e0 e2 hq0 hq2 hl hc8
  go_wp2_with (go_at_call 22; go_must (refine (HL0.out w8 _ _ HB8.out).mono ?_; rintro r w9 ⟨rfl, hw9⟩; replace hw9 := hw9.symm; subst hw9))
  go_ret
  exact ⟨rfl, HE.out⟩
end Go.Proofs.Ytigfklcclfpcjaa
