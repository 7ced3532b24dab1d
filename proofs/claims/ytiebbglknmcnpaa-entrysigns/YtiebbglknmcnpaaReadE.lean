/-
  Read: the entry that bytes are, or why they are none.
-/
import Derived.Test.YtiebbglknmcnpaaTakeE
namespace Go.Proofs.Ytiebbglknmcnpaa
set_option linter.unusedVariables false
set_option linter.unusedSimpArgs false
set_option synthInstance.maxSize 20000
set_option maxHeartbeats 2000000
set_option maxRecDepth 20000
open Go.RowKit Go.Maps

theorem readE_any (w : World) (v : Value) (l : List Int) (hv : Rd w v l) (hl : l.length ≤ 1000000) :
    Calls Try.prog 21 #[v] w fun r w' => ∃ x, r = .returned (.tuple #[ev (readE l).1 x, .int .i64 (readE l).2]) ∧ Rd w' x (readE l).1.b ∧ Below w.heap.size w w' := by
  have HV : Hid (Rd w v l) := hv
  obtain ⟨av, cv, rfl⟩ := hv.len
  have T := fun w' b (h : Rdr w' b l 0) => take44_any w' b l 0 h hl
  unfold readE
  generalize takeE l 0 = t at *
  obtain ⟨e, l', k'⟩ := t
  dsimp only at *
  have DN := fun w' b (h : Rdr w' b l' k') => done_any w' b l' k' h
  generalize doneK l' k' = D at *
  have R := fun w' x (h : Rd w' x e.b) => rightE_any e x w' h
  generalize rightB e = rr at *
  obtain ⟨ew, ei, ep, et, eu, en, eb, eg⟩ := e
  unfold ev at *
  dsimp only at *
  have HT : Hid (∀ w' b, Rdr w' b l 0 → Calls Try.prog 44 #[ptr b] w' fun r w'' => ∃ v, r = .returned (.agg #[.int .i64 ew, .int .i64 ei, .int .u64 ep, .int .i64 et, .int .i64 eu, .int .i64 en, v, .int .u64 eg]) ∧ Rd w'' v eb ∧ Rdr w'' b l' k' ∧ w'.grownBy w'' (some b)) := T
  have HD : Hid (∀ w' b, Rdr w' b l' k' → Calls Try.prog 45 #[ptr b] w' fun r w'' => r = .returned (.int .i64 D) ∧ w'' = w') := DN
  have HR : Hid (∀ w' x, Rd w' x eb → Calls Try.prog 20 #[.agg #[.int .i64 ew, .int .i64 ei, .int .u64 ep, .int .i64 et, .int .i64 eu, .int .i64 en, x, .int .u64 eg]] w' fun r w'' => r = .returned (.bool rr) ∧ Below w'.heap.size w' w'') := R
  clear T DN R hv
  obtain ⟨w1, hw1⟩ : ∃ w1, w1 = w.alloc (.cells #[.int .i64 0, .int .i64 0, .int .u64 0, .int .i64 0, .int .i64 0, .int .i64 0, .slice none 0 0, .int .u64 0] 28) := ⟨_, rfl⟩
  have HX1 : Hid (Blk w1 w.heap.size 28 [.int .i64 0, .int .i64 0, .int .u64 0, .int .i64 0, .int .i64 0, .int .i64 0, .slice none 0 0, .int .u64 0]) := by show Blk _ _ _ _; rw [hw1]; exact blk_new w [.int .i64 0, .int .i64 0, .int .u64 0, .int .i64 0, .int .i64 0, .int .i64 0, .slice none 0 0, .int .u64 0] 28
  have HB1 : Hid (Below w.heap.size w w1) := by show Below _ _ _; rw [hw1]; exact balloc (Below.refl _ _) _
  go_enter Try.func21, Try.ntmps21
  go_upto_region 1 with fail
  rw [← hw1]
  obtain ⟨c, hc⟩ : ∃ c, c = w.heap.size := ⟨_, rfl⟩
  rw [← hc] at HX1 ⊢
  have HC : Hid (c = w.heap.size) := hc
  clear hw1 hc
  go_upto_region 3 with (first
    | (go_at_call 43; go_must (refine (read_any _ _ l (HV.out.below HB1.out) (by omega)).mono ?_; rintro e w2 ⟨b, rfl, hbl, hr2, hg2⟩))
    | (go_at_call 44; go_must (refine (HT.out w2 b hr2).mono ?_; rintro e w3 ⟨x, rfl, hrd3, hr3, hg3⟩; obtain ⟨ax, cx, hx⟩ := hrd3.len; subst hx)))
  obtain ⟨w4, hw4⟩ : ∃ w4, w4 = w3.alloc (.cells #[.int .i64 ew, .int .i64 ei, .int .u64 ep, .int .i64 et, .int .i64 eu, .int .i64 en, .slice ax eb.length cx, .int .u64 eg] 28) := ⟨_, rfl⟩
  rw [← hw4]
  have HB4 : Hid (Below w3.heap.size w3 w4) := by show Below _ _ _; rw [hw4]; exact balloc (Below.refl _ _) _
  have HX4 : Hid (Blk w4 w3.heap.size 28 [.int .i64 ew, .int .i64 ei, .int .u64 ep, .int .i64 et, .int .i64 eu, .int .i64 en, .slice ax eb.length cx, .int .u64 eg]) := by show Blk _ _ _ _; rw [hw4]; exact blk_new w3 [.int .i64 ew, .int .i64 ei, .int .u64 ep, .int .i64 et, .int .i64 eu, .int .i64 en, .slice ax eb.length cx, .int .u64 eg] 28
  have HBB : Hid (Below w.heap.size w w4) := (show Below _ _ _ from bnext (bgrown (bnext HB1.out (grown_below hg2)) (by have := HB1.out.size; omega) hg3) HB4.out)
  have HR4 : Hid (Rdr w4 b l' k') := hr3.kept (below_grown HB4.out)
  have HRD : Hid (Rd w4 (.slice ax eb.length cx) eb) := hrd3.below HB4.out
  have hcb : c < b := Nat.lt_of_lt_of_le HX1.out.lt hbl
  have HXC : Hid (Blk w4 c 28 [.int .i64 0, .int .i64 0, .int .u64 0, .int .i64 0, .int .i64 0, .int .i64 0, .slice none 0 0, .int .u64 0]) := (show Blk _ _ _ _ from (((HX1.out.below (grown_below hg2)).block (hg3.block _ (Nat.lt_of_lt_of_le HX1.out.lt hg2.size) (fun e => by have := Option.some.inj e; omega))).below HB4.out))
  obtain ⟨d, hd⟩ : ∃ d, d = w3.heap.size := ⟨_, rfl⟩
  rw [← hd] at HX4 ⊢
  clear hw4 hd hrd3 hr3 hg3 hg2 hr2 hbl hcb HX1
  by_cases hD : D = 0
  · subst hD
    have x0 := HX4.out.cell 0 _ rfl
    have x1 := HX4.out.cell 1 _ rfl
    have x2 := HX4.out.cell 2 _ rfl
    have x3 := HX4.out.cell 3 _ rfl
    have x4 := HX4.out.cell 4 _ rfl
    have x5 := HX4.out.cell 5 _ rfl
    have x6 := HX4.out.cell 6 _ rfl
    have x7 := HX4.out.cell 7 _ rfl
    cases rr
    · go_wp2_with (first
        | (go_at_call 45; go_must (refine (HD.out w4 b HR4.out).mono ?_; rintro r w5 ⟨rfl, hw5⟩; replace hw5 := hw5.symm; subst hw5))
        | (go_at_call 20; go_must (refine (HR.out w4 _ HRD.out).mono ?_; rintro r w6 ⟨rfl, hb6⟩; have Y := HXC.out.below hb6; have y0 := Y.cell 0 _ rfl; have y1 := Y.cell 1 _ rfl; have y2 := Y.cell 2 _ rfl; have y3 := Y.cell 3 _ rfl; have y4 := Y.cell 4 _ rfl; have y5 := Y.cell 5 _ rfl; have y6 := Y.cell 6 _ rfl; have y7 := Y.cell 7 _ rfl; have f0 := Y.frozen 0; have f1 := Y.frozen 1; have f2 := Y.frozen 2; have f3 := Y.frozen 3; have f4 := Y.frozen 4; have f5 := Y.frozen 5; have f6 := Y.frozen 6; have f7 := Y.frozen 7)))
      refine bodyPost_ret (v := .tuple #[.agg #[.int .i64 0, .int .i64 0, .int .u64 0, .int .i64 0, .int .i64 0, .int .i64 0, .slice none 0 0, .int .u64 0], .int .i64 4]) ?_ rfl ⟨.slice none 0 0, rfl, rd_nil _, ?_⟩
      · rw [results_cell_tmp rfl]
        go_simp
      · exact bgrown (bnext HBB.out hb6) (by have := HC.out; omega) (grown_set8 _ _ _ _ _ _ _ _ _ _)
    · go_wp2_with (first
        | (go_at_call 45; go_must (refine (HD.out w4 b HR4.out).mono ?_; rintro r w5 ⟨rfl, hw5⟩; replace hw5 := hw5.symm; subst hw5))
        | (go_at_call 20; go_must (refine (HR.out w4 _ HRD.out).mono ?_; rintro r w6 ⟨rfl, hb6⟩; have Y := HXC.out.below hb6; have y0 := Y.cell 0 _ rfl; have y1 := Y.cell 1 _ rfl; have y2 := Y.cell 2 _ rfl; have y3 := Y.cell 3 _ rfl; have y4 := Y.cell 4 _ rfl; have y5 := Y.cell 5 _ rfl; have y6 := Y.cell 6 _ rfl; have y7 := Y.cell 7 _ rfl; have f0 := Y.frozen 0; have f1 := Y.frozen 1; have f2 := Y.frozen 2; have f3 := Y.frozen 3; have f4 := Y.frozen 4; have f5 := Y.frozen 5; have f6 := Y.frozen 6; have f7 := Y.frozen 7; have Z := HX4.out.below hb6; have z0 := Z.cell 0 _ rfl; have z1 := Z.cell 1 _ rfl; have z2 := Z.cell 2 _ rfl; have z3 := Z.cell 3 _ rfl; have z4 := Z.cell 4 _ rfl; have z5 := Z.cell 5 _ rfl; have z6 := Z.cell 6 _ rfl; have z7 := Z.cell 7 _ rfl)))
      refine bodyPost_ret (v := .tuple #[.agg #[.int .i64 ew, .int .i64 ei, .int .u64 ep, .int .i64 et, .int .i64 eu, .int .i64 en, .slice ax eb.length cx, .int .u64 eg], .int .i64 0]) ?_ rfl ⟨.slice ax eb.length cx, rfl, ?_, ?_⟩
      · rw [results_cell_tmp rfl]
        go_simp
      · exact (HRD.out.below hb6).pastB Y (by unfold NoByte; simp) (grown_set8 _ _ _ _ _ _ _ _ _ _)
      · exact bgrown (bnext HBB.out hb6) (by have := HC.out; omega) (grown_set8 _ _ _ _ _ _ _ _ _ _)
  · have HDN : Hid (¬ D = 0) := hD
    have hD' : (D != 0) = true := by simpa using hD
    clear hD
    have y0 := HXC.out.cell 0 _ rfl
    have y1 := HXC.out.cell 1 _ rfl
    have y2 := HXC.out.cell 2 _ rfl
    have y3 := HXC.out.cell 3 _ rfl
    have y4 := HXC.out.cell 4 _ rfl
    have y5 := HXC.out.cell 5 _ rfl
    have y6 := HXC.out.cell 6 _ rfl
    have y7 := HXC.out.cell 7 _ rfl
    have f0 := HXC.out.frozen 0
    have f1 := HXC.out.frozen 1
    have f2 := HXC.out.frozen 2
    have f3 := HXC.out.frozen 3
    have f4 := HXC.out.frozen 4
    have f5 := HXC.out.frozen 5
    have f6 := HXC.out.frozen 6
    have f7 := HXC.out.frozen 7
    go_wp2_with (go_at_call 45; go_must (refine (HD.out w4 b HR4.out).mono ?_; rintro r w5 ⟨rfl, hw5⟩; replace hw5 := hw5.symm; subst hw5))
    refine bodyPost_ret (v := .tuple #[.agg #[.int .i64 0, .int .i64 0, .int .u64 0, .int .i64 0, .int .i64 0, .int .i64 0, .slice none 0 0, .int .u64 0], .int .i64 D]) ?_ rfl ⟨.slice none 0 0, (by first | rfl | (rw [if_neg HDN.out]; rfl)), (by first | exact rd_nil _ | (rw [if_neg HDN.out]; exact rd_nil _)), ?_⟩
    · rw [results_cell_tmp rfl]
      go_simp
    · exact bgrown HBB.out (by have := HC.out; omega) (grown_set8 _ _ _ _ _ _ _ _ _ _)
end Go.Proofs.Ytiebbglknmcnpaa
