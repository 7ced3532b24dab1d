/-
  The law OpBack, walked.
-/
import Derived.Test.YtcchokedfbogfaaBck
import Derived.Test.YtcchokedfbogfaaLgt
namespace Go.Proofs.Ytcchokedfbogfaa
set_option linter.unusedVariables false
set_option linter.unusedSimpArgs false
set_option synthInstance.maxSize 20000
set_option maxHeartbeats 2000000
set_option maxRecDepth 20000
open Go.RowKit Go.Maps

/-- What a call of Read answers, laid out. -/
def RdAns (w : World) (l : List Int) (t : S) (e : Ending) (w' : World) : Prop := ∃ (yk ya1 ya2 yn1 yn2 yp1 yp2 : Int) (yd : Bool) (ys : ByteArray) (yva : Option Addr) (yvn yvc : Nat) (k : Int), e = .returned (.tuple #[.agg #[.int .i64 yk, .int .i64 ya1, .int .i64 ya2, .int .i64 yn1, .int .i64 yn2, .int .i64 yp1, .int .i64 yp2, .bool yd, .string ys, .slice yva yvn yvc], .int .i64 k]) ∧ Hid (k = (readM l t).2 ∧ (∃ va vc, (⟨yk, (ya1, ya2), (yn1, yn2), (yp1, yp2), yd, ys, yva, yvn, yvc, (readM l t).1.b⟩ : OpT) = qv (readM l t).1 va vc) ∧ Rd w' (.slice yva yvn yvc) (readM l t).1.b) ∧ Below w.heap.size w w'
theorem readAns {w : World} {v : Value} {l : List Int} {t1 t2 : Int} (hv : Rd w v l) (hl : l.length ≤ 1000000) : Calls Try.prog 12 #[v, .agg #[.int .i64 t1, .int .i64 t2]] w (RdAns w l (t1, t2)) := by
  refine (read12 (t := (t1, t2)) hv hl).mono ?_
  rintro e w' ⟨va, vc, rfl, h, hb⟩
  obtain ⟨q, hq⟩ : ∃ q, q = qv (readM l (t1, t2)).1 va vc := ⟨_, rfl⟩
  rw [← hq] at h ⊢
  have hqb : q.b = (readM l (t1, t2)).1.b := by rw [hq]; rfl
  obtain ⟨yk, ⟨ya1, ya2⟩, ⟨yn1, yn2⟩, ⟨yp1, yp2⟩, yd, ys, yva, yvn, yvc, yb⟩ := q
  dsimp only at hqb
  subst hqb
  exact ⟨yk, ya1, ya2, yn1, yn2, yp1, yp2, yd, ys, yva, yvn, yvc, _, rfl, ⟨rfl, ⟨va, vc, hq⟩, h⟩, hb⟩
theorem same18 {v x : Value} {l : List Int} {w : World} (h1 : Rd w v l) (h2 : Rd w x l) : Calls Try.prog 18 #[v, x] w fun e w'' => e = .returned (.bool true) ∧ Below w.heap.size w w'' := by
  have := same_any v x l l w h1 h2
  simpa using this
theorem textL_len {q : OpT} (hq : QOk q) (hr : rightO q = true) (hb : q.vn = q.b.length) : (textL q).length ≤ 1000 := by
  have hz := right_len hr hb
  have h1 := putS_len q.n hq.n
  have h2 := putS_len q.p hq.p
  have h3 := form_le10 (n := q.s.size) (by omega)
  have h4 := form_le10 (n := q.b.length) (by omega)
  have h5 := sb_length q.s
  have f1 := form_le10 (n := 1) (by omega)
  have f2 := form_le10 (n := 2) (by omega)
  have f3 := form_le10 (n := 3) (by omega)
  have f4 := form_le10 (n := 4) (by omega)
  rcases ((rightO_iff q).1 hr).kind with ⟨k, _⟩ | ⟨k, _⟩ | ⟨k, _⟩ | ⟨k, _⟩
  · rw [text1 k]; simp only [List.length_append, List.length_singleton]; omega
  · rw [text2 k]; simp only [List.length_append]; omega
  · rw [text3 k]; simp only [List.length_append]; omega
  · rw [text4 k]; simp only [List.length_append]; omega
theorem same_qn (q : OpT) (va : Option Addr) (vc : Nat) : sameO q (qv (qn q) va vc) = true := by
  unfold sameO
  exact decide_eq_true ⟨rfl, rfl, rfl, rfl, rfl, rfl, rfl⟩
theorem back5 (q : OpT) (vb : Value) (lb : List Int) (t : S) (c : Int) (w : World) (hq : QOk q ∧ Rd w q.v q.b) (hv : Rd w vb lb) (ht : SOk t) (hc : I64 c) : Calls Try.prog 5 #[ov q, vb, sv t, .int .i64 c] w fun e w' => e = .returned (.bool true) ∧ Below w.heap.size w w' := by
  obtain ⟨hq, hd⟩ := hq
  have hb : q.vn = q.b.length := by unfold OpT.v at hd; exact hd.cap.1
  obtain ⟨t1, t2⟩ := t
  obtain ⟨ab, nb, rfl⟩ : ∃ ab nb, vb = .slice ab lb.length nb := hv.len
  have hcap := hv.cap
  have HAL : Hid (∀ w', Calls Try.prog 9 #[] w' fun e w'' => e = .returned (.bool true) ∧ Below w'.heap.size w' w'') := fun w' => alive9 w'
  have HR16 : Hid (∀ w', Calls Try.prog 16 #[ov q] w' fun e w'' => e = .returned (.bool (rightO q)) ∧ Below w'.heap.size w' w'') := fun w' => right16 q w'
  have HTN : Hid (rightO q = false → ∀ w', Calls Try.prog 10 #[ov q] w' fun e w'' => e = .returned (.tuple #[.slice none 0 0, .int .i64 1]) ∧ Below w'.heap.size w' w'') := fun h w' => text10_no h
  have HLI : Hid (∀ w' : World, Calls Try.prog 8 #[.slice (some ⟨w'.heap.size, 0, none⟩) 1 1, .int .i64 1] (w'.alloc (.cells (oc q).toArray 26)) fun e w'' => e = .returned (.bool (lightB [q] 1)) ∧ w'' = w'.alloc (.cells (oc q).toArray 26)) := fun w' => light8 (rowF_one w' q 26) (by simp)
  have HHD : Hid (Rd w q.v q.b) := hd
  have HHV : Hid (Rd w (.slice ab lb.length nb) lb) := hv
  have HQ : Hid (QOk q ∧ q.vn = q.b.length ∧ Oct q.b ∧ SOk (t1, t2) ∧ Oct lb) := ⟨hq, hb, hd.oct, ht, hv.oct⟩
  generalize hLB : lightB [q] 1 = LB at HLI
  clear hLB hq hb hd hv ht
  obtain ⟨qk, ⟨qa1, qa2⟩, ⟨qn1, qn2⟩, ⟨qp1, qp2⟩, qd, qs, qva, qvn, qvc, qb⟩ := q
  unfold ov oc at *
  unfold OpT.v at HHD
  unfold sv
  dsimp only at *
  obtain ⟨w1, hw1⟩ : ∃ w1, w1 = (w.alloc (.cells #[.int .i64 qk, .int .i64 qa1, .int .i64 qa2, .int .i64 qn1, .int .i64 qn2, .int .i64 qp1, .int .i64 qp2, .bool qd, .string qs, .slice qva qvn qvc] 26)).alloc (.cells #[.int .i64 t1, .int .i64 t2] 23) := ⟨_, rfl⟩
  obtain ⟨B0, hB0⟩ : ∃ B0, B0 = w.heap.size := ⟨_, rfl⟩
  obtain ⟨B1, hB1⟩ : ∃ B1, B1 = w.heap.size + 1 := ⟨_, rfl⟩
  have HB1 : Hid (Below w.heap.size w w1) := by show Below _ _ _; rw [hw1]; exact balloc (balloc (Below.refl _ _) _) _
  have HX : Hid (∀ w', Below w1.heap.size w1 w' → Blk w' B0 26 [.int .i64 qk, .int .i64 qa1, .int .i64 qa2, .int .i64 qn1, .int .i64 qn2, .int .i64 qp1, .int .i64 qp2, .bool qd, .string qs, .slice qva qvn qvc]) := fun w' h => by
    refine Blk.below ?_ h
    rw [hw1, hB0]
    exact (blk_new w [.int .i64 qk, .int .i64 qa1, .int .i64 qa2, .int .i64 qn1, .int .i64 qn2, .int .i64 qp1, .int .i64 qp2, .bool qd, .string qs, .slice qva qvn qvc] 26).alloc _
  have HT : Hid (∀ w', Below w1.heap.size w1 w' → Blk w' B1 23 [.int .i64 t1, .int .i64 t2]) := fun w' h => by
    refine Blk.below ?_ h
    rw [hw1, hB1]
    have := blk_new (w.alloc (.cells #[.int .i64 qk, .int .i64 qa1, .int .i64 qa2, .int .i64 qn1, .int .i64 qn2, .int .i64 qp1, .int .i64 qp2, .bool qd, .string qs, .slice qva qvn qvc] 26)) [.int .i64 t1, .int .i64 t2] 23
    simpa using this
  have HQD : Hid (∀ w', Below w1.heap.size w1 w' → Rd w' (.slice qva qvn qvc) qb) := fun w' h => HHD.out.below (bnext HB1.out h)
  have HVB : Hid (∀ w', Below w1.heap.size w1 w' → Rd w' (.slice ab lb.length nb) lb) := fun w' h => HHV.out.below (bnext HB1.out h)
  have HTY : Hid (rightO (⟨qk, (qa1, qa2), (qn1, qn2), (qp1, qp2), qd, qs, qva, qvn, qvc, qb⟩ : OpT) = true → ∀ w', Below w1.heap.size w1 w' → Calls Try.prog 10 #[.agg #[.int .i64 qk, .int .i64 qa1, .int .i64 qa2, .int .i64 qn1, .int .i64 qn2, .int .i64 qp1, .int .i64 qp2, .bool qd, .string qs, .slice qva qvn qvc]] w' fun e w'' => ∃ v, e = .returned (.tuple #[v, .int .i64 0]) ∧ Own w'.heap.size 5 w'' v (textL (⟨qk, (qa1, qa2), (qn1, qn2), (qp1, qp2), qd, qs, qva, qvn, qvc, qb⟩ : OpT)) ∧ Below w'.heap.size w' w'') := fun h w' hb' => text10_ok (q := (⟨qk, (qa1, qa2), (qn1, qn2), (qp1, qp2), qd, qs, qva, qvn, qvc, qb⟩ : OpT)) HQ.out.1 (HQD.out w' hb') (by have := right_len h HQ.out.2.1; omega) (right_len h HQ.out.2.1).2 h
  have X1 := HX.out w1 (Below.refl _ _)
  have c0 := X1.cell 0 _ rfl; have c1 := X1.cell 1 _ rfl; have c2 := X1.cell 2 _ rfl; have c3 := X1.cell 3 _ rfl; have c4 := X1.cell 4 _ rfl; have c5 := X1.cell 5 _ rfl; have c6 := X1.cell 6 _ rfl; have c7 := X1.cell 7 _ rfl; have c8 := X1.cell 8 _ rfl; have c9 := X1.cell 9 _ rfl
  have HSZ : Hid (w.heap.size ≤ w1.heap.size) := HB1.out.size
  clear X1 HHD HHV
  go_enter Try.func5, Try.ntmps5
  go_upto_region 1 with fail
  rw [← hB1]
  rw [← hB0]
  rw [← hw1]
  clear hw1 hB0 hB1
  have HB2 : Hid (Below w1.heap.size w1 (w1.alloc (.cells #[.int .i64 qk, .int .i64 qa1, .int .i64 qa2, .int .i64 qn1, .int .i64 qn2, .int .i64 qp1, .int .i64 qp2, .bool qd, .string qs, .slice qva qvn qvc] 26))) := (show Below _ _ _ from balloc (Below.refl _ _) _)
  have hlt : (0 : Int) ≤ (lb.length : Int) := by omega
  cases LB
  · go_wp2_with (first
      | (go_at_call 8; go_must (refine (HLI.out w1).mono ?_; rintro r w2 ⟨rfl, hw2⟩; replace hw2 := hw2.symm; subst hw2))
      | (go_at_call 9; go_must (refine (HAL.out _).mono ?_; rintro r w3 ⟨rfl, hb3⟩; have HB3 : Hid (Below w1.heap.size w1 w3) := bnext HB2.out hb3)))
    go_ret
    exact ⟨rfl, bnext HB1.out HB3.out⟩
  · by_cases hl : 600 < lb.length
    · have hl' : (600 : Int) < (lb.length : Int) := by omega
      go_wp2_with (first
        | (go_at_call 8; go_must (refine (HLI.out w1).mono ?_; rintro r w2 ⟨rfl, hw2⟩; replace hw2 := hw2.symm; subst hw2))
        | (go_at_call 9; go_must (refine (HAL.out _).mono ?_; rintro r w3 ⟨rfl, hb3⟩; have HB3 : Hid (Below w1.heap.size w1 w3) := bnext HB2.out hb3)))
      go_ret
      exact ⟨rfl, bnext HB1.out HB3.out⟩
    · have hl' : ¬ (600 : Int) < (lb.length : Int) := by omega
      go_upto_region 3 with (go_at_call 8; go_must (refine (HLI.out w1).mono ?_; rintro r w2 ⟨rfl, hw2⟩; replace hw2 := hw2.symm; subst hw2))
      obtain ⟨w2, hw2⟩ : ∃ w2, w2 = w1.alloc (.cells #[.int .i64 qk, .int .i64 qa1, .int .i64 qa2, .int .i64 qn1, .int .i64 qn2, .int .i64 qp1, .int .i64 qp2, .bool qd, .string qs, .slice qva qvn qvc] 26) := ⟨_, rfl⟩
      rw [← hw2] at HB2 ⊢
      clear hw2 HLI c0 c1 c2 c3 c4 c5 c6 c7 c8 c9
      have X2 := HX.out w2 HB2.out
      have b0 := X2.cell 0 _ rfl; have b1 := X2.cell 1 _ rfl; have b2 := X2.cell 2 _ rfl; have b3 := X2.cell 3 _ rfl; have b4 := X2.cell 4 _ rfl; have b5 := X2.cell 5 _ rfl; have b6 := X2.cell 6 _ rfl; have b7 := X2.cell 7 _ rfl; have b8 := X2.cell 8 _ rfl; have b9 := X2.cell 9 _ rfl
      clear X2
      cases hr : rightO (⟨qk, (qa1, qa2), (qn1, qn2), (qp1, qp2), qd, qs, qva, qvn, qvc, qb⟩ : OpT)
      · have HTX := HTN.out hr
        have HTX2 : Hid (∀ w', Calls Try.prog 10 #[.agg #[.int .i64 qk, .int .i64 qa1, .int .i64 qa2, .int .i64 qn1, .int .i64 qn2, .int .i64 qp1, .int .i64 qp2, .bool qd, .string qs, .slice qva qvn qvc]] w' fun e w'' => e = .returned (.tuple #[.slice none 0 0, .int .i64 1]) ∧ Below w'.heap.size w' w'') := HTX
        rw [hr] at HR16
        clear HTX
        go_upto_region 14 with (first
          | (go_at_call 10; go_must (refine (HTX2.out _).mono ?_; rintro r w3 ⟨rfl, hb3⟩; have HB3 : Hid (Below w1.heap.size w1 w3) := bnext HB2.out hb3; have X3 := HX.out w3 HB3.out; have d0 := X3.cell 0 _ rfl; have d1 := X3.cell 1 _ rfl; have d2 := X3.cell 2 _ rfl; have d3 := X3.cell 3 _ rfl; have d4 := X3.cell 4 _ rfl; have d5 := X3.cell 5 _ rfl; have d6 := X3.cell 6 _ rfl; have d7 := X3.cell 7 _ rfl; have d8 := X3.cell 8 _ rfl; have d9 := X3.cell 9 _ rfl; clear X3 hb3))
          | (go_at_call 16; go_must (refine (HR16.out _).mono ?_; rintro r w4 ⟨rfl, hb4⟩; have HB4 : Hid (Below w1.heap.size w1 w4) := bnext HB3.out hb4; clear hb4)))
        clear b0 b1 b2 b3 b4 b5 b6 b7 b8 b9 d0 d1 d2 d3 d4 d5 d6 d7 d8 d9
        have HRA : Hid (Calls Try.prog 12 #[.slice ab lb.length nb, .agg #[.int .i64 t1, .int .i64 t2]] w4 (RdAns w4 lb (t1, t2))) := readAns (HVB.out _ HB4.out) (by omega)
        have T1 := HT.out _ HB4.out
        have g0 := T1.cell 0 _ rfl
        have g1 := T1.cell 1 _ rfl
        clear T1
        go_upto_region 15 with (go_at_call 12; go_must (refine HRA.out.mono ?_; rintro r w5 ⟨yk, ya1, ya2, yn1, yn2, yp1, yp2, yd, ys, yva, yvn, yvc, k5, rfl, h5, hb5⟩; have HB5 : Hid (Below w1.heap.size w1 w5) := bnext HB4.out hb5; clear hb5))
        have HY : Hid (k5 = (readM lb (t1, t2)).2 ∧ (∃ va vc, (⟨yk, (ya1, ya2), (yn1, yn2), (yp1, yp2), yd, ys, yva, yvn, yvc, (readM lb (t1, t2)).1.b⟩ : OpT) = qv (readM lb (t1, t2)).1 va vc) ∧ Rd w5 (.slice yva yvn yvc) (readM lb (t1, t2)).1.b) := h5
        clear h5 g0 g1
        obtain ⟨w6, hw6⟩ : ∃ w6, w6 = w5.alloc (.cells #[.int .i64 yk, .int .i64 ya1, .int .i64 ya2, .int .i64 yn1, .int .i64 yn2, .int .i64 yp1, .int .i64 yp2, .bool yd, .string ys, .slice yva yvn yvc] 26) := ⟨_, rfl⟩
        obtain ⟨D, hD⟩ : ∃ D, D = w5.heap.size := ⟨_, rfl⟩
        rw [← hw6, ← hD]
        have HB6 : Hid (Below w5.heap.size w5 w6) := by show Below _ _ _; rw [hw6]; exact balloc (Below.refl _ _) _
        have HD6 : Hid (Blk w6 D 26 [.int .i64 yk, .int .i64 ya1, .int .i64 ya2, .int .i64 yn1, .int .i64 yn2, .int .i64 yp1, .int .i64 yp2, .bool yd, .string ys, .slice yva yvn yvc]) := by show Blk _ _ _ _; rw [hw6, hD]; exact blk_new w5 [.int .i64 yk, .int .i64 ya1, .int .i64 ya2, .int .i64 yn1, .int .i64 yn2, .int .i64 yp1, .int .i64 yp2, .bool yd, .string ys, .slice yva yvn yvc] 26
        have HB61 : Hid (Below w1.heap.size w1 w6) := bnext HB5.out HB6.out
        have HYR : Hid (Rd w6 (.slice yva yvn yvc) (readM lb (t1, t2)).1.b) := HY.out.2.2.below HB6.out
        clear hw6 hD
        have X6 := HD6.out
        have e0 := X6.cell 0 _ rfl; have e1 := X6.cell 1 _ rfl; have e2 := X6.cell 2 _ rfl; have e3 := X6.cell 3 _ rfl; have e4 := X6.cell 4 _ rfl; have e5 := X6.cell 5 _ rfl; have e6 := X6.cell 6 _ rfl; have e7 := X6.cell 7 _ rfl; have e8 := X6.cell 8 _ rfl; have e9 := X6.cell 9 _ rfl
        clear X6
        by_cases hk : k5 = 0
        · subst hk
          have HBK := readM_back HQ.out.2.2.2.2 HQ.out.2.2.2.1 HY.out.1.symm
          have HPV : Hid (QOk (⟨yk, (ya1, ya2), (yn1, yn2), (yp1, yp2), yd, ys, yva, yvn, yvc, (readM lb (t1, t2)).1.b⟩ : OpT) ∧ rightO (⟨yk, (ya1, ya2), (yn1, yn2), (yp1, yp2), yd, ys, yva, yvn, yvc, (readM lb (t1, t2)).1.b⟩ : OpT) = true ∧ textL (⟨yk, (ya1, ya2), (yn1, yn2), (yp1, yp2), yd, ys, yva, yvn, yvc, (readM lb (t1, t2)).1.b⟩ : OpT) = lb ∧ ya1 = t1 ∧ ya2 = t2 ∧ ys.size ≤ 400) := by
            obtain ⟨va, vc, e⟩ := HY.out.2.1
            obtain ⟨h1, h2, h3⟩ := HBK
            have ea : (ya1, ya2) = (t1, t2) := by have := congrArg OpT.a e; exact this.trans h1.at_
            have ek : yk = (readM lb (t1, t2)).1.k := congrArg OpT.k e
            have en : (yn1, yn2) = (readM lb (t1, t2)).1.n := congrArg OpT.n e
            have ep : (yp1, yp2) = (readM lb (t1, t2)).1.p := congrArg OpT.p e
            have es : ys = (readM lb (t1, t2)).1.s := congrArg OpT.s e
            refine ⟨⟨?_, ?_, ?_, ?_⟩, ?_, ?_, congrArg Prod.fst ea, congrArg Prod.snd ea, ?_⟩
            · show I64 yk; have := h1.k; unfold I64; omega
            · show SOk (ya1, ya2); rw [ea]; exact HQ.out.2.2.2.1
            · show SOk (yn1, yn2); rw [en]; exact h1.n
            · show SOk (yp1, yp2); rw [ep]; exact h1.p
            · rw [e]; exact (right_qv _ _ _).trans h2
            · rw [e]; exact h3
            · rw [es]; have := h1.s; omega
          have hyb : (readM lb (t1, t2)).1.b.length ≤ 400 := HBK.1.b
          have HT6 : Hid (Calls Try.prog 10 #[.agg #[.int .i64 yk, .int .i64 ya1, .int .i64 ya2, .int .i64 yn1, .int .i64 yn2, .int .i64 yp1, .int .i64 yp2, .bool yd, .string ys, .slice yva yvn yvc]] w6 fun e w'' => ∃ v, e = .returned (.tuple #[v, .int .i64 0]) ∧ Own w6.heap.size 5 w'' v lb ∧ Below w6.heap.size w6 w'') := by
            have := text10_ok (q := (⟨yk, (ya1, ya2), (yn1, yn2), (yp1, yp2), yd, ys, yva, yvn, yvc, (readM lb (t1, t2)).1.b⟩ : OpT)) (w := w6) HPV.out.1 HYR.out HPV.out.2.2.2.2.2 hyb HPV.out.2.1
            rw [HPV.out.2.2.1] at this
            exact this
          have hya1 := HPV.out.2.2.2.1
          have hya2 := HPV.out.2.2.2.2.1
          subst hya1 hya2
          clear HBK hyb HY HRA
          go_wp2_with (first
            | (go_at_call 10; go_must (refine HT6.out.mono ?_; rintro r w7 ⟨v7, rfl, ho7, hb7⟩; have HO7 : Hid (Rd w7 v7 lb) := ho7.rd; have HB7 : Hid (Below w1.heap.size w1 w7) := bnext HB61.out hb7; have HD7 : Hid (Blk w7 D 26 [.int .i64 yk, .int .i64 ya1, .int .i64 ya2, .int .i64 yn1, .int .i64 yn2, .int .i64 yp1, .int .i64 yp2, .bool yd, .string ys, .slice yva yvn yvc]) := HD6.out.below hb7; have HS7 : Hid (Calls Try.prog 18 #[v7, .slice ab lb.length nb] w7 fun e w'' => e = .returned (.bool true) ∧ Below w7.heap.size w7 w'') := same18 HO7.out (HVB.out _ HB7.out); clear ho7 hb7))
            | (go_at_call 18; go_must (refine HS7.out.mono ?_; rintro r w8 ⟨rfl, hb8⟩; have HB8 : Hid (Below w1.heap.size w1 w8) := bnext HB7.out hb8; have X8 := HD7.out.below hb8; have m1 := X8.cell 1 _ rfl; have m2 := X8.cell 2 _ rfl; have T8 := HT.out w8 HB8.out; have m3 := T8.cell 0 _ rfl; have m4 := T8.cell 1 _ rfl; clear X8 T8 hb8))
            | (go_at_call 9; go_must (refine (HAL.out _).mono ?_; rintro r w9 ⟨rfl, hb9⟩; have HB9 : Hid (Below w1.heap.size w1 w9) := bnext HB8.out hb9)))
          go_ret
          exact ⟨rfl, bnext HB1.out HB9.out⟩
        · have hkb : (k5 != 0) = true := by simpa using hk
          have HZ : Hid (∃ va vc, (⟨yk, (ya1, ya2), (yn1, yn2), (yp1, yp2), yd, ys, yva, yvn, yvc, (readM lb (t1, t2)).1.b⟩ : OpT) = qv oz va vc) := by
            show ∃ _, _
            have h0 := readM_bad (l := lb) (t := (t1, t2)) (by rw [← HY.out.1]; exact hk)
            obtain ⟨va, vc, e⟩ := HY.out.2.1
            exact ⟨va, vc, by rw [e, h0]⟩
          have HS6 : Hid (Calls Try.prog 23 #[.agg #[.int .i64 yk, .int .i64 ya1, .int .i64 ya2, .int .i64 yn1, .int .i64 yn2, .int .i64 yp1, .int .i64 yp2, .bool yd, .string ys, .slice yva yvn yvc], .agg #[.int .i64 0, .int .i64 0, .int .i64 0, .int .i64 0, .int .i64 0, .int .i64 0, .int .i64 0, .bool false, .string ⟨#[]⟩, .slice none 0 0]] w6 fun e w'' => e = .returned (.bool true) ∧ Below w6.heap.size w6 w'') := by
            show Calls _ _ _ _ _
            have := same23 (q := (⟨yk, (ya1, ya2), (yn1, yn2), (yp1, yp2), yd, ys, yva, yvn, yvc, (readM lb (t1, t2)).1.b⟩ : OpT)) (r := oz) (w := w6) HYR.out (rd_nil w6)
            have e2 : sameO (⟨yk, (ya1, ya2), (yn1, yn2), (yp1, yp2), yd, ys, yva, yvn, yvc, (readM lb (t1, t2)).1.b⟩ : OpT) oz = true := by
              obtain ⟨va, vc, e⟩ := HZ.out
              rw [e]
              unfold sameO
              exact decide_eq_true ⟨rfl, rfl, rfl, rfl, rfl, rfl, rfl⟩
            rw [e2] at this
            exact this
          clear HY HRA HZ
          go_wp2_with (first
            | (go_at_call 23; go_must (refine HS6.out.mono ?_; rintro r w7 ⟨rfl, hb7⟩; have HB7 : Hid (Below w1.heap.size w1 w7) := bnext HB61.out hb7; clear hb7))
            | (go_at_call 9; go_must (refine (HAL.out _).mono ?_; rintro r w9 ⟨rfl, hb9⟩; have HB9 : Hid (Below w1.heap.size w1 w9) := bnext HB7.out hb9)))
          go_ret
          exact ⟨rfl, bnext HB1.out HB9.out⟩
      · have hR : ∃ TL, TL = textL (⟨qk, (qa1, qa2), (qn1, qn2), (qp1, qp2), qd, qs, qva, qvn, qvc, qb⟩ : OpT) := ⟨_, rfl⟩
        obtain ⟨TL, hTL⟩ := hR
        have HF : Hid (readM TL (qa1, qa2) = (qn (⟨qk, (qa1, qa2), (qn1, qn2), (qp1, qp2), qd, qs, qva, qvn, qvc, qb⟩ : OpT), 0) ∧ (∀ c, c < TL.length → (readM (TL.take c) (qa1, qa2)).2 ≠ 0) ∧ TL.length ≤ 1000) := by
          show _ ∧ _
          rw [hTL]
          exact ⟨read_text hr HQ.out.2.1, fun c hc => read_cut hr HQ.out.2.1 HQ.out.1.a hc (textL_oct _ HQ.out.2.2.1), textL_len HQ.out.1 hr HQ.out.2.1⟩
        have HTX2 : Hid (∀ w', Below w1.heap.size w1 w' → Calls Try.prog 10 #[.agg #[.int .i64 qk, .int .i64 qa1, .int .i64 qa2, .int .i64 qn1, .int .i64 qn2, .int .i64 qp1, .int .i64 qp2, .bool qd, .string qs, .slice qva qvn qvc]] w' fun e w'' => ∃ v, e = .returned (.tuple #[v, .int .i64 0]) ∧ Own w'.heap.size 5 w'' v TL ∧ Below w'.heap.size w' w'') := by
          show ∀ w', _
          rw [hTL]
          exact HTY.out hr
        rw [hr] at HR16
        clear hTL HTY HTN
        go_upto_region 7 with (first
          | (go_at_call 10; go_must (refine (HTX2.out _ HB2.out).mono ?_; rintro r w3 ⟨v3, rfl, ho3, hb3⟩; have HB3 : Hid (Below w1.heap.size w1 w3) := bnext HB2.out hb3; have X3 := HX.out w3 HB3.out; have d0 := X3.cell 0 _ rfl; have d1 := X3.cell 1 _ rfl; have d2 := X3.cell 2 _ rfl; have d3 := X3.cell 3 _ rfl; have d4 := X3.cell 4 _ rfl; have d5 := X3.cell 5 _ rfl; have d6 := X3.cell 6 _ rfl; have d7 := X3.cell 7 _ rfl; have d8 := X3.cell 8 _ rfl; have d9 := X3.cell 9 _ rfl; have HO3 : Hid (Rd w3 v3 TL) := ho3.rd; clear X3 hb3 ho3))
          | (go_at_call 16; go_must (refine (HR16.out _).mono ?_; rintro r w4 ⟨rfl, hb4⟩; have HB4 : Hid (Below w1.heap.size w1 w4) := bnext HB3.out hb4; have HO4 : Hid (Rd w4 v3 TL) := HO3.out.below hb4; clear hb4)))
        clear b0 b1 b2 b3 b4 b5 b6 b7 b8 b9 d0 d1 d2 d3 d4 d5 d6 d7 d8 d9
        obtain ⟨xa, xc, rfl⟩ := HO4.out.len
        have hxc := HO4.out.cap
        have X4 := HX.out w4 HB4.out
        have p1 := X4.cell 1 _ rfl
        have p2 := X4.cell 2 _ rfl
        clear X4
        have HRZ : Hid (Calls Try.prog 12 #[.slice xa TL.length xc, .agg #[.int .i64 qa1, .int .i64 qa2]] w4 (RdAns w4 TL (qa1, qa2))) := readAns HO4.out (by have := HF.out.2.2; omega)
        go_upto_region 8 with (go_at_call 12; go_must (refine HRZ.out.mono ?_; rintro r w5 ⟨zk, za1, za2, zn1, zn2, zp1, zp2, zd, zs, zva, zvn, zvc, k5, rfl, h5, hb5⟩; have HB5 : Hid (Below w1.heap.size w1 w5) := bnext HB4.out hb5; have HO5 : Hid (Rd w5 (.slice xa TL.length xc) TL) := HO4.out.below hb5; clear hb5))
        have HZ5 : Hid (k5 = 0 ∧ (∃ va vc, (⟨zk, (za1, za2), (zn1, zn2), (zp1, zp2), zd, zs, zva, zvn, zvc, qb⟩ : OpT) = qv (qn (⟨qk, (qa1, qa2), (qn1, qn2), (qp1, qp2), qd, qs, qva, qvn, qvc, qb⟩ : OpT)) va vc) ∧ Rd w5 (.slice zva zvn zvc) qb) := by
          have h := h5.out
          rw [HF.out.1] at h
          exact h
        have hk5 := HZ5.out.1
        subst hk5
        clear h5 p1 p2 HRZ
        obtain ⟨w6, hw6⟩ : ∃ w6, w6 = w5.alloc (.cells #[.int .i64 zk, .int .i64 za1, .int .i64 za2, .int .i64 zn1, .int .i64 zn2, .int .i64 zp1, .int .i64 zp2, .bool zd, .string zs, .slice zva zvn zvc] 26) := ⟨_, rfl⟩
        obtain ⟨E, hE⟩ : ∃ E, E = w5.heap.size := ⟨_, rfl⟩
        rw [← hw6, ← hE]
        have HB6 : Hid (Below w5.heap.size w5 w6) := by show Below _ _ _; rw [hw6]; exact balloc (Below.refl _ _) _
        have HE6 : Hid (Blk w6 E 26 [.int .i64 zk, .int .i64 za1, .int .i64 za2, .int .i64 zn1, .int .i64 zn2, .int .i64 zp1, .int .i64 zp2, .bool zd, .string zs, .slice zva zvn zvc]) := by show Blk _ _ _ _; rw [hw6, hE]; exact blk_new w5 [.int .i64 zk, .int .i64 za1, .int .i64 za2, .int .i64 zn1, .int .i64 zn2, .int .i64 zp1, .int .i64 zp2, .bool zd, .string zs, .slice zva zvn zvc] 26
        have HB61 : Hid (Below w1.heap.size w1 w6) := bnext HB5.out HB6.out
        have HO6 : Hid (Rd w6 (.slice xa TL.length xc) TL) := HO5.out.below HB6.out
        clear hw6 hE
        have X6 := HE6.out
        have z0 := X6.cell 0 _ rfl; have z1 := X6.cell 1 _ rfl; have z2 := X6.cell 2 _ rfl; have z3 := X6.cell 3 _ rfl; have z4 := X6.cell 4 _ rfl; have z5 := X6.cell 5 _ rfl; have z6 := X6.cell 6 _ rfl; have z7 := X6.cell 7 _ rfl; have z8 := X6.cell 8 _ rfl; have z9 := X6.cell 9 _ rfl
        clear X6
        have X7 := HX.out w6 HB61.out
        have s0 := X7.cell 0 _ rfl; have s1 := X7.cell 1 _ rfl; have s2 := X7.cell 2 _ rfl; have s3 := X7.cell 3 _ rfl; have s4 := X7.cell 4 _ rfl; have s5 := X7.cell 5 _ rfl; have s6 := X7.cell 6 _ rfl; have s7 := X7.cell 7 _ rfl; have s8 := X7.cell 8 _ rfl; have s9 := X7.cell 9 _ rfl
        clear X7
        have HS6 : Hid (Calls Try.prog 23 #[.agg #[.int .i64 qk, .int .i64 qa1, .int .i64 qa2, .int .i64 qn1, .int .i64 qn2, .int .i64 qp1, .int .i64 qp2, .bool qd, .string qs, .slice qva qvn qvc], .agg #[.int .i64 zk, .int .i64 za1, .int .i64 za2, .int .i64 zn1, .int .i64 zn2, .int .i64 zp1, .int .i64 zp2, .bool zd, .string zs, .slice zva zvn zvc]] w6 fun e w'' => e = .returned (.bool true) ∧ Below w6.heap.size w6 w'') := by
          show Calls _ _ _ _ _
          have := same23 (q := (⟨qk, (qa1, qa2), (qn1, qn2), (qp1, qp2), qd, qs, qva, qvn, qvc, qb⟩ : OpT)) (r := (⟨zk, (za1, za2), (zn1, zn2), (zp1, zp2), zd, zs, zva, zvn, zvc, qb⟩ : OpT)) (w := w6) (HQD.out _ HB61.out) (HZ5.out.2.2.below HB6.out)
          have e2 : sameO (⟨qk, (qa1, qa2), (qn1, qn2), (qp1, qp2), qd, qs, qva, qvn, qvc, qb⟩ : OpT) (⟨zk, (za1, za2), (zn1, zn2), (zp1, zp2), zd, zs, zva, zvn, zvc, qb⟩ : OpT) = true := by
            obtain ⟨va, vc, e⟩ := HZ5.out.2.1
            rw [e]
            exact same_qn _ _ _
          rw [e2] at this
          exact this
        have hcc1 : -9223372036854775808 ≤ c ∧ c ≤ 9223372036854775807 := hc
        go_upto_region 10 with (go_at_call 23; go_must (refine HS6.out.mono ?_; rintro r w7 ⟨rfl, hb7⟩; have HB7 : Hid (Below w1.heap.size w1 w7) := bnext HB61.out hb7; have HO7 : Hid (Rd w7 (.slice xa TL.length xc) TL) := HO6.out.below hb7; clear hb7))
        clear z0 z1 z2 z3 z4 z5 z6 z7 z8 z9 s0 s1 s2 s3 s4 s5 s6 s7 s8 s9
        by_cases hc0 : 0 ≤ c
        · by_cases hcl : c < (TL.length : Int)
          · obtain ⟨cn, rfl⟩ : ∃ cn : Nat, c = (cn : Int) := ⟨c.toNat, by omega⟩
            have hcn : cn < TL.length := by omega
            have HCU : Hid ((readM (TL.take cn) (qa1, qa2)).2 ≠ 0) := HF.out.2.1 cn hcn
            have HRC : Hid (∀ w', Below w7.heap.size w7 w' → Calls Try.prog 12 #[.slice xa cn xc, .agg #[.int .i64 qa1, .int .i64 qa2]] w' (RdAns w' (TL.take cn) (qa1, qa2))) := fun w' h => readAns (rd_head (HO7.out.below h) (by omega)) (by rw [List.length_take]; have := HF.out.2.2; omega)
            have HX7 : Hid (Blk w7 B0 26 [.int .i64 qk, .int .i64 qa1, .int .i64 qa2, .int .i64 qn1, .int .i64 qn2, .int .i64 qp1, .int .i64 qp2, .bool qd, .string qs, .slice qva qvn qvc]) := HX.out _ HB7.out
            go_upto_region 11 with fail
            go_cut [14] (fun v wx => (∃ k : Int, v = .int .i64 k ∧ k ≠ 0) ∧ Hid (Below w1.heap.size w1 wx))
            case first =>
              clear HQ HTX2 HR16 HAL
              obtain ⟨wd, hwd⟩ : ∃ wd, wd = w7.drew := ⟨_, rfl⟩
              have HBd : Hid (Below w7.heap.size w7 wd) := by show Below _ _ _; rw [hwd]; exact below_drewn w7 1
              have HXd : Hid (Blk wd B0 26 [.int .i64 qk, .int .i64 qa1, .int .i64 qa2, .int .i64 qn1, .int .i64 qn2, .int .i64 qp1, .int .i64 qp2, .bool qd, .string qs, .slice qva qvn qvc]) := by show Blk _ _ _ _; rw [hwd]; exact HX7.out.drew
              have HLT : Hid (B0 < wd.heap.size) := HXd.out.lt
              have hcn2 : (cn : Int) ≤ (TL.length : Int) := by omega
              have hcn3 : (cn : Int) ≤ (xc : Int) := by omega
              have p1 := fun z : WIn (fun w' => Blk w' B0 26 [.int .i64 qk, .int .i64 qa1, .int .i64 qa2, .int .i64 qn1, .int .i64 qn2, .int .i64 qp1, .int .i64 qp2, .bool qd, .string qs, .slice qva qvn qvc]) => z.ok.cell 1 _ rfl
              have p2 := fun z : WIn (fun w' => Blk w' B0 26 [.int .i64 qk, .int .i64 qa1, .int .i64 qa2, .int .i64 qn1, .int .i64 qn2, .int .i64 qp1, .int .i64 qp2, .bool qd, .string qs, .slice qva qvn qvc]) => z.ok.cell 2 _ rfl
              have ne : Nonempty (WIn (fun w' => Blk w' B0 26 [.int .i64 qk, .int .i64 qa1, .int .i64 qa2, .int .i64 qn1, .int .i64 qn2, .int .i64 qp1, .int .i64 qp2, .bool qd, .string qs, .slice qva qvn qvc])) := ⟨⟨wd, HXd.out⟩⟩
              refine wp_region_tree (C := fun w' => ∃ z : WIn (fun w' => Blk w' B0 26 [.int .i64 qk, .int .i64 qa1, .int .i64 qa2, .int .i64 qn1, .int .i64 qn2, .int .i64 qp1, .int .i64 qp2, .bool qd, .string qs, .slice qva qvn qvc]), w' = z.w) (.still 0 (.still 1 (.still 2 (.still 3 (.still 4 (.two 5 (.still 6 (.still 7 (.still 8 (.one 9 (.one 10 (.still 11 .done)))))) 9 (.one 5 (.still 6 (.still 7 (.still 8 (.one 10 (.still 11 .done)))))))))))) (by kernel_rfl) (by kernel_rfl) (by rw [← hwd]; exact ⟨⟨wd, HXd.out⟩, rfl⟩) ?_
              rw [← hwd]
              clear hwd
              iterate 5 (refine tree_still rfl rfl ?_; go_big_quiet_step (fail); refine wpQuiet_nil ?_)
              refine tree_two rfl rfl rfl rfl ?_ ?_
              · go_simp
                refine (HRC.out wd HBd.out).mono ?_
                rintro r w8 ⟨yk, ya1, ya2, yn1, yn2, yp1, yp2, yd, ys, yva, yvn, yvc, k8, rfl, h8, hb8⟩
                have HK8 : Hid (k8 ≠ 0) := (show k8 ≠ 0 from by rw [h8.out.1]; exact HCU.out)
                have HX8 : Hid (Blk w8 B0 26 [.int .i64 qk, .int .i64 qa1, .int .i64 qa2, .int .i64 qn1, .int .i64 qn2, .int .i64 qp1, .int .i64 qp2, .bool qd, .string qs, .slice qva qvn qvc]) := HXd.out.below hb8
                have HBE : Hid (Below w1.heap.size w1 w8) := bnext HB7.out (bnext HBd.out hb8)
                refine ⟨⟨⟨w8, HX8.out⟩, rfl⟩, ?_⟩
                clear h8 hb8
                go_simp
                iterate 3 (refine tree_still rfl rfl ?_; go_big_quiet_step (fail); refine wpQuiet_nil ?_)
                refine tree_one rfl rfl ?_
                go_simp
                obtain ⟨w9, hw9⟩ : ∃ w9, w9 = w8.alloc (.cells #[.int .i64 0, .int .i64 0, .int .i64 0, .int .i64 0, .int .i64 0, .int .i64 0, .int .i64 0, .bool false, .string ⟨#[]⟩, .slice none 0 0] 26) := ⟨_, rfl⟩
                obtain ⟨G, hG⟩ : ∃ G, G = w8.heap.size := ⟨_, rfl⟩
                rw [← hw9, ← hG]
                have hb9 : Below w8.heap.size w8 w9 := by rw [hw9]; exact balloc (Below.refl _ _) _
                have hG9 : Blk w9 G 26 (oc oz) := by
                  rw [hw9, hG]
                  have := blk_new w8 (oc oz) 26
                  simpa [oc, oz] using this
                have HTG : Hid (w9.there G 0 10) := hG9.there 0 10 (Nat.le_refl _)
                have HX9 : Hid (Blk w9 B0 26 [.int .i64 qk, .int .i64 qa1, .int .i64 qa2, .int .i64 qn1, .int .i64 qn2, .int .i64 qp1, .int .i64 qp2, .bool qd, .string qs, .slice qva qvn qvc]) := HX8.out.below hb9
                have HGN : Hid (w1.heap.size ≤ G ∧ B0 ≠ G) := (show _ ∧ _ from by rw [hG]; exact ⟨HBE.out.size, by have := HX8.out.lt; omega⟩)
                have HBE9 : Hid (Below w1.heap.size w1 w9) := bnext HBE.out hb9
                refine ⟨⟨⟨w9, HX9.out⟩, rfl⟩, ?_⟩
                clear hw9 hG hb9 hG9
                go_simp
                obtain ⟨w10, hw10⟩ : ∃ w10, w10 = w9.setCells G 0 (oc (⟨yk, (ya1, ya2), (yn1, yn2), (yp1, yp2), yd, ys, yva, yvn, yvc, ([] : List Int)⟩ : OpT)) := ⟨_, rfl⟩
                have hg10 : w9.grownBy w10 (some G) := by rw [hw10]; exact grown_setCells _ _ _ _
                have HX10 : Hid (Blk w10 B0 26 [.int .i64 qk, .int .i64 qa1, .int .i64 qa2, .int .i64 qn1, .int .i64 qn2, .int .i64 qp1, .int .i64 qp2, .bool qd, .string qs, .slice qva qvn qvc]) := HX9.out.past hg10 HGN.out.2
                have HBE10 : Hid (Below w1.heap.size w1 w10) := bgrown HBE9.out HGN.out.1 hg10
                have HW10 : Hid (w10 = w9.setCells G 0 (oc (⟨yk, (ya1, ya2), (yn1, yn2), (yp1, yp2), yd, ys, yva, yvn, yvc, ([] : List Int)⟩ : OpT))) := hw10
                clear hw10 hg10
                refine tree_one rfl rfl ?_
                refine wp_skip (exec_store26 (q := (⟨yk, (ya1, ya2), (yn1, yn2), (yp1, yp2), yd, ys, yva, yvn, yvc, ([] : List Int)⟩ : OpT)) (.tmp 13) (.tmp 71) rfl rfl rfl HTG.out) ?_
                rw [← HW10.out]
                refine ⟨⟨⟨w10, HX10.out⟩, rfl⟩, ?_⟩
                go_simp
                refine tree_still rfl rfl ?_; go_big_quiet_step (fail); refine wpQuiet_nil ?_
                refine tree_done ?_
                clear p1 p2 ne
                go_wp2
                go_meet
                exact ⟨⟨k8, rfl, HK8.out⟩, HBE10⟩
              · go_simp
                obtain ⟨w9, hw9⟩ : ∃ w9, w9 = wd.alloc (.cells #[.int .i64 0, .int .i64 0, .int .i64 0, .int .i64 0, .int .i64 0, .int .i64 0, .int .i64 0, .bool false, .string ⟨#[]⟩, .slice none 0 0] 26) := ⟨_, rfl⟩
                obtain ⟨G, hG⟩ : ∃ G, G = wd.heap.size := ⟨_, rfl⟩
                rw [← hw9, ← hG]
                have hb9 : Below wd.heap.size wd w9 := by rw [hw9]; exact balloc (Below.refl _ _) _
                have HG0 : Hid (Blk w9 G 26 (oc oz)) := by
                  show Blk _ _ _ _
                  rw [hw9, hG]
                  have := blk_new wd (oc oz) 26
                  simpa [oc, oz] using this
                have HX0 : Hid (Blk w9 B0 26 [.int .i64 qk, .int .i64 qa1, .int .i64 qa2, .int .i64 qn1, .int .i64 qn2, .int .i64 qp1, .int .i64 qp2, .bool qd, .string qs, .slice qva qvn qvc]) := HXd.out.below hb9
                have HGN : Hid (w1.heap.size ≤ G ∧ B0 ≠ G) := (show _ ∧ _ from by rw [hG]; exact ⟨(bnext HB7.out HBd.out).size, by have := HXd.out.lt; omega⟩)
                have HB79 : Hid (Below w7.heap.size w7 w9) := bnext HBd.out hb9
                refine ⟨⟨⟨w9, HX0.out⟩, rfl⟩, ?_⟩
                clear hw9 hG hb9
                refine tree_one rfl rfl ?_
                go_simp
                refine (HRC.out w9 HB79.out).mono ?_
                rintro r w8 ⟨yk, ya1, ya2, yn1, yn2, yp1, yp2, yd, ys, yva, yvn, yvc, k8, rfl, h8, hb8⟩
                have HK8 : Hid (k8 ≠ 0) := (show k8 ≠ 0 from by rw [h8.out.1]; exact HCU.out)
                have HX8 : Hid (Blk w8 B0 26 [.int .i64 qk, .int .i64 qa1, .int .i64 qa2, .int .i64 qn1, .int .i64 qn2, .int .i64 qp1, .int .i64 qp2, .bool qd, .string qs, .slice qva qvn qvc]) := HX0.out.below hb8
                have HTG : Hid (w8.there G 0 10) := (HG0.out.below hb8).there 0 10 (Nat.le_refl _)
                have HBE9 : Hid (Below w1.heap.size w1 w8) := bnext HB7.out (bnext HB79.out hb8)
                have HX9 : Hid (Blk w8 B0 26 [.int .i64 qk, .int .i64 qa1, .int .i64 qa2, .int .i64 qn1, .int .i64 qn2, .int .i64 qp1, .int .i64 qp2, .bool qd, .string qs, .slice qva qvn qvc]) := HX8.out
                refine ⟨⟨⟨w8, HX8.out⟩, rfl⟩, ?_⟩
                clear h8 hb8
                go_simp
                iterate 3 (refine tree_still rfl rfl ?_; go_big_quiet_step (fail); refine wpQuiet_nil ?_)
                obtain ⟨w10, hw10⟩ : ∃ w10, w10 = w8.setCells G 0 (oc (⟨yk, (ya1, ya2), (yn1, yn2), (yp1, yp2), yd, ys, yva, yvn, yvc, ([] : List Int)⟩ : OpT)) := ⟨_, rfl⟩
                have hg10 : w8.grownBy w10 (some G) := by rw [hw10]; exact grown_setCells _ _ _ _
                have HX10 : Hid (Blk w10 B0 26 [.int .i64 qk, .int .i64 qa1, .int .i64 qa2, .int .i64 qn1, .int .i64 qn2, .int .i64 qp1, .int .i64 qp2, .bool qd, .string qs, .slice qva qvn qvc]) := HX9.out.past hg10 HGN.out.2
                have HBE10 : Hid (Below w1.heap.size w1 w10) := bgrown HBE9.out HGN.out.1 hg10
                have HW10 : Hid (w10 = w8.setCells G 0 (oc (⟨yk, (ya1, ya2), (yn1, yn2), (yp1, yp2), yd, ys, yva, yvn, yvc, ([] : List Int)⟩ : OpT))) := hw10
                clear hw10 hg10
                refine tree_one rfl rfl ?_
                refine wp_skip (exec_store26 (q := (⟨yk, (ya1, ya2), (yn1, yn2), (yp1, yp2), yd, ys, yva, yvn, yvc, ([] : List Int)⟩ : OpT)) (.tmp 13) (.tmp 71) rfl rfl rfl HTG.out) ?_
                rw [← HW10.out]
                refine ⟨⟨⟨w10, HX10.out⟩, rfl⟩, ?_⟩
                go_simp
                refine tree_still rfl rfl ?_; go_big_quiet_step (fail); refine wpQuiet_nil ?_
                refine tree_done ?_
                clear p1 p2 ne
                go_wp2
                go_meet
                exact ⟨⟨k8, rfl, HK8.out⟩, HBE10⟩
            case rest =>
              obtain ⟨⟨k8, rfl, hk8⟩, HB8⟩ := hcut
              have hkb : (k8 == 0) = false := by simp [hk8]
              clear HRC HCU
              go_upto_region 14 with fail
              have HRA : Hid (Calls Try.prog 12 #[.slice ab lb.length nb, .agg #[.int .i64 t1, .int .i64 t2]] wc (RdAns wc lb (t1, t2))) := readAns (HVB.out _ HB8.out) (by omega)
              have T1 := HT.out _ HB8.out
              have g0 := T1.cell 0 _ rfl
              have g1 := T1.cell 1 _ rfl
              clear T1
              go_upto_region 15 with (go_at_call 12; go_must (refine HRA.out.mono ?_; rintro r w5 ⟨yk, ya1, ya2, yn1, yn2, yp1, yp2, yd, ys, yva, yvn, yvc, k5, rfl, h5, hb5⟩; have HB5 : Hid (Below w1.heap.size w1 w5) := bnext HB8.out hb5; clear hb5))
              have HY : Hid (k5 = (readM lb (t1, t2)).2 ∧ (∃ va vc, (⟨yk, (ya1, ya2), (yn1, yn2), (yp1, yp2), yd, ys, yva, yvn, yvc, (readM lb (t1, t2)).1.b⟩ : OpT) = qv (readM lb (t1, t2)).1 va vc) ∧ Rd w5 (.slice yva yvn yvc) (readM lb (t1, t2)).1.b) := h5
              clear h5 g0 g1
              obtain ⟨w6, hw6⟩ : ∃ w6, w6 = w5.alloc (.cells #[.int .i64 yk, .int .i64 ya1, .int .i64 ya2, .int .i64 yn1, .int .i64 yn2, .int .i64 yp1, .int .i64 yp2, .bool yd, .string ys, .slice yva yvn yvc] 26) := ⟨_, rfl⟩
              obtain ⟨D, hD⟩ : ∃ D, D = w5.heap.size := ⟨_, rfl⟩
              rw [← hw6, ← hD]
              have HB6 : Hid (Below w5.heap.size w5 w6) := by show Below _ _ _; rw [hw6]; exact balloc (Below.refl _ _) _
              have HD6 : Hid (Blk w6 D 26 [.int .i64 yk, .int .i64 ya1, .int .i64 ya2, .int .i64 yn1, .int .i64 yn2, .int .i64 yp1, .int .i64 yp2, .bool yd, .string ys, .slice yva yvn yvc]) := by show Blk _ _ _ _; rw [hw6, hD]; exact blk_new w5 [.int .i64 yk, .int .i64 ya1, .int .i64 ya2, .int .i64 yn1, .int .i64 yn2, .int .i64 yp1, .int .i64 yp2, .bool yd, .string ys, .slice yva yvn yvc] 26
              have HB61 : Hid (Below w1.heap.size w1 w6) := bnext HB5.out HB6.out
              have HYR : Hid (Rd w6 (.slice yva yvn yvc) (readM lb (t1, t2)).1.b) := HY.out.2.2.below HB6.out
              clear hw6 hD
              have X6 := HD6.out
              have e0 := X6.cell 0 _ rfl; have e1 := X6.cell 1 _ rfl; have e2 := X6.cell 2 _ rfl; have e3 := X6.cell 3 _ rfl; have e4 := X6.cell 4 _ rfl; have e5 := X6.cell 5 _ rfl; have e6 := X6.cell 6 _ rfl; have e7 := X6.cell 7 _ rfl; have e8 := X6.cell 8 _ rfl; have e9 := X6.cell 9 _ rfl
              clear X6
              by_cases hk : k5 = 0
              · subst hk
                have HBK := readM_back HQ.out.2.2.2.2 HQ.out.2.2.2.1 HY.out.1.symm
                have HPV : Hid (QOk (⟨yk, (ya1, ya2), (yn1, yn2), (yp1, yp2), yd, ys, yva, yvn, yvc, (readM lb (t1, t2)).1.b⟩ : OpT) ∧ rightO (⟨yk, (ya1, ya2), (yn1, yn2), (yp1, yp2), yd, ys, yva, yvn, yvc, (readM lb (t1, t2)).1.b⟩ : OpT) = true ∧ textL (⟨yk, (ya1, ya2), (yn1, yn2), (yp1, yp2), yd, ys, yva, yvn, yvc, (readM lb (t1, t2)).1.b⟩ : OpT) = lb ∧ ya1 = t1 ∧ ya2 = t2 ∧ ys.size ≤ 400) := by
                  obtain ⟨va, vc, e⟩ := HY.out.2.1
                  obtain ⟨h1, h2, h3⟩ := HBK
                  have ea : (ya1, ya2) = (t1, t2) := by have := congrArg OpT.a e; exact this.trans h1.at_
                  have ek : yk = (readM lb (t1, t2)).1.k := congrArg OpT.k e
                  have en : (yn1, yn2) = (readM lb (t1, t2)).1.n := congrArg OpT.n e
                  have ep : (yp1, yp2) = (readM lb (t1, t2)).1.p := congrArg OpT.p e
                  have es : ys = (readM lb (t1, t2)).1.s := congrArg OpT.s e
                  refine ⟨⟨?_, ?_, ?_, ?_⟩, ?_, ?_, congrArg Prod.fst ea, congrArg Prod.snd ea, ?_⟩
                  · show I64 yk; have := h1.k; unfold I64; omega
                  · show SOk (ya1, ya2); rw [ea]; exact HQ.out.2.2.2.1
                  · show SOk (yn1, yn2); rw [en]; exact h1.n
                  · show SOk (yp1, yp2); rw [ep]; exact h1.p
                  · rw [e]; exact (right_qv _ _ _).trans h2
                  · rw [e]; exact h3
                  · rw [es]; have := h1.s; omega
                have hyb : (readM lb (t1, t2)).1.b.length ≤ 400 := HBK.1.b
                have HT6 : Hid (Calls Try.prog 10 #[.agg #[.int .i64 yk, .int .i64 ya1, .int .i64 ya2, .int .i64 yn1, .int .i64 yn2, .int .i64 yp1, .int .i64 yp2, .bool yd, .string ys, .slice yva yvn yvc]] w6 fun e w'' => ∃ v, e = .returned (.tuple #[v, .int .i64 0]) ∧ Own w6.heap.size 5 w'' v lb ∧ Below w6.heap.size w6 w'') := by
                  have := text10_ok (q := (⟨yk, (ya1, ya2), (yn1, yn2), (yp1, yp2), yd, ys, yva, yvn, yvc, (readM lb (t1, t2)).1.b⟩ : OpT)) (w := w6) HPV.out.1 HYR.out HPV.out.2.2.2.2.2 hyb HPV.out.2.1
                  rw [HPV.out.2.2.1] at this
                  exact this
                have hya1 := HPV.out.2.2.2.1
                have hya2 := HPV.out.2.2.2.2.1
                subst hya1 hya2
                clear HBK hyb HY HRA
                go_wp2_with (first
                  | (go_at_call 10; go_must (refine HT6.out.mono ?_; rintro r w7 ⟨v7, rfl, ho7, hb7⟩; have HO7 : Hid (Rd w7 v7 lb) := ho7.rd; have HB7 : Hid (Below w1.heap.size w1 w7) := bnext HB61.out hb7; have HD7 : Hid (Blk w7 D 26 [.int .i64 yk, .int .i64 ya1, .int .i64 ya2, .int .i64 yn1, .int .i64 yn2, .int .i64 yp1, .int .i64 yp2, .bool yd, .string ys, .slice yva yvn yvc]) := HD6.out.below hb7; have HS7 : Hid (Calls Try.prog 18 #[v7, .slice ab lb.length nb] w7 fun e w'' => e = .returned (.bool true) ∧ Below w7.heap.size w7 w'') := same18 HO7.out (HVB.out _ HB7.out); clear ho7 hb7))
                  | (go_at_call 18; go_must (refine HS7.out.mono ?_; rintro r w8 ⟨rfl, hb8⟩; have HB8 : Hid (Below w1.heap.size w1 w8) := bnext HB7.out hb8; have X8 := HD7.out.below hb8; have m1 := X8.cell 1 _ rfl; have m2 := X8.cell 2 _ rfl; have T8 := HT.out w8 HB8.out; have m3 := T8.cell 0 _ rfl; have m4 := T8.cell 1 _ rfl; clear X8 T8 hb8))
                  | (go_at_call 9; go_must (refine (HAL.out _).mono ?_; rintro r w9 ⟨rfl, hb9⟩; have HB9 : Hid (Below w1.heap.size w1 w9) := bnext HB8.out hb9)))
                go_ret
                exact ⟨rfl, bnext HB1.out HB9.out⟩
              · have hkb : (k5 != 0) = true := by simpa using hk
                have HZ : Hid (∃ va vc, (⟨yk, (ya1, ya2), (yn1, yn2), (yp1, yp2), yd, ys, yva, yvn, yvc, (readM lb (t1, t2)).1.b⟩ : OpT) = qv oz va vc) := by
                  show ∃ _, _
                  have h0 := readM_bad (l := lb) (t := (t1, t2)) (by rw [← HY.out.1]; exact hk)
                  obtain ⟨va, vc, e⟩ := HY.out.2.1
                  exact ⟨va, vc, by rw [e, h0]⟩
                have HS6 : Hid (Calls Try.prog 23 #[.agg #[.int .i64 yk, .int .i64 ya1, .int .i64 ya2, .int .i64 yn1, .int .i64 yn2, .int .i64 yp1, .int .i64 yp2, .bool yd, .string ys, .slice yva yvn yvc], .agg #[.int .i64 0, .int .i64 0, .int .i64 0, .int .i64 0, .int .i64 0, .int .i64 0, .int .i64 0, .bool false, .string ⟨#[]⟩, .slice none 0 0]] w6 fun e w'' => e = .returned (.bool true) ∧ Below w6.heap.size w6 w'') := by
                  show Calls _ _ _ _ _
                  have := same23 (q := (⟨yk, (ya1, ya2), (yn1, yn2), (yp1, yp2), yd, ys, yva, yvn, yvc, (readM lb (t1, t2)).1.b⟩ : OpT)) (r := oz) (w := w6) HYR.out (rd_nil w6)
                  have e2 : sameO (⟨yk, (ya1, ya2), (yn1, yn2), (yp1, yp2), yd, ys, yva, yvn, yvc, (readM lb (t1, t2)).1.b⟩ : OpT) oz = true := by
                    obtain ⟨va, vc, e⟩ := HZ.out
                    rw [e]
                    unfold sameO
                    exact decide_eq_true ⟨rfl, rfl, rfl, rfl, rfl, rfl, rfl⟩
                  rw [e2] at this
                  exact this
                clear HY HRA HZ
                go_wp2_with (first
                  | (go_at_call 23; go_must (refine HS6.out.mono ?_; rintro r w7 ⟨rfl, hb7⟩; have HB7 : Hid (Below w1.heap.size w1 w7) := bnext HB61.out hb7; clear hb7))
                  | (go_at_call 9; go_must (refine (HAL.out _).mono ?_; rintro r w9 ⟨rfl, hb9⟩; have HB9 : Hid (Below w1.heap.size w1 w9) := bnext HB7.out hb9)))
                go_ret
                exact ⟨rfl, bnext HB1.out HB9.out⟩
          · have hcl' : ¬ (c < (TL.length : Int)) := hcl
            go_upto_region 14 with fail
            have HRA : Hid (Calls Try.prog 12 #[.slice ab lb.length nb, .agg #[.int .i64 t1, .int .i64 t2]] w7 (RdAns w7 lb (t1, t2))) := readAns (HVB.out _ HB7.out) (by omega)
            have T1 := HT.out _ HB7.out
            have g0 := T1.cell 0 _ rfl
            have g1 := T1.cell 1 _ rfl
            clear T1
            go_upto_region 15 with (go_at_call 12; go_must (refine HRA.out.mono ?_; rintro r w5 ⟨yk, ya1, ya2, yn1, yn2, yp1, yp2, yd, ys, yva, yvn, yvc, k5, rfl, h5, hb5⟩; have HB5 : Hid (Below w1.heap.size w1 w5) := bnext HB7.out hb5; clear hb5))
            have HY : Hid (k5 = (readM lb (t1, t2)).2 ∧ (∃ va vc, (⟨yk, (ya1, ya2), (yn1, yn2), (yp1, yp2), yd, ys, yva, yvn, yvc, (readM lb (t1, t2)).1.b⟩ : OpT) = qv (readM lb (t1, t2)).1 va vc) ∧ Rd w5 (.slice yva yvn yvc) (readM lb (t1, t2)).1.b) := h5
            clear h5 g0 g1
            obtain ⟨w6, hw6⟩ : ∃ w6, w6 = w5.alloc (.cells #[.int .i64 yk, .int .i64 ya1, .int .i64 ya2, .int .i64 yn1, .int .i64 yn2, .int .i64 yp1, .int .i64 yp2, .bool yd, .string ys, .slice yva yvn yvc] 26) := ⟨_, rfl⟩
            obtain ⟨D, hD⟩ : ∃ D, D = w5.heap.size := ⟨_, rfl⟩
            rw [← hw6, ← hD]
            have HB6 : Hid (Below w5.heap.size w5 w6) := by show Below _ _ _; rw [hw6]; exact balloc (Below.refl _ _) _
            have HD6 : Hid (Blk w6 D 26 [.int .i64 yk, .int .i64 ya1, .int .i64 ya2, .int .i64 yn1, .int .i64 yn2, .int .i64 yp1, .int .i64 yp2, .bool yd, .string ys, .slice yva yvn yvc]) := by show Blk _ _ _ _; rw [hw6, hD]; exact blk_new w5 [.int .i64 yk, .int .i64 ya1, .int .i64 ya2, .int .i64 yn1, .int .i64 yn2, .int .i64 yp1, .int .i64 yp2, .bool yd, .string ys, .slice yva yvn yvc] 26
            have HB61 : Hid (Below w1.heap.size w1 w6) := bnext HB5.out HB6.out
            have HYR : Hid (Rd w6 (.slice yva yvn yvc) (readM lb (t1, t2)).1.b) := HY.out.2.2.below HB6.out
            clear hw6 hD
            have X6 := HD6.out
            have e0 := X6.cell 0 _ rfl; have e1 := X6.cell 1 _ rfl; have e2 := X6.cell 2 _ rfl; have e3 := X6.cell 3 _ rfl; have e4 := X6.cell 4 _ rfl; have e5 := X6.cell 5 _ rfl; have e6 := X6.cell 6 _ rfl; have e7 := X6.cell 7 _ rfl; have e8 := X6.cell 8 _ rfl; have e9 := X6.cell 9 _ rfl
            clear X6
            by_cases hk : k5 = 0
            · subst hk
              have HBK := readM_back HQ.out.2.2.2.2 HQ.out.2.2.2.1 HY.out.1.symm
              have HPV : Hid (QOk (⟨yk, (ya1, ya2), (yn1, yn2), (yp1, yp2), yd, ys, yva, yvn, yvc, (readM lb (t1, t2)).1.b⟩ : OpT) ∧ rightO (⟨yk, (ya1, ya2), (yn1, yn2), (yp1, yp2), yd, ys, yva, yvn, yvc, (readM lb (t1, t2)).1.b⟩ : OpT) = true ∧ textL (⟨yk, (ya1, ya2), (yn1, yn2), (yp1, yp2), yd, ys, yva, yvn, yvc, (readM lb (t1, t2)).1.b⟩ : OpT) = lb ∧ ya1 = t1 ∧ ya2 = t2 ∧ ys.size ≤ 400) := by
                obtain ⟨va, vc, e⟩ := HY.out.2.1
                obtain ⟨h1, h2, h3⟩ := HBK
                have ea : (ya1, ya2) = (t1, t2) := by have := congrArg OpT.a e; exact this.trans h1.at_
                have ek : yk = (readM lb (t1, t2)).1.k := congrArg OpT.k e
                have en : (yn1, yn2) = (readM lb (t1, t2)).1.n := congrArg OpT.n e
                have ep : (yp1, yp2) = (readM lb (t1, t2)).1.p := congrArg OpT.p e
                have es : ys = (readM lb (t1, t2)).1.s := congrArg OpT.s e
                refine ⟨⟨?_, ?_, ?_, ?_⟩, ?_, ?_, congrArg Prod.fst ea, congrArg Prod.snd ea, ?_⟩
                · show I64 yk; have := h1.k; unfold I64; omega
                · show SOk (ya1, ya2); rw [ea]; exact HQ.out.2.2.2.1
                · show SOk (yn1, yn2); rw [en]; exact h1.n
                · show SOk (yp1, yp2); rw [ep]; exact h1.p
                · rw [e]; exact (right_qv _ _ _).trans h2
                · rw [e]; exact h3
                · rw [es]; have := h1.s; omega
              have hyb : (readM lb (t1, t2)).1.b.length ≤ 400 := HBK.1.b
              have HT6 : Hid (Calls Try.prog 10 #[.agg #[.int .i64 yk, .int .i64 ya1, .int .i64 ya2, .int .i64 yn1, .int .i64 yn2, .int .i64 yp1, .int .i64 yp2, .bool yd, .string ys, .slice yva yvn yvc]] w6 fun e w'' => ∃ v, e = .returned (.tuple #[v, .int .i64 0]) ∧ Own w6.heap.size 5 w'' v lb ∧ Below w6.heap.size w6 w'') := by
                have := text10_ok (q := (⟨yk, (ya1, ya2), (yn1, yn2), (yp1, yp2), yd, ys, yva, yvn, yvc, (readM lb (t1, t2)).1.b⟩ : OpT)) (w := w6) HPV.out.1 HYR.out HPV.out.2.2.2.2.2 hyb HPV.out.2.1
                rw [HPV.out.2.2.1] at this
                exact this
              have hya1 := HPV.out.2.2.2.1
              have hya2 := HPV.out.2.2.2.2.1
              subst hya1 hya2
              clear HBK hyb HY HRA
              go_wp2_with (first
                | (go_at_call 10; go_must (refine HT6.out.mono ?_; rintro r w7 ⟨v7, rfl, ho7, hb7⟩; have HO7 : Hid (Rd w7 v7 lb) := ho7.rd; have HB7 : Hid (Below w1.heap.size w1 w7) := bnext HB61.out hb7; have HD7 : Hid (Blk w7 D 26 [.int .i64 yk, .int .i64 ya1, .int .i64 ya2, .int .i64 yn1, .int .i64 yn2, .int .i64 yp1, .int .i64 yp2, .bool yd, .string ys, .slice yva yvn yvc]) := HD6.out.below hb7; have HS7 : Hid (Calls Try.prog 18 #[v7, .slice ab lb.length nb] w7 fun e w'' => e = .returned (.bool true) ∧ Below w7.heap.size w7 w'') := same18 HO7.out (HVB.out _ HB7.out); clear ho7 hb7))
                | (go_at_call 18; go_must (refine HS7.out.mono ?_; rintro r w8 ⟨rfl, hb8⟩; have HB8 : Hid (Below w1.heap.size w1 w8) := bnext HB7.out hb8; have X8 := HD7.out.below hb8; have m1 := X8.cell 1 _ rfl; have m2 := X8.cell 2 _ rfl; have T8 := HT.out w8 HB8.out; have m3 := T8.cell 0 _ rfl; have m4 := T8.cell 1 _ rfl; clear X8 T8 hb8))
                | (go_at_call 9; go_must (refine (HAL.out _).mono ?_; rintro r w9 ⟨rfl, hb9⟩; have HB9 : Hid (Below w1.heap.size w1 w9) := bnext HB8.out hb9)))
              go_ret
              exact ⟨rfl, bnext HB1.out HB9.out⟩
            · have hkb : (k5 != 0) = true := by simpa using hk
              have HZ : Hid (∃ va vc, (⟨yk, (ya1, ya2), (yn1, yn2), (yp1, yp2), yd, ys, yva, yvn, yvc, (readM lb (t1, t2)).1.b⟩ : OpT) = qv oz va vc) := by
                show ∃ _, _
                have h0 := readM_bad (l := lb) (t := (t1, t2)) (by rw [← HY.out.1]; exact hk)
                obtain ⟨va, vc, e⟩ := HY.out.2.1
                exact ⟨va, vc, by rw [e, h0]⟩
              have HS6 : Hid (Calls Try.prog 23 #[.agg #[.int .i64 yk, .int .i64 ya1, .int .i64 ya2, .int .i64 yn1, .int .i64 yn2, .int .i64 yp1, .int .i64 yp2, .bool yd, .string ys, .slice yva yvn yvc], .agg #[.int .i64 0, .int .i64 0, .int .i64 0, .int .i64 0, .int .i64 0, .int .i64 0, .int .i64 0, .bool false, .string ⟨#[]⟩, .slice none 0 0]] w6 fun e w'' => e = .returned (.bool true) ∧ Below w6.heap.size w6 w'') := by
                show Calls _ _ _ _ _
                have := same23 (q := (⟨yk, (ya1, ya2), (yn1, yn2), (yp1, yp2), yd, ys, yva, yvn, yvc, (readM lb (t1, t2)).1.b⟩ : OpT)) (r := oz) (w := w6) HYR.out (rd_nil w6)
                have e2 : sameO (⟨yk, (ya1, ya2), (yn1, yn2), (yp1, yp2), yd, ys, yva, yvn, yvc, (readM lb (t1, t2)).1.b⟩ : OpT) oz = true := by
                  obtain ⟨va, vc, e⟩ := HZ.out
                  rw [e]
                  unfold sameO
                  exact decide_eq_true ⟨rfl, rfl, rfl, rfl, rfl, rfl, rfl⟩
                rw [e2] at this
                exact this
              clear HY HRA HZ
              go_wp2_with (first
                | (go_at_call 23; go_must (refine HS6.out.mono ?_; rintro r w7 ⟨rfl, hb7⟩; have HB7 : Hid (Below w1.heap.size w1 w7) := bnext HB61.out hb7; clear hb7))
                | (go_at_call 9; go_must (refine (HAL.out _).mono ?_; rintro r w9 ⟨rfl, hb9⟩; have HB9 : Hid (Below w1.heap.size w1 w9) := bnext HB7.out hb9)))
              go_ret
              exact ⟨rfl, bnext HB1.out HB9.out⟩
        · have hc0' : ¬ (0 ≤ c) := hc0
          go_upto_region 14 with fail
          have HRA : Hid (Calls Try.prog 12 #[.slice ab lb.length nb, .agg #[.int .i64 t1, .int .i64 t2]] w7 (RdAns w7 lb (t1, t2))) := readAns (HVB.out _ HB7.out) (by omega)
          have T1 := HT.out _ HB7.out
          have g0 := T1.cell 0 _ rfl
          have g1 := T1.cell 1 _ rfl
          clear T1
          go_upto_region 15 with (go_at_call 12; go_must (refine HRA.out.mono ?_; rintro r w5 ⟨yk, ya1, ya2, yn1, yn2, yp1, yp2, yd, ys, yva, yvn, yvc, k5, rfl, h5, hb5⟩; have HB5 : Hid (Below w1.heap.size w1 w5) := bnext HB7.out hb5; clear hb5))
          have HY : Hid (k5 = (readM lb (t1, t2)).2 ∧ (∃ va vc, (⟨yk, (ya1, ya2), (yn1, yn2), (yp1, yp2), yd, ys, yva, yvn, yvc, (readM lb (t1, t2)).1.b⟩ : OpT) = qv (readM lb (t1, t2)).1 va vc) ∧ Rd w5 (.slice yva yvn yvc) (readM lb (t1, t2)).1.b) := h5
          clear h5 g0 g1
          obtain ⟨w6, hw6⟩ : ∃ w6, w6 = w5.alloc (.cells #[.int .i64 yk, .int .i64 ya1, .int .i64 ya2, .int .i64 yn1, .int .i64 yn2, .int .i64 yp1, .int .i64 yp2, .bool yd, .string ys, .slice yva yvn yvc] 26) := ⟨_, rfl⟩
          obtain ⟨D, hD⟩ : ∃ D, D = w5.heap.size := ⟨_, rfl⟩
          rw [← hw6, ← hD]
          have HB6 : Hid (Below w5.heap.size w5 w6) := by show Below _ _ _; rw [hw6]; exact balloc (Below.refl _ _) _
          have HD6 : Hid (Blk w6 D 26 [.int .i64 yk, .int .i64 ya1, .int .i64 ya2, .int .i64 yn1, .int .i64 yn2, .int .i64 yp1, .int .i64 yp2, .bool yd, .string ys, .slice yva yvn yvc]) := by show Blk _ _ _ _; rw [hw6, hD]; exact blk_new w5 [.int .i64 yk, .int .i64 ya1, .int .i64 ya2, .int .i64 yn1, .int .i64 yn2, .int .i64 yp1, .int .i64 yp2, .bool yd, .string ys, .slice yva yvn yvc] 26
          have HB61 : Hid (Below w1.heap.size w1 w6) := bnext HB5.out HB6.out
          have HYR : Hid (Rd w6 (.slice yva yvn yvc) (readM lb (t1, t2)).1.b) := HY.out.2.2.below HB6.out
          clear hw6 hD
          have X6 := HD6.out
          have e0 := X6.cell 0 _ rfl; have e1 := X6.cell 1 _ rfl; have e2 := X6.cell 2 _ rfl; have e3 := X6.cell 3 _ rfl; have e4 := X6.cell 4 _ rfl; have e5 := X6.cell 5 _ rfl; have e6 := X6.cell 6 _ rfl; have e7 := X6.cell 7 _ rfl; have e8 := X6.cell 8 _ rfl; have e9 := X6.cell 9 _ rfl
          clear X6
          by_cases hk : k5 = 0
          · subst hk
            have HBK := readM_back HQ.out.2.2.2.2 HQ.out.2.2.2.1 HY.out.1.symm
            have HPV : Hid (QOk (⟨yk, (ya1, ya2), (yn1, yn2), (yp1, yp2), yd, ys, yva, yvn, yvc, (readM lb (t1, t2)).1.b⟩ : OpT) ∧ rightO (⟨yk, (ya1, ya2), (yn1, yn2), (yp1, yp2), yd, ys, yva, yvn, yvc, (readM lb (t1, t2)).1.b⟩ : OpT) = true ∧ textL (⟨yk, (ya1, ya2), (yn1, yn2), (yp1, yp2), yd, ys, yva, yvn, yvc, (readM lb (t1, t2)).1.b⟩ : OpT) = lb ∧ ya1 = t1 ∧ ya2 = t2 ∧ ys.size ≤ 400) := by
              obtain ⟨va, vc, e⟩ := HY.out.2.1
              obtain ⟨h1, h2, h3⟩ := HBK
              have ea : (ya1, ya2) = (t1, t2) := by have := congrArg OpT.a e; exact this.trans h1.at_
              have ek : yk = (readM lb (t1, t2)).1.k := congrArg OpT.k e
              have en : (yn1, yn2) = (readM lb (t1, t2)).1.n := congrArg OpT.n e
              have ep : (yp1, yp2) = (readM lb (t1, t2)).1.p := congrArg OpT.p e
              have es : ys = (readM lb (t1, t2)).1.s := congrArg OpT.s e
              refine ⟨⟨?_, ?_, ?_, ?_⟩, ?_, ?_, congrArg Prod.fst ea, congrArg Prod.snd ea, ?_⟩
              · show I64 yk; have := h1.k; unfold I64; omega
              · show SOk (ya1, ya2); rw [ea]; exact HQ.out.2.2.2.1
              · show SOk (yn1, yn2); rw [en]; exact h1.n
              · show SOk (yp1, yp2); rw [ep]; exact h1.p
              · rw [e]; exact (right_qv _ _ _).trans h2
              · rw [e]; exact h3
              · rw [es]; have := h1.s; omega
            have hyb : (readM lb (t1, t2)).1.b.length ≤ 400 := HBK.1.b
            have HT6 : Hid (Calls Try.prog 10 #[.agg #[.int .i64 yk, .int .i64 ya1, .int .i64 ya2, .int .i64 yn1, .int .i64 yn2, .int .i64 yp1, .int .i64 yp2, .bool yd, .string ys, .slice yva yvn yvc]] w6 fun e w'' => ∃ v, e = .returned (.tuple #[v, .int .i64 0]) ∧ Own w6.heap.size 5 w'' v lb ∧ Below w6.heap.size w6 w'') := by
              have := text10_ok (q := (⟨yk, (ya1, ya2), (yn1, yn2), (yp1, yp2), yd, ys, yva, yvn, yvc, (readM lb (t1, t2)).1.b⟩ : OpT)) (w := w6) HPV.out.1 HYR.out HPV.out.2.2.2.2.2 hyb HPV.out.2.1
              rw [HPV.out.2.2.1] at this
              exact this
            have hya1 := HPV.out.2.2.2.1
            have hya2 := HPV.out.2.2.2.2.1
            subst hya1 hya2
            clear HBK hyb HY HRA
            go_wp2_with (first
              | (go_at_call 10; go_must (refine HT6.out.mono ?_; rintro r w7 ⟨v7, rfl, ho7, hb7⟩; have HO7 : Hid (Rd w7 v7 lb) := ho7.rd; have HB7 : Hid (Below w1.heap.size w1 w7) := bnext HB61.out hb7; have HD7 : Hid (Blk w7 D 26 [.int .i64 yk, .int .i64 ya1, .int .i64 ya2, .int .i64 yn1, .int .i64 yn2, .int .i64 yp1, .int .i64 yp2, .bool yd, .string ys, .slice yva yvn yvc]) := HD6.out.below hb7; have HS7 : Hid (Calls Try.prog 18 #[v7, .slice ab lb.length nb] w7 fun e w'' => e = .returned (.bool true) ∧ Below w7.heap.size w7 w'') := same18 HO7.out (HVB.out _ HB7.out); clear ho7 hb7))
              | (go_at_call 18; go_must (refine HS7.out.mono ?_; rintro r w8 ⟨rfl, hb8⟩; have HB8 : Hid (Below w1.heap.size w1 w8) := bnext HB7.out hb8; have X8 := HD7.out.below hb8; have m1 := X8.cell 1 _ rfl; have m2 := X8.cell 2 _ rfl; have T8 := HT.out w8 HB8.out; have m3 := T8.cell 0 _ rfl; have m4 := T8.cell 1 _ rfl; clear X8 T8 hb8))
              | (go_at_call 9; go_must (refine (HAL.out _).mono ?_; rintro r w9 ⟨rfl, hb9⟩; have HB9 : Hid (Below w1.heap.size w1 w9) := bnext HB8.out hb9)))
            go_ret
            exact ⟨rfl, bnext HB1.out HB9.out⟩
          · have hkb : (k5 != 0) = true := by simpa using hk
            have HZ : Hid (∃ va vc, (⟨yk, (ya1, ya2), (yn1, yn2), (yp1, yp2), yd, ys, yva, yvn, yvc, (readM lb (t1, t2)).1.b⟩ : OpT) = qv oz va vc) := by
              show ∃ _, _
              have h0 := readM_bad (l := lb) (t := (t1, t2)) (by rw [← HY.out.1]; exact hk)
              obtain ⟨va, vc, e⟩ := HY.out.2.1
              exact ⟨va, vc, by rw [e, h0]⟩
            have HS6 : Hid (Calls Try.prog 23 #[.agg #[.int .i64 yk, .int .i64 ya1, .int .i64 ya2, .int .i64 yn1, .int .i64 yn2, .int .i64 yp1, .int .i64 yp2, .bool yd, .string ys, .slice yva yvn yvc], .agg #[.int .i64 0, .int .i64 0, .int .i64 0, .int .i64 0, .int .i64 0, .int .i64 0, .int .i64 0, .bool false, .string ⟨#[]⟩, .slice none 0 0]] w6 fun e w'' => e = .returned (.bool true) ∧ Below w6.heap.size w6 w'') := by
              show Calls _ _ _ _ _
              have := same23 (q := (⟨yk, (ya1, ya2), (yn1, yn2), (yp1, yp2), yd, ys, yva, yvn, yvc, (readM lb (t1, t2)).1.b⟩ : OpT)) (r := oz) (w := w6) HYR.out (rd_nil w6)
              have e2 : sameO (⟨yk, (ya1, ya2), (yn1, yn2), (yp1, yp2), yd, ys, yva, yvn, yvc, (readM lb (t1, t2)).1.b⟩ : OpT) oz = true := by
                obtain ⟨va, vc, e⟩ := HZ.out
                rw [e]
                unfold sameO
                exact decide_eq_true ⟨rfl, rfl, rfl, rfl, rfl, rfl, rfl⟩
              rw [e2] at this
              exact this
            clear HY HRA HZ
            go_wp2_with (first
              | (go_at_call 23; go_must (refine HS6.out.mono ?_; rintro r w7 ⟨rfl, hb7⟩; have HB7 : Hid (Below w1.heap.size w1 w7) := bnext HB61.out hb7; clear hb7))
              | (go_at_call 9; go_must (refine (HAL.out _).mono ?_; rintro r w9 ⟨rfl, hb9⟩; have HB9 : Hid (Below w1.heap.size w1 w9) := bnext HB7.out hb9)))
            go_ret
            exact ⟨rfl, bnext HB1.out HB9.out⟩
end Go.Proofs.Ytcchokedfbogfaa
