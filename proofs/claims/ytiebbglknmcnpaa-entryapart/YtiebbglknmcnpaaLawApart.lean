/-
  What EntryApart asks of the oracle alone, and its walk: right entries have one sum just if they are the same, and a signature that was made for one holds for another one just if all but Sig is the same.
-/
import Derived.Test.YtiebbglknmcnpaaAliveE
import Derived.Test.YtiebbglknmcnpaaApartF
import Derived.Test.YtiebbglknmcnpaaChain
import Derived.BigQuiet
namespace Go.Proofs.Ytiebbglknmcnpaa
set_option linter.unusedVariables false
set_option linter.unusedSimpArgs false
set_option synthInstance.maxSize 20000
set_option maxHeartbeats 4000000
set_option maxRecDepth 20000
open Classical
open Go.RowKit Go.Maps

theorem bytes_oct {e : Ent} (he : EOk e) : Oct (textL e) ∧ Oct (bytesE e) := by
  have h : Oct (textL e) := by
    unfold textL putS
    exact ((((((form_oct _).append (form_oct _)).append (form_oct _)).append ((form_oct _).append (form_oct _))).append (form_oct _)).append (form_oct _)).append he.2.2.2.2.2.2.2
  exact ⟨h, h.append (form_oct _)⟩

theorem apart_dark (e f : Ent) (v v' dv : Value) (ds : List Int) (w : World) (hd : RdU w dv ds) (hv : Rd w v e.b) (hv' : Rd w v' f.b) (h : ¬ (rightB e = true ∧ rightB f = true ∧ ds.length ≤ 50)) :
    Calls Try.prog 5 #[dv, ev e v, ev f v'] w fun r w' => r = .returned (.bool true) ∧ Below w.heap.size w w' := by
  have HV : Hid (Rd w v e.b) := hv
  have HV' : Hid (Rd w v' f.b) := hv'
  have R1 := fun w' (h : Rd w' v e.b) => rightE_any e v w' h
  have R2 := fun w' (h : Rd w' v' f.b) => rightE_any f v' w' h
  have L1 := fun w' (h : Rd w' v e.b) => light_any e v w' h
  have L2 := fun w' (h : Rd w' v' f.b) => light_any f v' w' h
  obtain ⟨_, ad, cd, rfl, hd1, hd2, _⟩ := hd
  unfold maxLen at hd2
  cases hr1 : rightB e with
  | false =>
    rw [hr1] at R1
    clear L1 L2 R2 h
    obtain ⟨a, cap, rfl⟩ := hv.len
    obtain ⟨a', cap', rfl⟩ := hv'.len
    obtain ⟨ew, ei, ep, et, eu, en, eb, eg⟩ := e
    obtain ⟨fw, fi, fp, ft, fu, fn, fb, fg⟩ := f
    unfold ev at *
    dsimp only at *
    have HR1 : Hid (∀ w', Rd w' (.slice a eb.length cap) eb → Calls Try.prog 20 #[.agg #[.int .i64 ew, .int .i64 ei, .int .u64 ep, .int .i64 et, .int .i64 eu, .int .i64 en, .slice a eb.length cap, .int .u64 eg]] w' fun r w'' => r = .returned (.bool false) ∧ Below w'.heap.size w' w'') := R1
    obtain ⟨w1, hw1⟩ : ∃ w1, w1 = (w.alloc (.cells #[.int .i64 ew, .int .i64 ei, .int .u64 ep, .int .i64 et, .int .i64 eu, .int .i64 en, .slice a eb.length cap, .int .u64 eg] 28)).alloc (.cells #[.int .i64 fw, .int .i64 fi, .int .u64 fp, .int .i64 ft, .int .i64 fu, .int .i64 fn, .slice a' fb.length cap', .int .u64 fg] 28) := ⟨_, rfl⟩
    have HB1 : Hid (Below w.heap.size w w1) := by show Below _ _ _; rw [hw1]; exact balloc (balloc (Below.refl _ _) _) _
    have HX1 : Hid (Blk w1 w.heap.size 28 [.int .i64 ew, .int .i64 ei, .int .u64 ep, .int .i64 et, .int .i64 eu, .int .i64 en, .slice a eb.length cap, .int .u64 eg]) := by show Blk _ _ _ _; rw [hw1]; exact (blk_new w [.int .i64 ew, .int .i64 ei, .int .u64 ep, .int .i64 et, .int .i64 eu, .int .i64 en, .slice a eb.length cap, .int .u64 eg] 28).alloc _
    have HY1 : Hid (Blk w1 (w.heap.size + 1) 28 [.int .i64 fw, .int .i64 fi, .int .u64 fp, .int .i64 ft, .int .i64 fu, .int .i64 fn, .slice a' fb.length cap', .int .u64 fg]) := by
      show Blk _ _ _ _
      rw [hw1]
      have := blk_new (w.alloc (.cells #[.int .i64 ew, .int .i64 ei, .int .u64 ep, .int .i64 et, .int .i64 eu, .int .i64 en, .slice a eb.length cap, .int .u64 eg] 28)) [.int .i64 fw, .int .i64 fi, .int .u64 fp, .int .i64 ft, .int .i64 fu, .int .i64 fn, .slice a' fb.length cap', .int .u64 fg] 28
      simpa using this
    clear R1 hv hv' hr1
    go_enter Try.func5, Try.ntmps5
    go_upto_region 1 with fail
    rw [← hw1]
    obtain ⟨n, hn⟩ : ∃ n, n = w.heap.size := ⟨_, rfl⟩
    rw [← hn] at HX1 HY1 ⊢
    have HNN : Hid (n = w.heap.size) := hn
    clear hw1 hn
    have x0 := HX1.out.cell 0 _ rfl
    have x1 := HX1.out.cell 1 _ rfl
    have x2 := HX1.out.cell 2 _ rfl
    have x3 := HX1.out.cell 3 _ rfl
    have x4 := HX1.out.cell 4 _ rfl
    have x5 := HX1.out.cell 5 _ rfl
    have x6 := HX1.out.cell 6 _ rfl
    have x7 := HX1.out.cell 7 _ rfl
    go_wp2_with (first
      | (go_at_call 20; go_must (refine (HR1.out w1 (HV.out.below HB1.out)).mono ?_; rintro r w2 ⟨rfl, hb2⟩))
      | (go_at_call 8; go_must (refine (alive_any _).mono ?_; rintro r w10 ⟨rfl, hb10⟩)))
    go_ret
    exact ⟨rfl, bnext (bnext HB1.out hb2) hb10⟩
  | true =>
    rw [hr1] at R1
    cases hr2 : rightB f with
    | false =>
      rw [hr2] at R2
      clear L1 L2 h
      obtain ⟨a, cap, rfl⟩ := hv.len
      obtain ⟨a', cap', rfl⟩ := hv'.len
      obtain ⟨ew, ei, ep, et, eu, en, eb, eg⟩ := e
      obtain ⟨fw, fi, fp, ft, fu, fn, fb, fg⟩ := f
      unfold ev at *
      dsimp only at *
      have HR1 : Hid (∀ w', Rd w' (.slice a eb.length cap) eb → Calls Try.prog 20 #[.agg #[.int .i64 ew, .int .i64 ei, .int .u64 ep, .int .i64 et, .int .i64 eu, .int .i64 en, .slice a eb.length cap, .int .u64 eg]] w' fun r w'' => r = .returned (.bool true) ∧ Below w'.heap.size w' w'') := R1
      have HR2 : Hid (∀ w', Rd w' (.slice a' fb.length cap') fb → Calls Try.prog 20 #[.agg #[.int .i64 fw, .int .i64 fi, .int .u64 fp, .int .i64 ft, .int .i64 fu, .int .i64 fn, .slice a' fb.length cap', .int .u64 fg]] w' fun r w'' => r = .returned (.bool false) ∧ Below w'.heap.size w' w'') := R2
      obtain ⟨w1, hw1⟩ : ∃ w1, w1 = (w.alloc (.cells #[.int .i64 ew, .int .i64 ei, .int .u64 ep, .int .i64 et, .int .i64 eu, .int .i64 en, .slice a eb.length cap, .int .u64 eg] 28)).alloc (.cells #[.int .i64 fw, .int .i64 fi, .int .u64 fp, .int .i64 ft, .int .i64 fu, .int .i64 fn, .slice a' fb.length cap', .int .u64 fg] 28) := ⟨_, rfl⟩
      have HB1 : Hid (Below w.heap.size w w1) := by show Below _ _ _; rw [hw1]; exact balloc (balloc (Below.refl _ _) _) _
      have HX1 : Hid (Blk w1 w.heap.size 28 [.int .i64 ew, .int .i64 ei, .int .u64 ep, .int .i64 et, .int .i64 eu, .int .i64 en, .slice a eb.length cap, .int .u64 eg]) := by show Blk _ _ _ _; rw [hw1]; exact (blk_new w [.int .i64 ew, .int .i64 ei, .int .u64 ep, .int .i64 et, .int .i64 eu, .int .i64 en, .slice a eb.length cap, .int .u64 eg] 28).alloc _
      have HY1 : Hid (Blk w1 (w.heap.size + 1) 28 [.int .i64 fw, .int .i64 fi, .int .u64 fp, .int .i64 ft, .int .i64 fu, .int .i64 fn, .slice a' fb.length cap', .int .u64 fg]) := by
        show Blk _ _ _ _
        rw [hw1]
        have := blk_new (w.alloc (.cells #[.int .i64 ew, .int .i64 ei, .int .u64 ep, .int .i64 et, .int .i64 eu, .int .i64 en, .slice a eb.length cap, .int .u64 eg] 28)) [.int .i64 fw, .int .i64 fi, .int .u64 fp, .int .i64 ft, .int .i64 fu, .int .i64 fn, .slice a' fb.length cap', .int .u64 fg] 28
        simpa using this
      clear R1 R2 hv hv' hr1 hr2
      go_enter Try.func5, Try.ntmps5
      go_upto_region 1 with fail
      rw [← hw1]
      obtain ⟨n, hn⟩ : ∃ n, n = w.heap.size := ⟨_, rfl⟩
      rw [← hn] at HX1 HY1 ⊢
      have HNN : Hid (n = w.heap.size) := hn
      clear hw1 hn
      have x0 := HX1.out.cell 0 _ rfl
      have x1 := HX1.out.cell 1 _ rfl
      have x2 := HX1.out.cell 2 _ rfl
      have x3 := HX1.out.cell 3 _ rfl
      have x4 := HX1.out.cell 4 _ rfl
      have x5 := HX1.out.cell 5 _ rfl
      have x6 := HX1.out.cell 6 _ rfl
      have x7 := HX1.out.cell 7 _ rfl
      go_wp2_with (first
        | (go_at_call 20; first
            | (refine (HR1.out w1 (HV.out.below HB1.out)).mono ?_; rintro r w2 ⟨rfl, hb2⟩; have Y2 := HY1.out.below hb2; have y0 := Y2.cell 0 _ rfl; have y1 := Y2.cell 1 _ rfl; have y2 := Y2.cell 2 _ rfl; have y3 := Y2.cell 3 _ rfl; have y4 := Y2.cell 4 _ rfl; have y5 := Y2.cell 5 _ rfl; have y6 := Y2.cell 6 _ rfl; have y7 := Y2.cell 7 _ rfl; clear HR1)
            | (refine (HR2.out w2 (HV'.out.below (bnext HB1.out hb2))).mono ?_; rintro r w3 ⟨rfl, hb3⟩))
        | (go_at_call 8; go_must (refine (alive_any _).mono ?_; rintro r w10 ⟨rfl, hb10⟩)))
      go_ret
      exact ⟨rfl, bnext (bnext (bnext HB1.out hb2) hb3) hb10⟩
    | true =>
      rw [hr2] at R2
      have b1 := ((rightB_iff e).1 hr1).2.2.2.2.2.2
      have b2 := ((rightB_iff f).1 hr2).2.2.2.2.2.2
      rw [decide_eq_true (show e.b.length ≤ 1500 by omega)] at L1
      rw [decide_eq_true (show f.b.length ≤ 1500 by omega)] at L2
      have hds : 50 < (ds.length : Int) := by
        have : ¬ ds.length ≤ 50 := fun h' => h ⟨hr1, hr2, h'⟩
        omega
      clear h
      obtain ⟨a, cap, rfl⟩ := hv.len
      obtain ⟨a', cap', rfl⟩ := hv'.len
      obtain ⟨ew, ei, ep, et, eu, en, eb, eg⟩ := e
      obtain ⟨fw, fi, fp, ft, fu, fn, fb, fg⟩ := f
      unfold ev at *
      dsimp only at *
      have HR1 : Hid (∀ w', Rd w' (.slice a eb.length cap) eb → Calls Try.prog 20 #[.agg #[.int .i64 ew, .int .i64 ei, .int .u64 ep, .int .i64 et, .int .i64 eu, .int .i64 en, .slice a eb.length cap, .int .u64 eg]] w' fun r w'' => r = .returned (.bool true) ∧ Below w'.heap.size w' w'') := R1
      have HR2 : Hid (∀ w', Rd w' (.slice a' fb.length cap') fb → Calls Try.prog 20 #[.agg #[.int .i64 fw, .int .i64 fi, .int .u64 fp, .int .i64 ft, .int .i64 fu, .int .i64 fn, .slice a' fb.length cap', .int .u64 fg]] w' fun r w'' => r = .returned (.bool true) ∧ Below w'.heap.size w' w'') := R2
      have HL1 : Hid (∀ w', Rd w' (.slice a eb.length cap) eb → Calls Try.prog 7 #[.agg #[.int .i64 ew, .int .i64 ei, .int .u64 ep, .int .i64 et, .int .i64 eu, .int .i64 en, .slice a eb.length cap, .int .u64 eg]] w' fun r w'' => r = .returned (.bool true) ∧ Below w'.heap.size w' w'') := L1
      have HL2 : Hid (∀ w', Rd w' (.slice a' fb.length cap') fb → Calls Try.prog 7 #[.agg #[.int .i64 fw, .int .i64 fi, .int .u64 fp, .int .i64 ft, .int .i64 fu, .int .i64 fn, .slice a' fb.length cap', .int .u64 fg]] w' fun r w'' => r = .returned (.bool true) ∧ Below w'.heap.size w' w'') := L2
      obtain ⟨w1, hw1⟩ : ∃ w1, w1 = (w.alloc (.cells #[.int .i64 ew, .int .i64 ei, .int .u64 ep, .int .i64 et, .int .i64 eu, .int .i64 en, .slice a eb.length cap, .int .u64 eg] 28)).alloc (.cells #[.int .i64 fw, .int .i64 fi, .int .u64 fp, .int .i64 ft, .int .i64 fu, .int .i64 fn, .slice a' fb.length cap', .int .u64 fg] 28) := ⟨_, rfl⟩
      have HB1 : Hid (Below w.heap.size w w1) := by show Below _ _ _; rw [hw1]; exact balloc (balloc (Below.refl _ _) _) _
      have HX1 : Hid (Blk w1 w.heap.size 28 [.int .i64 ew, .int .i64 ei, .int .u64 ep, .int .i64 et, .int .i64 eu, .int .i64 en, .slice a eb.length cap, .int .u64 eg]) := by show Blk _ _ _ _; rw [hw1]; exact (blk_new w [.int .i64 ew, .int .i64 ei, .int .u64 ep, .int .i64 et, .int .i64 eu, .int .i64 en, .slice a eb.length cap, .int .u64 eg] 28).alloc _
      have HY1 : Hid (Blk w1 (w.heap.size + 1) 28 [.int .i64 fw, .int .i64 fi, .int .u64 fp, .int .i64 ft, .int .i64 fu, .int .i64 fn, .slice a' fb.length cap', .int .u64 fg]) := by
        show Blk _ _ _ _
        rw [hw1]
        have := blk_new (w.alloc (.cells #[.int .i64 ew, .int .i64 ei, .int .u64 ep, .int .i64 et, .int .i64 eu, .int .i64 en, .slice a eb.length cap, .int .u64 eg] 28)) [.int .i64 fw, .int .i64 fi, .int .u64 fp, .int .i64 ft, .int .i64 fu, .int .i64 fn, .slice a' fb.length cap', .int .u64 fg] 28
        simpa using this
      clear R1 R2 L1 L2 hv hv' hr1 hr2
      go_enter Try.func5, Try.ntmps5
      go_upto_region 1 with fail
      rw [← hw1]
      obtain ⟨n, hn⟩ : ∃ n, n = w.heap.size := ⟨_, rfl⟩
      rw [← hn] at HX1 HY1 ⊢
      have HNN : Hid (n = w.heap.size) := hn
      clear hw1 hn
      have x0 := HX1.out.cell 0 _ rfl
      have x1 := HX1.out.cell 1 _ rfl
      have x2 := HX1.out.cell 2 _ rfl
      have x3 := HX1.out.cell 3 _ rfl
      have x4 := HX1.out.cell 4 _ rfl
      have x5 := HX1.out.cell 5 _ rfl
      have x6 := HX1.out.cell 6 _ rfl
      have x7 := HX1.out.cell 7 _ rfl
      go_wp2_with (first
        | (go_at_call 20; first
            | (refine (HR1.out w1 (HV.out.below HB1.out)).mono ?_; rintro r w2 ⟨rfl, hb2⟩; have Y2 := HY1.out.below hb2; have y0 := Y2.cell 0 _ rfl; have y1 := Y2.cell 1 _ rfl; have y2 := Y2.cell 2 _ rfl; have y3 := Y2.cell 3 _ rfl; have y4 := Y2.cell 4 _ rfl; have y5 := Y2.cell 5 _ rfl; have y6 := Y2.cell 6 _ rfl; have y7 := Y2.cell 7 _ rfl; clear HR1)
            | (refine (HR2.out w2 (HV'.out.below (bnext HB1.out hb2))).mono ?_; rintro r w3 ⟨rfl, hb3⟩; have X3 := HX1.out.below (bnext hb2 hb3); have p0 := X3.cell 0 _ rfl; have p1 := X3.cell 1 _ rfl; have p2 := X3.cell 2 _ rfl; have p3 := X3.cell 3 _ rfl; have p4 := X3.cell 4 _ rfl; have p5 := X3.cell 5 _ rfl; have p6 := X3.cell 6 _ rfl; have p7 := X3.cell 7 _ rfl))
        | (go_at_call 7; first
            | (refine (HL1.out w3 (HV.out.below (bnext HB1.out (bnext hb2 hb3)))).mono ?_; rintro r w4 ⟨rfl, hb4⟩; have Y4 := HY1.out.below (bnext (bnext hb2 hb3) hb4); have q0 := Y4.cell 0 _ rfl; have q1 := Y4.cell 1 _ rfl; have q2 := Y4.cell 2 _ rfl; have q3 := Y4.cell 3 _ rfl; have q4 := Y4.cell 4 _ rfl; have q5 := Y4.cell 5 _ rfl; have q6 := Y4.cell 6 _ rfl; have q7 := Y4.cell 7 _ rfl; clear HL1)
            | (refine (HL2.out w4 (HV'.out.below (bnext HB1.out (bnext (bnext hb2 hb3) hb4)))).mono ?_; rintro r w5 ⟨rfl, hb5⟩))
        | (go_at_call 8; go_must (refine (alive_any _).mono ?_; rintro r w10 ⟨rfl, hb10⟩)))
      go_ret
      exact ⟨rfl, bnext (bnext (bnext (bnext (bnext HB1.out hb2) hb3) hb4) hb5) hb10⟩

theorem apart_main (e f : Ent) (v v' dv : Value) (ds : List Int) (w : World) (hd : RdU w dv ds) (he : EOk e) (hv : Rd w v e.b) (he' : EOk f) (hv' : Rd w v' f.b) (hr1 : rightB e = true) (hr2 : rightB f = true) (hds : ds.length ≤ 50) :
    Calls Try.prog 5 #[dv, ev e v, ev f v'] w fun r w' => r = .returned (.bool true) ∧ Below w.heap.size w w' := by
  have HV : Hid (Rd w v e.b) := hv
  have HV' : Hid (Rd w v' f.b) := hv'
  have HD : Hid (RdU w dv ds) := hd
  have R1 := fun w' (h : Rd w' v e.b) => rightE_any e v w' h
  have R2 := fun w' (h : Rd w' v' f.b) => rightE_any f v' w' h
  have L1 := fun w' (h : Rd w' v e.b) => light_any e v w' h
  have L2 := fun w' (h : Rd w' v' f.b) => light_any f v' w' h
  have b1 := ((rightB_iff e).1 hr1).2.2.2.2.2.2
  have b2 := ((rightB_iff f).1 hr2).2.2.2.2.2.2
  rw [hr1] at R1
  rw [hr2] at R2
  rw [decide_eq_true (show e.b.length ≤ 1500 by omega)] at L1
  rw [decide_eq_true (show f.b.length ≤ 1500 by omega)] at L2
  obtain ⟨A, B, s, p, x, S1, S2, S3, S4, k1, k2, kab, ks, kp, k3, k4, kv1, kv2, us, up, ux, n1, n2, n3, n4⟩ := apart_facts hd.1 (bytes_oct he).2 (bytes_oct he').2 (bytes_oct he).1 (bytes_oct he').1
  have M1 := fun w' b ft (h : Rep w' b ft ⟨ds, []⟩) (hx : Rd w' v e.b) => sumE_yes w' b ft ⟨ds, []⟩ h (by simp) e v he hx (by omega) hr1
  rw [k1] at M1
  have M2 := fun w' b ft (h : Rep w' b ft S1) (hx : Rd w' v' f.b) => sumE_yes w' b ft S1 h (by omega) f v' he' hx (by omega) hr2
  rw [k2] at M2
  have SM := fun w' (h : Rd w' v e.b) (h' : Rd w' v' f.b) => sameE_any w' e f v v' h h'
  have hq : sameB e f = true ↔ A = B := by
    rw [sameB_iff, kab]
    constructor
    · rintro rfl; rfl
    · intro h
      exact (bytes_inj ((rightB_iff e).1 hr1) he ((rightB_iff f).1 hr2) he' [] [] (by rw [h])).1
  have SG := fun w' b ft (h : Rep w' b ft S3) (hx : Rd w' v e.b) (hst : ∀ w'', Turn ft w' w'' → Rd w'' v e.b) => signE_yes w' b ft S3 h (by omega) s us e v he hx hst (by omega) hr1 (by rw [k4])
  rw [k4] at SG
  have PR := fun w' b ft (h : Rep w' b ft S2) => pair_any w' b ft S2 h (by omega)
  rw [kp, ks, k3] at PR
  have okx : EOk { e with g := x } := ⟨he.1, he.2.1, he.2.2.1, he.2.2.2.1, he.2.2.2.2.1, he.2.2.2.2.2.1, ux, he.2.2.2.2.2.2.2⟩
  have oky : EOk { f with g := x } := ⟨he'.1, he'.2.1, he'.2.2.1, he'.2.2.2.1, he'.2.2.2.2.1, he'.2.2.2.2.2.1, ux, he'.2.2.2.2.2.2.2⟩
  have H1 := fun w' b ft y (h : Rep w' b ft S4) (hx : Rd w' y e.b) => holdsE_any w' b ft S4 h p up { e with g := x } y okx hx (by show e.b.length ≤ _; omega)
  have hh1 : (rightB { e with g := x } && S4.verify p (textL { e with g := x }) ({ e with g := x } : Ent).g) = true := by
    rw [show rightB { e with g := x } = true from (rightB_iff _).2 ((rightB_iff e).1 hr1), Bool.true_and]
    exact kv1
  rw [hh1] at H1
  have H2 := fun w' b ft y (h : Rep w' b ft S4) (hx : Rd w' y f.b) => holdsE_any w' b ft S4 h p up { f with g := x } y oky hx (by show f.b.length ≤ _; omega)
  have hh2 : (rightB { f with g := x } && S4.verify p (textL { f with g := x }) ({ f with g := x } : Ent).g) = sameB { e with g := x } { f with g := x } := by
    rw [show rightB { f with g := x } = true from (rightB_iff _).2 ((rightB_iff f).1 hr2), Bool.true_and, Bool.eq_iff_iff, sameB_iff]
    refine Iff.trans kv2 ⟨fun h => ?_, fun h => ?_⟩
    · have h0 := text_inj ((rightB_iff e).1 hr1) he ((rightB_iff f).1 hr2) he' h
      simp only [Ent.mk.injEq] at h0 ⊢
      exact ⟨h0.1, h0.2.1, h0.2.2.1, h0.2.2.2.1, h0.2.2.2.2.1, h0.2.2.2.2.2.1, h0.2.2.2.2.2.2.1, trivial⟩
    · have : textL { e with g := x } = textL { f with g := x } := by rw [h]
      exact this
  rw [hh2] at H2
  have SX := fun w' y z (h : Rd w' y e.b) (h' : Rd w' z f.b) => sameE_any w' { e with g := x } { f with g := x } y z h h'
  generalize sameB { e with g := x } { f with g := x } = Q at *
  generalize sameB e f = q at *
  obtain ⟨_, ad, cd, rfl, hd1, hd2, _⟩ := hd
  unfold maxLen at hd2
  obtain ⟨a, cap, rfl⟩ := hv.len
  obtain ⟨a', cap', rfl⟩ := hv'.len
  obtain ⟨ew, ei, ep, et, eu, en, eb, eg⟩ := e
  obtain ⟨fw, fi, fp, ft, fu, fn, fb, fg⟩ := f
  unfold ev at *
  dsimp only at *
  have HR1 : Hid (∀ w', Rd w' (.slice a eb.length cap) eb → Calls Try.prog 20 #[.agg #[.int .i64 ew, .int .i64 ei, .int .u64 ep, .int .i64 et, .int .i64 eu, .int .i64 en, .slice a eb.length cap, .int .u64 eg]] w' fun r w'' => r = .returned (.bool true) ∧ Below w'.heap.size w' w'') := R1
  have HR2 : Hid (∀ w', Rd w' (.slice a' fb.length cap') fb → Calls Try.prog 20 #[.agg #[.int .i64 fw, .int .i64 fi, .int .u64 fp, .int .i64 ft, .int .i64 fu, .int .i64 fn, .slice a' fb.length cap', .int .u64 fg]] w' fun r w'' => r = .returned (.bool true) ∧ Below w'.heap.size w' w'') := R2
  have HL1 : Hid (∀ w', Rd w' (.slice a eb.length cap) eb → Calls Try.prog 7 #[.agg #[.int .i64 ew, .int .i64 ei, .int .u64 ep, .int .i64 et, .int .i64 eu, .int .i64 en, .slice a eb.length cap, .int .u64 eg]] w' fun r w'' => r = .returned (.bool true) ∧ Below w'.heap.size w' w'') := L1
  have HL2 : Hid (∀ w', Rd w' (.slice a' fb.length cap') fb → Calls Try.prog 7 #[.agg #[.int .i64 fw, .int .i64 fi, .int .u64 fp, .int .i64 ft, .int .i64 fu, .int .i64 fn, .slice a' fb.length cap', .int .u64 fg]] w' fun r w'' => r = .returned (.bool true) ∧ Below w'.heap.size w' w'') := L2
  have HM1 : Hid (∀ w' b fo, Rep w' b fo ⟨ds, []⟩ → Rd w' (.slice a eb.length cap) eb → Calls Try.prog 12 #[ptr b, .agg #[.int .i64 ew, .int .i64 ei, .int .u64 ep, .int .i64 et, .int .i64 eu, .int .i64 en, .slice a eb.length cap, .int .u64 eg]] w' fun r w'' => r = .returned (.tuple #[.int .u64 A, .int .i64 0]) ∧ Left w' b fo S1 w'') := M1
  have HM2 : Hid (∀ w' b fo, Rep w' b fo S1 → Rd w' (.slice a' fb.length cap') fb → Calls Try.prog 12 #[ptr b, .agg #[.int .i64 fw, .int .i64 fi, .int .u64 fp, .int .i64 ft, .int .i64 fu, .int .i64 fn, .slice a' fb.length cap', .int .u64 fg]] w' fun r w'' => r = .returned (.tuple #[.int .u64 B, .int .i64 0]) ∧ Left w' b fo S2 w'') := M2
  have HSM : Hid (∀ w', Rd w' (.slice a eb.length cap) eb → Rd w' (.slice a' fb.length cap') fb → Calls Try.prog 22 #[.agg #[.int .i64 ew, .int .i64 ei, .int .u64 ep, .int .i64 et, .int .i64 eu, .int .i64 en, .slice a eb.length cap, .int .u64 eg], .agg #[.int .i64 fw, .int .i64 fi, .int .u64 fp, .int .i64 ft, .int .i64 fu, .int .i64 fn, .slice a' fb.length cap', .int .u64 fg]] w' fun r w'' => r = .returned (.bool q) ∧ Below w'.heap.size w' w'') := SM
  have HPR : Hid (∀ w' b fo, Rep w' b fo S2 → Calls Try.prog 10 #[ptr b] w' fun r w'' => r = .returned (.tuple #[.int .u64 s, .int .u64 p]) ∧ Left w' b fo S3 w'') := PR
  have HSG : Hid (∀ w' b fo, Rep w' b fo S3 → Rd w' (.slice a eb.length cap) eb → (∀ w'', Turn fo w' w'' → Rd w'' (.slice a eb.length cap) eb) → Calls Try.prog 14 #[ptr b, .int .u64 s, .agg #[.int .i64 ew, .int .i64 ei, .int .u64 ep, .int .i64 et, .int .i64 eu, .int .i64 en, .slice a eb.length cap, .int .u64 eg]] w' fun r w'' => ∃ y, r = .returned (.tuple #[.agg #[.int .i64 ew, .int .i64 ei, .int .u64 ep, .int .i64 et, .int .i64 eu, .int .i64 en, y, .int .u64 x], .int .i64 0]) ∧ LeftB w' b fo S4 w'' y eb) := SG
  have HH1 : Hid (∀ w' b fo y, Rep w' b fo S4 → Rd w' y eb → Calls Try.prog 17 #[ptr b, .int .u64 p, .agg #[.int .i64 ew, .int .i64 ei, .int .u64 ep, .int .i64 et, .int .i64 eu, .int .i64 en, y, .int .u64 x]] w' fun r w'' => r = .returned (.bool true) ∧ Below w'.heap.size w' w'') := H1
  have HH2 : Hid (∀ w' b fo y, Rep w' b fo S4 → Rd w' y fb → Calls Try.prog 17 #[ptr b, .int .u64 p, .agg #[.int .i64 fw, .int .i64 fi, .int .u64 fp, .int .i64 ft, .int .i64 fu, .int .i64 fn, y, .int .u64 x]] w' fun r w'' => r = .returned (.bool Q) ∧ Below w'.heap.size w' w'') := H2
  have HSX : Hid (∀ w' y z, Rd w' y eb → Rd w' z fb → Calls Try.prog 22 #[.agg #[.int .i64 ew, .int .i64 ei, .int .u64 ep, .int .i64 et, .int .i64 eu, .int .i64 en, y, .int .u64 x], .agg #[.int .i64 fw, .int .i64 fi, .int .u64 fp, .int .i64 ft, .int .i64 fu, .int .i64 fn, z, .int .u64 x]] w' fun r w'' => r = .returned (.bool Q) ∧ Below w'.heap.size w' w'') := SX
  have hds' : ¬ 50 < (ds.length : Int) := by omega
  obtain ⟨w1, hw1⟩ : ∃ w1, w1 = (w.alloc (.cells #[.int .i64 ew, .int .i64 ei, .int .u64 ep, .int .i64 et, .int .i64 eu, .int .i64 en, .slice a eb.length cap, .int .u64 eg] 28)).alloc (.cells #[.int .i64 fw, .int .i64 fi, .int .u64 fp, .int .i64 ft, .int .i64 fu, .int .i64 fn, .slice a' fb.length cap', .int .u64 fg] 28) := ⟨_, rfl⟩
  have HB1 : Hid (Below w.heap.size w w1) := by show Below _ _ _; rw [hw1]; exact balloc (balloc (Below.refl _ _) _) _
  have HX1 : Hid (Blk w1 w.heap.size 28 [.int .i64 ew, .int .i64 ei, .int .u64 ep, .int .i64 et, .int .i64 eu, .int .i64 en, .slice a eb.length cap, .int .u64 eg]) := by show Blk _ _ _ _; rw [hw1]; exact (blk_new w [.int .i64 ew, .int .i64 ei, .int .u64 ep, .int .i64 et, .int .i64 eu, .int .i64 en, .slice a eb.length cap, .int .u64 eg] 28).alloc _
  have HY1 : Hid (Blk w1 (w.heap.size + 1) 28 [.int .i64 fw, .int .i64 fi, .int .u64 fp, .int .i64 ft, .int .i64 fu, .int .i64 fn, .slice a' fb.length cap', .int .u64 fg]) := by
    show Blk _ _ _ _
    rw [hw1]
    have := blk_new (w.alloc (.cells #[.int .i64 ew, .int .i64 ei, .int .u64 ep, .int .i64 et, .int .i64 eu, .int .i64 en, .slice a eb.length cap, .int .u64 eg] 28)) [.int .i64 fw, .int .i64 fi, .int .u64 fp, .int .i64 ft, .int .i64 fu, .int .i64 fn, .slice a' fb.length cap', .int .u64 fg] 28
    simpa using this
  clear R1 R2 L1 L2 M1 M2 SM SG PR H1 H2 SX hv hv' hr1 hr2 hh1 hh2 okx oky k1 k2 kab ks kp k3 k4 kv1 kv2 us up ux n1 n2 n3 n4 he he' b1 b2
  have hq2 : (A == B) = q := by
    cases q
    · have : ¬ A = B := fun h => by simpa using hq.2 h
      simpa using this
    · simpa using hq.1 rfl
  clear hq
  cases q
  case' true =>
    have hAB : A = B := by simpa using hq2
    subst hAB
    clear hq2
  all_goals
    go_enter Try.func5, Try.ntmps5
    go_upto_region 1 with fail
    rw [← hw1]
    obtain ⟨n, hn⟩ : ∃ n, n = w.heap.size := ⟨_, rfl⟩
    rw [← hn] at HX1 HY1 ⊢
    have HNN : Hid (n = w.heap.size) := hn
    clear hw1 hn
    have x0 := HX1.out.cell 0 _ rfl
    have x1 := HX1.out.cell 1 _ rfl
    have x2 := HX1.out.cell 2 _ rfl
    have x3 := HX1.out.cell 3 _ rfl
    have x4 := HX1.out.cell 4 _ rfl
    have x5 := HX1.out.cell 5 _ rfl
    have x6 := HX1.out.cell 6 _ rfl
    have x7 := HX1.out.cell 7 _ rfl
    go_upto_region 3 with (first
      | (go_at_call 20; first
          | (refine (HR1.out w1 (HV.out.below HB1.out)).mono ?_; rintro r w2 ⟨rfl, hb2⟩; have Y2 := HY1.out.below hb2; have y0 := Y2.cell 0 _ rfl; have y1 := Y2.cell 1 _ rfl; have y2 := Y2.cell 2 _ rfl; have y3 := Y2.cell 3 _ rfl; have y4 := Y2.cell 4 _ rfl; have y5 := Y2.cell 5 _ rfl; have y6 := Y2.cell 6 _ rfl; have y7 := Y2.cell 7 _ rfl; clear HR1)
          | (refine (HR2.out w2 (HV'.out.below (bnext HB1.out hb2))).mono ?_; rintro r w3 ⟨rfl, hb3⟩; have X3 := HX1.out.below (bnext hb2 hb3); have p0 := X3.cell 0 _ rfl; have p1 := X3.cell 1 _ rfl; have p2 := X3.cell 2 _ rfl; have p3 := X3.cell 3 _ rfl; have p4 := X3.cell 4 _ rfl; have p5 := X3.cell 5 _ rfl; have p6 := X3.cell 6 _ rfl; have p7 := X3.cell 7 _ rfl))
      | (go_at_call 7; first
          | (refine (HL1.out w3 (HV.out.below (bnext HB1.out (bnext hb2 hb3)))).mono ?_; rintro r w4 ⟨rfl, hb4⟩; have Y4 := HY1.out.below (bnext (bnext hb2 hb3) hb4); have q0 := Y4.cell 0 _ rfl; have q1 := Y4.cell 1 _ rfl; have q2 := Y4.cell 2 _ rfl; have q3 := Y4.cell 3 _ rfl; have q4 := Y4.cell 4 _ rfl; have q5 := Y4.cell 5 _ rfl; have q6 := Y4.cell 6 _ rfl; have q7 := Y4.cell 7 _ rfl; clear HL1)
          | (refine (HL2.out w4 (HV'.out.below (bnext HB1.out (bnext (bnext hb2 hb3) hb4)))).mono ?_; rintro r w5 ⟨rfl, hb5⟩))
      | (go_at_call 99999; skip))
    have HBW : Hid (Below w1.heap.size w1 w5) := (show Below _ _ _ from bnext (bnext (bnext hb2 hb3) hb4) hb5)
    have HBw : Hid (Below w.heap.size w w5) := (show Below _ _ _ from bnext HB1.out HBW.out)
    have HXW : Hid (Blk w5 n 28 [.int .i64 ew, .int .i64 ei, .int .u64 ep, .int .i64 et, .int .i64 eu, .int .i64 en, .slice a eb.length cap, .int .u64 eg]) := HX1.out.below HBW.out
    have HYW : Hid (Blk w5 (n + 1) 28 [.int .i64 fw, .int .i64 fi, .int .u64 fp, .int .i64 ft, .int .i64 fu, .int .i64 fn, .slice a' fb.length cap', .int .u64 fg]) := HY1.out.below HBW.out
    have HVW : Hid (Rd w5 (.slice a eb.length cap) eb) := HV.out.below HBw.out
    have HVW' : Hid (Rd w5 (.slice a' fb.length cap') fb) := HV'.out.below HBw.out
    have HDW : Hid (RdU w5 (.slice ad ds.length cd) ds) := HD.out.turn (ft := []) (Turn.of_below HBw.out) (fun k hk e => by cases e)
    clear x0 x1 x2 x3 x4 x5 x6 x7 y0 y1 y2 y3 y4 y5 y6 y7 p0 p1 p2 p3 p4 p5 p6 p7 q0 q1 q2 q3 q4 q5 q6 q7 hb2 hb3 hb4 hb5 Y2 X3 Y4 HX1 HY1 HB1 HV HV' HD HBW
    go_upto_region 6 with (first
      | (go_at_call 9; go_must (refine (new_at w5 w5 (Below.refl _ w5) _ ds HDW.out (by omega)).mono ?_; rintro r w6 ⟨b, rfl, ft6, hA6, hn6⟩; have X6 := HXW.out.below hA6.bel; have x0 := X6.cell 0 _ rfl; have x1 := X6.cell 1 _ rfl; have x2 := X6.cell 2 _ rfl; have x3 := X6.cell 3 _ rfl; have x4 := X6.cell 4 _ rfl; have x5 := X6.cell 5 _ rfl; have x6 := X6.cell 6 _ rfl; have x7 := X6.cell 7 _ rfl))
      | (go_at_call 12; first
          | (refine (HM1.out w6 b ft6 hA6.rep (hA6.rd HVW.out)).mono ?_; rintro r w7 ⟨rfl, hl7⟩; obtain ⟨ft7, hA7, _, _⟩ := hA6.left hl7; have Y7 := HYW.out.below hA7.bel; have y0 := Y7.cell 0 _ rfl; have y1 := Y7.cell 1 _ rfl; have y2 := Y7.cell 2 _ rfl; have y3 := Y7.cell 3 _ rfl; have y4 := Y7.cell 4 _ rfl; have y5 := Y7.cell 5 _ rfl; have y6 := Y7.cell 6 _ rfl; have y7 := Y7.cell 7 _ rfl; clear HM1 hl7)
          | (refine (HM2.out w7 b ft7 hA7.rep (hA7.rd HVW'.out)).mono ?_; rintro r w8 ⟨rfl, hl8⟩; obtain ⟨ft8, hA8, _, _⟩ := hA7.left hl8; have X8 := HXW.out.below hA8.bel; have Y8 := HYW.out.below hA8.bel; have p0 := X8.cell 0 _ rfl; have p1 := X8.cell 1 _ rfl; have p2 := X8.cell 2 _ rfl; have p3 := X8.cell 3 _ rfl; have p4 := X8.cell 4 _ rfl; have p5 := X8.cell 5 _ rfl; have p6 := X8.cell 6 _ rfl; have p7 := X8.cell 7 _ rfl; have q0 := Y8.cell 0 _ rfl; have q1 := Y8.cell 1 _ rfl; have q2 := Y8.cell 2 _ rfl; have q3 := Y8.cell 3 _ rfl; have q4 := Y8.cell 4 _ rfl; have q5 := Y8.cell 5 _ rfl; have q6 := Y8.cell 6 _ rfl; have q7 := Y8.cell 7 _ rfl; clear hl8)))
    have HA8 : Hid (At w5 w8 b ft8 S2) := hA8
    clear hA6 hA7 hA8 X6 Y7 X8 Y8 x0 x1 x2 x3 x4 x5 x6 x7 y0 y1 y2 y3 y4 y5 y6 y7
    go_upto_region 9 with (first
      | (go_at_call 22; go_must (refine (HSM.out w8 (HA8.out.rd HVW.out) (HA8.out.rd HVW'.out)).mono ?_; rintro r w9 ⟨rfl, hb9⟩; have HA9 : Hid (At w5 w9 b ft8 S2) := HA8.out.below hb9))
      | (go_at_call 10; go_must (refine (HPR.out w9 b ft8 HA9.out.rep).mono ?_; rintro r w10 ⟨rfl, hl10⟩; obtain ⟨ft10, hA10, _, _⟩ := HA9.out.left hl10; have HA10 : Hid (At w5 w10 b ft10 S3) := hA10)))
    have X10 := HXW.out.below HA10.out.bel
    have x0 := X10.cell 0 _ rfl
    have x1 := X10.cell 1 _ rfl
    have x2 := X10.cell 2 _ rfl
    have x3 := X10.cell 3 _ rfl
    have x4 := X10.cell 4 _ rfl
    have x5 := X10.cell 5 _ rfl
    have x6 := X10.cell 6 _ rfl
    have x7 := X10.cell 7 _ rfl
    clear hA10 hl10 hb9 p0 p1 p2 p3 p4 p5 p6 p7 q0 q1 q2 q3 q4 q5 q6 q7
    go_upto_region 10 with (go_at_call 14; go_must (refine (HSG.out w10 b ft10 HA10.out.rep (HA10.out.rd HVW.out) (HA10.out.rds HVW.out)).mono ?_; rintro r w11 ⟨y, rfl, hl11⟩; obtain ⟨ay, cy, hy⟩ := hl11.1.len; subst hy))
    obtain ⟨ft11, hA11, hr11, hout11, _, _, _⟩ := HA10.out.leftB hl11
    obtain ⟨w12, hw12⟩ : ∃ w12, w12 = w11.alloc (.cells #[.int .i64 ew, .int .i64 ei, .int .u64 ep, .int .i64 et, .int .i64 eu, .int .i64 en, .slice ay eb.length cy, .int .u64 x] 28) := ⟨_, rfl⟩
    rw [← hw12]
    have HB12 : Hid (Below w11.heap.size w11 w12) := by show Below _ _ _; rw [hw12]; exact balloc (Below.refl _ _) _
    have HA12 : Hid (At w5 w12 b ft11 S4) := hA11.below HB12.out
    have HR12 : Hid (Rd w12 (.slice ay eb.length cy) eb) := hr11.below HB12.out
    have HM12 : Hid (Blk w12 w11.heap.size 28 [.int .i64 ew, .int .i64 ei, .int .u64 ep, .int .i64 et, .int .i64 eu, .int .i64 en, .slice ay eb.length cy, .int .u64 x]) := by show Blk _ _ _ _; rw [hw12]; exact blk_new w11 [.int .i64 ew, .int .i64 ei, .int .u64 ep, .int .i64 et, .int .i64 eu, .int .i64 en, .slice ay eb.length cy, .int .u64 x] 28
    obtain ⟨m, hm⟩ : ∃ m, m = w11.heap.size := ⟨_, rfl⟩
    rw [← hm] at HM12 ⊢
    have Y12 := HYW.out.below HA12.out.bel
    have q0 := Y12.cell 0 _ rfl
    have q1 := Y12.cell 1 _ rfl
    have q2 := Y12.cell 2 _ rfl
    have q3 := Y12.cell 3 _ rfl
    have q4 := Y12.cell 4 _ rfl
    have q5 := Y12.cell 5 _ rfl
    have q6 := Y12.cell 6 _ rfl
    have q7 := Y12.cell 7 _ rfl
    have m7 := HM12.out.cell 7 _ rfl
    have HML : Hid (m < w12.heap.size) := HM12.out.lt
    clear hw12 hm hA11 hr11 hout11 hl11 x0 x1 x2 x3 x4 x5 x6 x7 X10
    go_upto_region 11 with fail
    obtain ⟨w13, hw13⟩ : ∃ w13, w13 = w12.alloc (.cells #[.int .i64 fw, .int .i64 fi, .int .u64 fp, .int .i64 ft, .int .i64 fu, .int .i64 fn, .slice a' fb.length cap', .int .u64 fg] 28) := ⟨_, rfl⟩
    rw [← hw13]
    have HB13 : Hid (Below w12.heap.size w12 w13) := by show Below _ _ _; rw [hw13]; exact balloc (Below.refl _ _) _
    have HG13 : Hid (Blk w13 w12.heap.size 28 [.int .i64 fw, .int .i64 fi, .int .u64 fp, .int .i64 ft, .int .i64 fu, .int .i64 fn, .slice a' fb.length cap', .int .u64 fg]) := by show Blk _ _ _ _; rw [hw13]; exact blk_new w12 [.int .i64 fw, .int .i64 fi, .int .u64 fp, .int .i64 ft, .int .i64 fu, .int .i64 fn, .slice a' fb.length cap', .int .u64 fg] 28
    obtain ⟨k, hk⟩ : ∃ k, k = w12.heap.size := ⟨_, rfl⟩
    rw [← hk] at HG13 HML ⊢
    have HK : Hid (k = w12.heap.size) := hk
    have HM13 : Hid (Blk w13 m 28 [.int .i64 ew, .int .i64 ei, .int .u64 ep, .int .i64 et, .int .i64 eu, .int .i64 en, .slice ay eb.length cy, .int .u64 x]) := HM12.out.below HB13.out
    have m7' := HM13.out.cell 7 _ rfl
    have g7 := HG13.out.cell 7 _ rfl
    have gf7 := HG13.out.frozen 7
    clear hw13 hk m7 q0 q1 q2 q3 q4 q5 q6 q7 Y12
    go_upto_region 12 with fail
    obtain ⟨w14, hw14⟩ : ∃ w14, w14 = w13.setCell ⟨k, 7, none⟩ (.int .u64 x) := ⟨_, rfl⟩
    rw [← hw14]
    have HG14 : Hid (Blk w14 k 28 [.int .i64 fw, .int .i64 fi, .int .u64 fp, .int .i64 ft, .int .i64 fu, .int .i64 fn, .slice a' fb.length cap', .int .u64 x]) := by show Blk _ _ _ _; rw [hw14]; exact HG13.out.set 7 _
    have HGR : Hid (w13.grownBy w14 (some k)) := by show World.grownBy _ _ _; rw [hw14]; exact grown_setCell _ _ _ _
    have HBx : Hid (Below w12.heap.size w12 w14) := (show Below _ _ _ from bgrown HB13.out (by have := HK.out; omega) HGR.out)
    have HM14 : Hid (Blk w14 m 28 [.int .i64 ew, .int .i64 ei, .int .u64 ep, .int .i64 et, .int .i64 eu, .int .i64 en, .slice ay eb.length cy, .int .u64 x]) := HM12.out.below HBx.out
    have HA14 : Hid (At w5 w14 b ft11 S4) := HA12.out.below HBx.out
    have HR14 : Hid (Rd w14 (.slice ay eb.length cy) eb) := HR12.out.below HBx.out
    have HR14' : Hid (Rd w14 (.slice a' fb.length cap') fb) := HA14.out.rd HVW'.out
    clear hw14 m7' g7 gf7
    have m0 := fun z : WIn (fun w' => Below w14.heap.size w14 w') => (HM14.out.below z.ok).cell 0 _ rfl
    have m1 := fun z : WIn (fun w' => Below w14.heap.size w14 w') => (HM14.out.below z.ok).cell 1 _ rfl
    have m2 := fun z : WIn (fun w' => Below w14.heap.size w14 w') => (HM14.out.below z.ok).cell 2 _ rfl
    have m3 := fun z : WIn (fun w' => Below w14.heap.size w14 w') => (HM14.out.below z.ok).cell 3 _ rfl
    have m4 := fun z : WIn (fun w' => Below w14.heap.size w14 w') => (HM14.out.below z.ok).cell 4 _ rfl
    have m5 := fun z : WIn (fun w' => Below w14.heap.size w14 w') => (HM14.out.below z.ok).cell 5 _ rfl
    have m6 := fun z : WIn (fun w' => Below w14.heap.size w14 w') => (HM14.out.below z.ok).cell 6 _ rfl
    have m7 := fun z : WIn (fun w' => Below w14.heap.size w14 w') => (HM14.out.below z.ok).cell 7 _ rfl
    have g0 := fun z : WIn (fun w' => Below w14.heap.size w14 w') => (HG14.out.below z.ok).cell 0 _ rfl
    have g1 := fun z : WIn (fun w' => Below w14.heap.size w14 w') => (HG14.out.below z.ok).cell 1 _ rfl
    have g2 := fun z : WIn (fun w' => Below w14.heap.size w14 w') => (HG14.out.below z.ok).cell 2 _ rfl
    have g3 := fun z : WIn (fun w' => Below w14.heap.size w14 w') => (HG14.out.below z.ok).cell 3 _ rfl
    have g4 := fun z : WIn (fun w' => Below w14.heap.size w14 w') => (HG14.out.below z.ok).cell 4 _ rfl
    have g5 := fun z : WIn (fun w' => Below w14.heap.size w14 w') => (HG14.out.below z.ok).cell 5 _ rfl
    have g6 := fun z : WIn (fun w' => Below w14.heap.size w14 w') => (HG14.out.below z.ok).cell 6 _ rfl
    have g7 := fun z : WIn (fun w' => Below w14.heap.size w14 w') => (HG14.out.below z.ok).cell 7 _ rfl
    have ne : Nonempty (WIn (fun w' => Below w14.heap.size w14 w')) := ⟨⟨w14, Below.refl _ _⟩⟩
    refine wp_region_tree (C := fun w' => ∃ z : WIn (fun w' => Below w14.heap.size w14 w'), w' = z.w)
      (.still 0 (.still 1 (.still 2 (.still 3 (.still 4 (.still 5 (.one 6 (.still 7 (.still 8 (.still 9 (.still 10 (.still 11 (.still 13 (.still 14 (.two 12 (.one 15 (.still 16 (.still 17 (.still 18 (.one 19 (.still 20 (.still 21 .done))))))) 15 (.one 12 (.still 16 (.still 17 (.still 18 (.one 19 (.still 20 (.still 21 .done))))))))))))))))))))))
      (by kernel_rfl) (by kernel_rfl) ⟨⟨w14.drew, (Below.refl _ _).drew⟩, rfl⟩ ?_
    iterate 6 (refine tree_still rfl rfl ?_; go_big_quiet_step (fail); refine wpQuiet_nil ?_)
    refine tree_one rfl rfl ?_
    go_simp
    refine (HH1.out w14.drew b ft11 _ (HA14.out.below (Below.refl _ _).drew).rep HR14.out.drew).mono ?_
    rintro r wa ⟨rfl, hba⟩
    have HBa : Hid (Below w14.heap.size w14 wa) := below_undrew hba
    clear hba
    refine ⟨⟨⟨wa, HBa.out⟩, rfl⟩, ?_⟩
    iterate 7 (refine tree_still rfl rfl ?_; go_big_quiet_step (fail); refine wpQuiet_nil ?_)
    refine tree_two rfl rfl rfl rfl ?_ ?_
    all_goals
      go_simp
      first
        | (refine (HH2.out wa b ft11 _ (HA14.out.below HBa.out).rep (HR14'.out.below HBa.out)).mono ?_; rintro r wb ⟨rfl, hbb⟩; have HBb : Hid (Below w14.heap.size w14 wb) := (show Below _ _ _ from bnext HBa.out hbb); refine ⟨⟨⟨wb, HBb.out⟩, rfl⟩, ?_⟩; refine tree_one rfl rfl ?_; go_simp; refine (HSX.out wb _ _ (HR14.out.below HBb.out) (HR14'.out.below HBb.out)).mono ?_; rintro r wc ⟨rfl, hbc⟩; have HBc : Hid (Below w14.heap.size w14 wc) := (show Below _ _ _ from bnext HBb.out hbc); refine ⟨⟨⟨wc, HBc.out⟩, rfl⟩, ?_⟩)
        | (refine (HSX.out wa _ _ (HR14.out.below HBa.out) (HR14'.out.below HBa.out)).mono ?_; rintro r wb ⟨rfl, hbb⟩; have HBb : Hid (Below w14.heap.size w14 wb) := (show Below _ _ _ from bnext HBa.out hbb); refine ⟨⟨⟨wb, HBb.out⟩, rfl⟩, ?_⟩; refine tree_one rfl rfl ?_; go_simp; refine (HH2.out wb b ft11 _ (HA14.out.below HBb.out).rep (HR14'.out.below HBb.out)).mono ?_; rintro r wc ⟨rfl, hbc⟩; have HBc : Hid (Below w14.heap.size w14 wc) := (show Below _ _ _ from bnext HBb.out hbc); refine ⟨⟨⟨wc, HBc.out⟩, rfl⟩, ?_⟩)
      iterate 3 (refine tree_still rfl rfl ?_; go_big_quiet_step (fail); refine wpQuiet_nil ?_)
      refine tree_one rfl rfl ?_
      go_simp
      refine (alive_any wc).mono ?_
      rintro r wd ⟨rfl, hbd⟩
      have HBd : Hid (Below w14.heap.size w14 wd) := (show Below _ _ _ from bnext HBc.out hbd)
      refine ⟨⟨⟨wd, HBd.out⟩, rfl⟩, ?_⟩
      iterate 2 (refine tree_still rfl rfl ?_; go_big_quiet_step (fail); refine wpQuiet_nil ?_)
      refine tree_done ?_
      clear m0 m1 m2 m3 m4 m5 m6 m7 g0 g1 g2 g3 g4 g5 g6 g7 ne
      go_wp2
      go_ret
      exact ⟨rfl, bnext HBw.out (bnext HA14.out.bel HBd.out)⟩

theorem apart_walk (dv : Value) (ds : List Int) (e : Ent) (v : Value) (f : Ent) (v' : Value) (w : World) (hd : RdU w dv ds) (he : EOk e) (hv : Rd w v e.b) (he' : EOk f) (hv' : Rd w v' f.b) :
    Calls Try.prog 5 #[dv, ev e v, ev f v'] w fun r w' => r = .returned (.bool true) ∧ Below w.heap.size w w' := by
  by_cases h : rightB e = true ∧ rightB f = true ∧ ds.length ≤ 50
  · exact apart_main e f v v' dv ds w hd he hv he' hv' h.1 h.2.1 h.2.2
  · exact apart_dark e f v v' dv ds w hd hv hv' h
end Go.Proofs.Ytiebbglknmcnpaa
