/-
  The walk of EntrySigns: sum and signature of any entry, and whether another one's holds, by the program and by the reference.
  The walk of EntrySigns, of a right entry and of another one.
-/
import Derived.Test.YtiebbglknmcnpaaTwoE
import Derived.Test.YtiebbglknmcnpaaRefSE
import Derived.Test.YtiebbglknmcnpaaAliveE
import Derived.Test.YtiebbglknmcnpaaChain
import Derived.BigQuiet
namespace Go.Proofs.Ytiebbglknmcnpaa
section
set_option linter.unusedVariables false
set_option linter.unusedSimpArgs false
set_option synthInstance.maxSize 20000
set_option maxHeartbeats 4000000
set_option maxRecDepth 20000
open Go.RowKit Go.Maps

theorem signs_core (e f xe : Ent) (v v' v2 dv : Value) (ds : List Int) (sig A kA kB kC s p : Int) (S1 S2 S3 : St) (Q1 Q2 : Bool) (w : World)
    (hd : RdU w dv ds) (hv : Rd w v e.b) (hv' : Rd w v' f.b) (hv2 : Rd w v2 xe.b) (hb1 : e.b.length ≤ 1500) (hb2 : f.b.length ≤ 1500) (hds : ds.length ≤ 50)
    (PR : ∀ w' b fo, Rep w' b fo ⟨ds, []⟩ → Calls Try.prog 10 #[ptr b] w' fun r w'' => r = .returned (.tuple #[.int .u64 s, .int .u64 p]) ∧ Left w' b fo S1 w'')
    (RP : ∀ sb w' r fr, RefAt ⟨w, sb⟩ w' r fr ⟨ds, []⟩ → Calls Try.prog 11 #[ptr r] w' fun q w'' => q = .returned (.tuple #[.int .u64 s, .int .u64 p]) ∧ RLeft ⟨w, sb⟩ w' r fr S1 w'')
    (SM : ∀ w' b fo, Rep w' b fo S1 → Rd w' v e.b → Calls Try.prog 12 #[ptr b, ev e v] w' fun r w'' => r = .returned (.tuple #[.int .u64 A, .int .i64 kA]) ∧ Left w' b fo S2 w'')
    (RS : ∀ sb w' r fr, RefAt ⟨w, sb⟩ w' r fr S1 → Rd w' v e.b → Calls Try.prog 13 #[ptr r, ev e v] w' fun q w'' => q = .returned (.tuple #[.int .u64 A, .int .i64 kA]) ∧ ∃ ks, (∀ k ∈ ks, w'.heap.size ≤ k) ∧ RLeft ⟨w, ks ++ sb⟩ w' r fr S2 w'')
    (SG : ∀ w' b fo, Rep w' b fo S2 → Rd w' v e.b → (∀ w'', Turn fo w' w'' → Rd w'' v e.b) → Calls Try.prog 14 #[ptr b, .int .u64 s, ev e v] w' fun r w'' => ∃ y, r = .returned (.tuple #[ev xe y, .int .i64 kB]) ∧ LeftB w' b fo S3 w'' y xe.b)
    (RG : ∀ sb w' r fr, RefAt ⟨w, sb⟩ w' r fr S2 → Rd w' v e.b → Calls Try.prog 15 #[ptr r, .int .u64 s, ev e v] w' fun q w'' => q = .returned (.tuple #[ev xe v2, .int .i64 kB]) ∧ ∃ ks, (∀ k ∈ ks, w'.heap.size ≤ k) ∧ RLeft ⟨w, ks ++ sb⟩ w' r fr S3 w'')
    (SP : ∀ w' b fo, Rep w' b fo S3 → Rd w' v e.b → Calls Try.prog 14 #[ptr b, .int .u64 p, ev e v] w' fun r w'' => r = .returned (.tuple #[ev zeroE (.slice none 0 0), .int .i64 kC]) ∧ Left w' b fo S3 w'')
    (RQ : ∀ sb w' r fr, RefAt ⟨w, sb⟩ w' r fr S3 → Rd w' v e.b → Calls Try.prog 15 #[ptr r, .int .u64 p, ev e v] w' fun q w'' => q = .returned (.tuple #[ev zeroE (.slice none 0 0), .int .i64 kC]) ∧ ∃ ks, (∀ k ∈ ks, w'.heap.size ≤ k) ∧ RLeft ⟨w, ks ++ sb⟩ w' r fr S3 w'')
    (H1 : ∀ w' b fo y, Rep w' b fo S3 → Rd w' y xe.b → Calls Try.prog 17 #[ptr b, .int .u64 p, ev xe y] w' fun r w'' => r = .returned (.bool Q1) ∧ Below w'.heap.size w' w'')
    (G1 : ∀ sb w' r fr y, RefAt ⟨w, sb⟩ w' r fr S3 → Rd w' y xe.b → Calls Try.prog 18 #[ptr r, .int .u64 p, ev xe y] w' fun q w'' => q = .returned (.bool Q1) ∧ Below w'.heap.size w' w'')
    (H2 : ∀ w' b fo y, Rep w' b fo S3 → Rd w' y f.b → Calls Try.prog 17 #[ptr b, .int .u64 p, ev { f with g := sig } y] w' fun r w'' => r = .returned (.bool Q2) ∧ Below w'.heap.size w' w'')
    (G2 : ∀ sb w' r fr y, RefAt ⟨w, sb⟩ w' r fr S3 → Rd w' y f.b → Calls Try.prog 18 #[ptr r, .int .u64 p, ev { f with g := sig } y] w' fun q w'' => q = .returned (.bool Q2) ∧ Below w'.heap.size w' w'') :
    Calls Try.prog 3 #[dv, ev e v, ev f v', .int .u64 sig] w fun r w' => r = .returned (.bool true) ∧ Below w.heap.size w w' := by
  have HV : Hid (Rd w v e.b) := hv
  have HV' : Hid (Rd w v' f.b) := hv'
  have HV2 : Hid (Rd w v2 xe.b) := hv2
  have HD : Hid (RdU w dv ds) := hd
  have L1 := fun w' (h : Rd w' v e.b) => light_any e v w' h
  have L2 := fun w' (h : Rd w' v' f.b) => light_any f v' w' h
  have SX := fun w' y z (h : Rd w' y xe.b) (h' : Rd w' z xe.b) => refsameE_any w' xe xe y z h h'
  rw [(sameB_iff xe xe).2 rfl] at SX
  rw [decide_eq_true hb1] at L1
  rw [decide_eq_true hb2] at L2
  obtain ⟨_, ad, cd, rfl, hd1, hd2, _⟩ := hd
  unfold maxLen at hd2
  obtain ⟨a, cap, rfl⟩ := hv.len
  obtain ⟨a', cap', rfl⟩ := hv'.len
  obtain ⟨a2, cap2, rfl⟩ := hv2.len
  obtain ⟨ew, ei, ep, et, eu, en, eb, eg⟩ := e
  obtain ⟨fw, fi, fp, ft, fu, fn, fb, fg⟩ := f
  obtain ⟨xw, xi, xp, xt, xu, xn, xb, xg⟩ := xe
  unfold zeroE at SP RQ
  unfold ev at *
  dsimp only at *
  have HL1 : Hid (∀ w', Rd w' (.slice a eb.length cap) eb → Calls Try.prog 7 #[.agg #[.int .i64 ew, .int .i64 ei, .int .u64 ep, .int .i64 et, .int .i64 eu, .int .i64 en, .slice a eb.length cap, .int .u64 eg]] w' fun r w'' => r = .returned (.bool true) ∧ Below w'.heap.size w' w'') := L1
  have HL2 : Hid (∀ w', Rd w' (.slice a' fb.length cap') fb → Calls Try.prog 7 #[.agg #[.int .i64 fw, .int .i64 fi, .int .u64 fp, .int .i64 ft, .int .i64 fu, .int .i64 fn, .slice a' fb.length cap', .int .u64 fg]] w' fun r w'' => r = .returned (.bool true) ∧ Below w'.heap.size w' w'') := L2
  have HPR : Hid (∀ w' b fo, Rep w' b fo ⟨ds, []⟩ → Calls Try.prog 10 #[ptr b] w' fun r w'' => r = .returned (.tuple #[.int .u64 s, .int .u64 p]) ∧ Left w' b fo S1 w'') := PR
  have HRP : Hid (∀ sb w' r fr, RefAt ⟨w, sb⟩ w' r fr ⟨ds, []⟩ → Calls Try.prog 11 #[ptr r] w' fun q w'' => q = .returned (.tuple #[.int .u64 s, .int .u64 p]) ∧ RLeft ⟨w, sb⟩ w' r fr S1 w'') := RP
  have HSM : Hid (∀ w' b fo, Rep w' b fo S1 → Rd w' (.slice a eb.length cap) eb → Calls Try.prog 12 #[ptr b, .agg #[.int .i64 ew, .int .i64 ei, .int .u64 ep, .int .i64 et, .int .i64 eu, .int .i64 en, .slice a eb.length cap, .int .u64 eg]] w' fun r w'' => r = .returned (.tuple #[.int .u64 A, .int .i64 kA]) ∧ Left w' b fo S2 w'') := SM
  have HRS : Hid (∀ sb w' r fr, RefAt ⟨w, sb⟩ w' r fr S1 → Rd w' (.slice a eb.length cap) eb → Calls Try.prog 13 #[ptr r, .agg #[.int .i64 ew, .int .i64 ei, .int .u64 ep, .int .i64 et, .int .i64 eu, .int .i64 en, .slice a eb.length cap, .int .u64 eg]] w' fun q w'' => q = .returned (.tuple #[.int .u64 A, .int .i64 kA]) ∧ ∃ ks, (∀ k ∈ ks, w'.heap.size ≤ k) ∧ RLeft ⟨w, ks ++ sb⟩ w' r fr S2 w'') := RS
  have HSG : Hid (∀ w' b fo, Rep w' b fo S2 → Rd w' (.slice a eb.length cap) eb → (∀ w'', Turn fo w' w'' → Rd w'' (.slice a eb.length cap) eb) → Calls Try.prog 14 #[ptr b, .int .u64 s, .agg #[.int .i64 ew, .int .i64 ei, .int .u64 ep, .int .i64 et, .int .i64 eu, .int .i64 en, .slice a eb.length cap, .int .u64 eg]] w' fun r w'' => ∃ y, r = .returned (.tuple #[.agg #[.int .i64 xw, .int .i64 xi, .int .u64 xp, .int .i64 xt, .int .i64 xu, .int .i64 xn, y, .int .u64 xg], .int .i64 kB]) ∧ LeftB w' b fo S3 w'' y xb) := SG
  have HRG : Hid (∀ sb w' r fr, RefAt ⟨w, sb⟩ w' r fr S2 → Rd w' (.slice a eb.length cap) eb → Calls Try.prog 15 #[ptr r, .int .u64 s, .agg #[.int .i64 ew, .int .i64 ei, .int .u64 ep, .int .i64 et, .int .i64 eu, .int .i64 en, .slice a eb.length cap, .int .u64 eg]] w' fun q w'' => q = .returned (.tuple #[.agg #[.int .i64 xw, .int .i64 xi, .int .u64 xp, .int .i64 xt, .int .i64 xu, .int .i64 xn, .slice a2 xb.length cap2, .int .u64 xg], .int .i64 kB]) ∧ ∃ ks, (∀ k ∈ ks, w'.heap.size ≤ k) ∧ RLeft ⟨w, ks ++ sb⟩ w' r fr S3 w'') := RG
  have HSP : Hid (∀ w' b fo, Rep w' b fo S3 → Rd w' (.slice a eb.length cap) eb → Calls Try.prog 14 #[ptr b, .int .u64 p, .agg #[.int .i64 ew, .int .i64 ei, .int .u64 ep, .int .i64 et, .int .i64 eu, .int .i64 en, .slice a eb.length cap, .int .u64 eg]] w' fun r w'' => r = .returned (.tuple #[.agg #[.int .i64 0, .int .i64 0, .int .u64 0, .int .i64 0, .int .i64 0, .int .i64 0, .slice none 0 0, .int .u64 0], .int .i64 kC]) ∧ Left w' b fo S3 w'') := SP
  have HRQ : Hid (∀ sb w' r fr, RefAt ⟨w, sb⟩ w' r fr S3 → Rd w' (.slice a eb.length cap) eb → Calls Try.prog 15 #[ptr r, .int .u64 p, .agg #[.int .i64 ew, .int .i64 ei, .int .u64 ep, .int .i64 et, .int .i64 eu, .int .i64 en, .slice a eb.length cap, .int .u64 eg]] w' fun q w'' => q = .returned (.tuple #[.agg #[.int .i64 0, .int .i64 0, .int .u64 0, .int .i64 0, .int .i64 0, .int .i64 0, .slice none 0 0, .int .u64 0], .int .i64 kC]) ∧ ∃ ks, (∀ k ∈ ks, w'.heap.size ≤ k) ∧ RLeft ⟨w, ks ++ sb⟩ w' r fr S3 w'') := RQ
  have HH1 : Hid (∀ w' b fo y, Rep w' b fo S3 → Rd w' y xb → Calls Try.prog 17 #[ptr b, .int .u64 p, .agg #[.int .i64 xw, .int .i64 xi, .int .u64 xp, .int .i64 xt, .int .i64 xu, .int .i64 xn, y, .int .u64 xg]] w' fun r w'' => r = .returned (.bool Q1) ∧ Below w'.heap.size w' w'') := H1
  have HG1 : Hid (∀ sb w' r fr y, RefAt ⟨w, sb⟩ w' r fr S3 → Rd w' y xb → Calls Try.prog 18 #[ptr r, .int .u64 p, .agg #[.int .i64 xw, .int .i64 xi, .int .u64 xp, .int .i64 xt, .int .i64 xu, .int .i64 xn, y, .int .u64 xg]] w' fun q w'' => q = .returned (.bool Q1) ∧ Below w'.heap.size w' w'') := G1
  have HH2 : Hid (∀ w' b fo y, Rep w' b fo S3 → Rd w' y fb → Calls Try.prog 17 #[ptr b, .int .u64 p, .agg #[.int .i64 fw, .int .i64 fi, .int .u64 fp, .int .i64 ft, .int .i64 fu, .int .i64 fn, y, .int .u64 sig]] w' fun r w'' => r = .returned (.bool Q2) ∧ Below w'.heap.size w' w'') := H2
  have HG2 : Hid (∀ sb w' r fr y, RefAt ⟨w, sb⟩ w' r fr S3 → Rd w' y fb → Calls Try.prog 18 #[ptr r, .int .u64 p, .agg #[.int .i64 fw, .int .i64 fi, .int .u64 fp, .int .i64 ft, .int .i64 fu, .int .i64 fn, y, .int .u64 sig]] w' fun q w'' => q = .returned (.bool Q2) ∧ Below w'.heap.size w' w'') := G2
  have HSX : Hid (∀ w' y z, Rd w' y xb → Rd w' z xb → Calls Try.prog 16 #[.agg #[.int .i64 xw, .int .i64 xi, .int .u64 xp, .int .i64 xt, .int .i64 xu, .int .i64 xn, y, .int .u64 xg], .agg #[.int .i64 xw, .int .i64 xi, .int .u64 xp, .int .i64 xt, .int .i64 xu, .int .i64 xn, z, .int .u64 xg]] w' fun r w'' => r = .returned (.bool true) ∧ Below w'.heap.size w' w'') := SX
  have hds' : ¬ 50 < (ds.length : Int) := by omega
  obtain ⟨w1, hw1⟩ : ∃ w1, w1 = (w.alloc (.cells #[.int .i64 ew, .int .i64 ei, .int .u64 ep, .int .i64 et, .int .i64 eu, .int .i64 en, .slice a eb.length cap, .int .u64 eg] 28)).alloc (.cells #[.int .i64 fw, .int .i64 fi, .int .u64 fp, .int .i64 ft, .int .i64 fu, .int .i64 fn, .slice a' fb.length cap', .int .u64 fg] 28) := ⟨_, rfl⟩
  have HB1 : Hid (Below w.heap.size w w1) := by show Below _ _ _; rw [hw1]; exact balloc (balloc (Below.refl _ _) _) _
  have HX1 : Hid (Blk w1 w.heap.size 28 [.int .i64 ew, .int .i64 ei, .int .u64 ep, .int .i64 et, .int .i64 eu, .int .i64 en, .slice a eb.length cap, .int .u64 eg]) := by show Blk _ _ _ _; rw [hw1]; exact (blk_new w [.int .i64 ew, .int .i64 ei, .int .u64 ep, .int .i64 et, .int .i64 eu, .int .i64 en, .slice a eb.length cap, .int .u64 eg] 28).alloc _
  have HY1 : Hid (Blk w1 (w.heap.size + 1) 28 [.int .i64 fw, .int .i64 fi, .int .u64 fp, .int .i64 ft, .int .i64 fu, .int .i64 fn, .slice a' fb.length cap', .int .u64 fg]) := by
    show Blk _ _ _ _
    rw [hw1]
    have := blk_new (w.alloc (.cells #[.int .i64 ew, .int .i64 ei, .int .u64 ep, .int .i64 et, .int .i64 eu, .int .i64 en, .slice a eb.length cap, .int .u64 eg] 28)) [.int .i64 fw, .int .i64 fi, .int .u64 fp, .int .i64 ft, .int .i64 fu, .int .i64 fn, .slice a' fb.length cap', .int .u64 fg] 28
    simpa using this
  clear L1 L2 PR RP SM RS SG RG SP RQ H1 G1 H2 G2 SX hv hv' hv2
  go_enter Try.func3, Try.ntmps3
  go_upto_region 1 with fail
  rw [← hw1]
  obtain ⟨n, hn⟩ : ∃ n, n = w.heap.size := ⟨_, rfl⟩
  rw [← hn] at HX1 HY1 ⊢
  have HNN : Hid (n = w.heap.size) := hn
  clear hw1 hn
  have x0 := HX1.out.cell 0 _ rfl
  have x1 := HX1.out.cell 1 _ rfl
  have x2 := HX1.out.cell 2 _ rfl
  have x3 := HX1.out.cell 3 _ rfl
  have x4 := HX1.out.cell 4 _ rfl
  have x5 := HX1.out.cell 5 _ rfl
  have x6 := HX1.out.cell 6 _ rfl
  have x7 := HX1.out.cell 7 _ rfl
  go_upto_region 3 with (first
    | (go_at_call 7; first
        | (refine (HL1.out w1 (HV.out.below HB1.out)).mono ?_; rintro r w2 ⟨rfl, hb2⟩; have Y2 := HY1.out.below hb2; have y0 := Y2.cell 0 _ rfl; have y1 := Y2.cell 1 _ rfl; have y2 := Y2.cell 2 _ rfl; have y3 := Y2.cell 3 _ rfl; have y4 := Y2.cell 4 _ rfl; have y5 := Y2.cell 5 _ rfl; have y6 := Y2.cell 6 _ rfl; have y7 := Y2.cell 7 _ rfl; clear HL1)
        | (refine (HL2.out w2 (HV'.out.below (bnext HB1.out hb2))).mono ?_; rintro r w3 ⟨rfl, hb3⟩)))
  have HBw : Hid (Below w.heap.size w w3) := (show Below _ _ _ from bnext (bnext HB1.out hb2) hb3)
  have HX3 : Hid (Blk w3 n 28 [.int .i64 ew, .int .i64 ei, .int .u64 ep, .int .i64 et, .int .i64 eu, .int .i64 en, .slice a eb.length cap, .int .u64 eg]) := HX1.out.below (bnext hb2 hb3)
  have HY3 : Hid (Blk w3 (n + 1) 28 [.int .i64 fw, .int .i64 fi, .int .u64 fp, .int .i64 ft, .int .i64 fu, .int .i64 fn, .slice a' fb.length cap', .int .u64 fg]) := HY1.out.below (bnext hb2 hb3)
  have HD3 : Hid (RdU w3 (.slice ad ds.length cd) ds) := HD.out.turn (ft := []) (Turn.of_below HBw.out) (fun k hk e => by cases e)
  clear x0 x1 x2 x3 x4 x5 x6 x7 y0 y1 y2 y3 y4 y5 y6 y7
  clear hb2 hb3 Y2 HX1 HY1 HB1
  go_upto_region 4 with (go_at_call 9; go_must (refine (new_any _ ds w3 HD3.out (by omega)).mono ?_; rintro r w4 ⟨b, rfl, ⟨fo, hrep4, hn4⟩, hb4⟩))
  obtain ⟨w5, hw5⟩ : ∃ w5, w5 = w4.alloc (.cells #[.slice ad ds.length cd, .slice none 0 0] 36) := ⟨_, rfl⟩
  rw [← hw5]
  have HB5 : Hid (Below w4.heap.size w4 w5) := by show Below _ _ _; rw [hw5]; exact balloc (Below.refl _ _) _
  have hA4 : At w w4 b fo ⟨ds, []⟩ := ⟨hrep4, fun k hk => Nat.le_trans HBw.out.size (hn4 k hk), bnext HBw.out hb4⟩
  have hR5 : RefAt ⟨w, []⟩ w5 w4.heap.size [w4.heap.size] ⟨ds, []⟩ := by rw [hw5]; exact ref0 w w4 hA4.bel _ ds HD.out
  have h5 : Two w w5 b fo w4.heap.size [w4.heap.size] [] [n, n + 1] ⟨ds, []⟩ ⟨ds, []⟩ := by
    have hY := HY3.out.lt
    have h4 := hb4.size
    have h45 := HB5.out.size
    have hw := HNN.out
    refine ⟨hA4.below HB5.out, hR5, fun k hk e => ?_, (fun k hk e => by cases e), fun k hk => ?_⟩
    · have h1 := hrep4.room k hk
      simp at e
      omega
    · have hk' : k = n ∨ k = n + 1 := by simpa using hk
      refine ⟨fun e => ?_, fun e => ?_, (fun e => by cases e), by omega, by omega⟩
      · have := hn4 k e; omega
      · simp at e; omega
  obtain ⟨r, hr⟩ : ∃ r, r = w4.heap.size := ⟨_, rfl⟩
  rw [← hr] at h5 ⊢
  have H5 : Hid (Two w w5 b fo r [r] [] [n, n + 1] ⟨ds, []⟩ ⟨ds, []⟩) := h5
  have HX5 : Hid (Blk w5 n 28 [.int .i64 ew, .int .i64 ei, .int .u64 ep, .int .i64 et, .int .i64 eu, .int .i64 en, .slice a eb.length cap, .int .u64 eg]) := (HX3.out.below hb4).below HB5.out
  have HY5 : Hid (Blk w5 (n + 1) 28 [.int .i64 fw, .int .i64 fi, .int .u64 fp, .int .i64 ft, .int .i64 fu, .int .i64 fn, .slice a' fb.length cap', .int .u64 fg]) := (HY3.out.below hb4).below HB5.out
  clear hw5 hR5 h5 hA4 hrep4 hn4 hb4 hr HB5 HX3 HY3 HD3
  go_upto_region 5 with (go_at_call 10; go_must (refine (HPR.out w5 b fo H5.out.a.rep).mono ?_; rintro q w6 ⟨rfl, hl6⟩))
  obtain ⟨f6, h6, k6⟩ := H5.out.left hl6
  have H6 : Hid (Two w w6 b f6 r [r] [] [n, n + 1] S1 ⟨ds, []⟩) := h6
  have HX6 : Hid (Blk w6 n 28 [.int .i64 ew, .int .i64 ei, .int .u64 ep, .int .i64 et, .int .i64 eu, .int .i64 en, .slice a eb.length cap, .int .u64 eg]) := HX5.out.block (k6 n (by simp))
  have HY6 : Hid (Blk w6 (n + 1) 28 [.int .i64 fw, .int .i64 fi, .int .u64 fp, .int .i64 ft, .int .i64 fu, .int .i64 fn, .slice a' fb.length cap', .int .u64 fg]) := HY5.out.block (k6 (n + 1) (by simp))
  clear hl6 h6 k6 H5 HX5 HY5
  go_upto_region 6 with (go_at_call 11; go_must (refine (HRP.out [] w6 r [r] H6.out.f).mono ?_; rintro q w7 ⟨rfl, hl7⟩))
  obtain ⟨g7, h7, k7⟩ := H6.out.rleft (ks := []) (by simp) hl7
  have H7 : Hid (Two w w7 b f6 r g7 [] [n, n + 1] S1 S1) := h7
  have HX7 : Hid (Blk w7 n 28 [.int .i64 ew, .int .i64 ei, .int .u64 ep, .int .i64 et, .int .i64 eu, .int .i64 en, .slice a eb.length cap, .int .u64 eg]) := HX6.out.block (k7 n (by simp))
  have HY7 : Hid (Blk w7 (n + 1) 28 [.int .i64 fw, .int .i64 fi, .int .u64 fp, .int .i64 ft, .int .i64 fu, .int .i64 fn, .slice a' fb.length cap', .int .u64 fg]) := HY6.out.block (k7 (n + 1) (by simp))
  clear hl7 h7 k7 H6 HX6 HY6
  have x0 := HX7.out.cell 0 _ rfl
  have x1 := HX7.out.cell 1 _ rfl
  have x2 := HX7.out.cell 2 _ rfl
  have x3 := HX7.out.cell 3 _ rfl
  have x4 := HX7.out.cell 4 _ rfl
  have x5 := HX7.out.cell 5 _ rfl
  have x6 := HX7.out.cell 6 _ rfl
  have x7 := HX7.out.cell 7 _ rfl
  go_upto_region 7 with (go_at_call 12; go_must (refine (HSM.out w7 b f6 H7.out.a.rep (H7.out.a.rd HV.out)).mono ?_; rintro q w8 ⟨rfl, hl8⟩))
  obtain ⟨f8, h8, k8⟩ := H7.out.left hl8
  have H8 : Hid (Two w w8 b f8 r g7 [] [n, n + 1] S2 S1) := h8
  have HX8 : Hid (Blk w8 n 28 [.int .i64 ew, .int .i64 ei, .int .u64 ep, .int .i64 et, .int .i64 eu, .int .i64 en, .slice a eb.length cap, .int .u64 eg]) := HX7.out.block (k8 n (by simp))
  have HY8 : Hid (Blk w8 (n + 1) 28 [.int .i64 fw, .int .i64 fi, .int .u64 fp, .int .i64 ft, .int .i64 fu, .int .i64 fn, .slice a' fb.length cap', .int .u64 fg]) := HY7.out.block (k8 (n + 1) (by simp))
  clear x0 x1 x2 x3 x4 x5 x6 x7
  clear hl8 h8 k8 H7 HX7 HY7
  have x0 := HX8.out.cell 0 _ rfl
  have x1 := HX8.out.cell 1 _ rfl
  have x2 := HX8.out.cell 2 _ rfl
  have x3 := HX8.out.cell 3 _ rfl
  have x4 := HX8.out.cell 4 _ rfl
  have x5 := HX8.out.cell 5 _ rfl
  have x6 := HX8.out.cell 6 _ rfl
  have x7 := HX8.out.cell 7 _ rfl
  go_upto_region 8 with (go_at_call 13; go_must (refine (HRS.out [] w8 r g7 H8.out.f (H8.out.a.rd HV.out)).mono ?_; rintro q w9 ⟨rfl, ks9, hks9, hl9⟩))
  obtain ⟨g9, h9, k9⟩ := H8.out.rleft hks9 hl9
  obtain ⟨sb9, hsb9⟩ : ∃ sb9, sb9 = ks9 ++ [] := ⟨_, rfl⟩
  rw [← hsb9] at h9
  have H9 : Hid (Two w w9 b f8 r g9 sb9 [n, n + 1] S2 S2) := h9
  have HX9 : Hid (Blk w9 n 28 [.int .i64 ew, .int .i64 ei, .int .u64 ep, .int .i64 et, .int .i64 eu, .int .i64 en, .slice a eb.length cap, .int .u64 eg]) := HX8.out.block (k9 n (by simp))
  have HY9 : Hid (Blk w9 (n + 1) 28 [.int .i64 fw, .int .i64 fi, .int .u64 fp, .int .i64 ft, .int .i64 fu, .int .i64 fn, .slice a' fb.length cap', .int .u64 fg]) := HY8.out.block (k9 (n + 1) (by simp))
  clear x0 x1 x2 x3 x4 x5 x6 x7
  clear hl9 h9 k9 hks9 hsb9 H8 HX8 HY8
  have x0 := HX9.out.cell 0 _ rfl
  have x1 := HX9.out.cell 1 _ rfl
  have x2 := HX9.out.cell 2 _ rfl
  have x3 := HX9.out.cell 3 _ rfl
  have x4 := HX9.out.cell 4 _ rfl
  have x5 := HX9.out.cell 5 _ rfl
  have x6 := HX9.out.cell 6 _ rfl
  have x7 := HX9.out.cell 7 _ rfl
  go_upto_region 9 with (go_at_call 14; go_must (refine (HSG.out w9 b f8 H9.out.a.rep (H9.out.a.rd HV.out) (H9.out.a.rds HV.out)).mono ?_; rintro q w10 ⟨y, rfl, hl10⟩; obtain ⟨ay, cy, hy⟩ := hl10.1.len; subst hy))
  obtain ⟨f10, h10, hry10, k10⟩ := H9.out.leftB hl10
  obtain ⟨w11, hw11⟩ : ∃ w11, w11 = w10.alloc (.cells #[.int .i64 xw, .int .i64 xi, .int .u64 xp, .int .i64 xt, .int .i64 xu, .int .i64 xn, .slice ay xb.length cy, .int .u64 xg] 28) := ⟨_, rfl⟩
  rw [← hw11]
  have HB11 : Hid (Below w10.heap.size w10 w11) := by show Below _ _ _; rw [hw11]; exact balloc (Below.refl _ _) _
  have h11 := h10.box (.cells #[.int .i64 xw, .int .i64 xi, .int .u64 xp, .int .i64 xt, .int .i64 xu, .int .i64 xn, .slice ay xb.length cy, .int .u64 xg] 28)
  have HM11 : Hid (Blk w11 w10.heap.size 28 [.int .i64 xw, .int .i64 xi, .int .u64 xp, .int .i64 xt, .int .i64 xu, .int .i64 xn, .slice ay xb.length cy, .int .u64 xg]) := by show Blk _ _ _ _; rw [hw11]; exact blk_new w10 [.int .i64 xw, .int .i64 xi, .int .u64 xp, .int .i64 xt, .int .i64 xu, .int .i64 xn, .slice ay xb.length cy, .int .u64 xg] 28
  rw [← hw11] at h11
  have HR11 : Hid (Rd w11 (.slice ay xb.length cy) xb) := hry10.below HB11.out
  have HX11 : Hid (Blk w11 n 28 [.int .i64 ew, .int .i64 ei, .int .u64 ep, .int .i64 et, .int .i64 eu, .int .i64 en, .slice a eb.length cap, .int .u64 eg]) := (HX9.out.block (k10 n (by simp))).below HB11.out
  have HY11 : Hid (Blk w11 (n + 1) 28 [.int .i64 fw, .int .i64 fi, .int .u64 fp, .int .i64 ft, .int .i64 fu, .int .i64 fn, .slice a' fb.length cap', .int .u64 fg]) := (HY9.out.block (k10 (n + 1) (by simp))).below HB11.out
  obtain ⟨m, hm⟩ : ∃ m, m = w10.heap.size := ⟨_, rfl⟩
  have HNM : Hid (n + 1 < m) := by show _ < _; rw [hm]; exact (HY9.out.block (k10 (n + 1) (by simp))).lt
  rw [← hm] at h11 HM11 ⊢
  obtain ⟨ky, hky⟩ : ∃ ky, ky = ksOf (.slice ay xb.length cy) := ⟨_, rfl⟩
  rw [← hky] at h11
  have HKY : Hid (ky = ksOf (.slice ay xb.length cy)) := hky
  have H11 : Hid (Two w w11 b f10 r g9 sb9 ([m] ++ (ky ++ [n, n + 1])) S3 S2) := h11
  clear x0 x1 x2 x3 x4 x5 x6 x7
  clear hl10 h10 h11 k10 hw11 hm hky hry10 H9 HX9 HY9 HB11
  have x0 := HX11.out.cell 0 _ rfl
  have x1 := HX11.out.cell 1 _ rfl
  have x2 := HX11.out.cell 2 _ rfl
  have x3 := HX11.out.cell 3 _ rfl
  have x4 := HX11.out.cell 4 _ rfl
  have x5 := HX11.out.cell 5 _ rfl
  have x6 := HX11.out.cell 6 _ rfl
  have x7 := HX11.out.cell 7 _ rfl
  go_upto_region 10 with (go_at_call 15; go_must (refine (HRG.out sb9 w11 r g9 H11.out.f (H11.out.a.rd HV.out)).mono ?_; rintro q w12 ⟨rfl, ks12, hks12, hl12⟩))
  obtain ⟨g12, h12, k12⟩ := H11.out.rleft hks12 hl12
  obtain ⟨w13, hw13⟩ : ∃ w13, w13 = w12.alloc (.cells #[.int .i64 xw, .int .i64 xi, .int .u64 xp, .int .i64 xt, .int .i64 xu, .int .i64 xn, .slice a2 xb.length cap2, .int .u64 xg] 28) := ⟨_, rfl⟩
  rw [← hw13]
  have HB13 : Hid (Below w12.heap.size w12 w13) := by show Below _ _ _; rw [hw13]; exact balloc (Below.refl _ _) _
  have h13 := h12.box (.cells #[.int .i64 xw, .int .i64 xi, .int .u64 xp, .int .i64 xt, .int .i64 xu, .int .i64 xn, .slice a2 xb.length cap2, .int .u64 xg] 28)
  have HN13 : Hid (Blk w13 w12.heap.size 28 [.int .i64 xw, .int .i64 xi, .int .u64 xp, .int .i64 xt, .int .i64 xu, .int .i64 xn, .slice a2 xb.length cap2, .int .u64 xg]) := by show Blk _ _ _ _; rw [hw13]; exact blk_new w12 [.int .i64 xw, .int .i64 xi, .int .u64 xp, .int .i64 xt, .int .i64 xu, .int .i64 xn, .slice a2 xb.length cap2, .int .u64 xg] 28
  rw [← hw13] at h13
  have HM13 : Hid (Blk w13 m 28 [.int .i64 xw, .int .i64 xi, .int .u64 xp, .int .i64 xt, .int .i64 xu, .int .i64 xn, .slice ay xb.length cy, .int .u64 xg]) := (HM11.out.block (k12 m (by simp))).below HB13.out
  have HR13 : Hid (Rd w13 (.slice ay xb.length cy) xb) := (HR11.out.keep (fun k hk => k12 k (by rw [← HKY.out] at hk; simp [hk]))).below HB13.out
  have HX13 : Hid (Blk w13 n 28 [.int .i64 ew, .int .i64 ei, .int .u64 ep, .int .i64 et, .int .i64 eu, .int .i64 en, .slice a eb.length cap, .int .u64 eg]) := (HX11.out.block (k12 n (by simp))).below HB13.out
  have HY13 : Hid (Blk w13 (n + 1) 28 [.int .i64 fw, .int .i64 fi, .int .u64 fp, .int .i64 ft, .int .i64 fu, .int .i64 fn, .slice a' fb.length cap', .int .u64 fg]) := (HY11.out.block (k12 (n + 1) (by simp))).below HB13.out
  obtain ⟨m2, hm2⟩ : ∃ m2, m2 = w12.heap.size := ⟨_, rfl⟩
  have HNM2 : Hid (n + 1 < m2) := by show _ < _; rw [hm2]; exact (HY11.out.block (k12 (n + 1) (by simp))).lt
  rw [← hm2] at h13 HN13 ⊢
  obtain ⟨sb13, hsb13⟩ : ∃ sb13, sb13 = ks12 ++ sb9 := ⟨_, rfl⟩
  rw [← hsb13] at h13
  have H13 : Hid (Two w w13 b f10 r g12 sb13 ([m2] ++ ([m] ++ (ky ++ [n, n + 1]))) S3 S3) := h13
  clear x0 x1 x2 x3 x4 x5 x6 x7
  clear hl12 h12 h13 k12 hw13 hm2 hks12 hsb13 H11 HM11 HR11 HX11 HY11 HB13
  have x0 := HX13.out.cell 0 _ rfl
  have x1 := HX13.out.cell 1 _ rfl
  have x2 := HX13.out.cell 2 _ rfl
  have x3 := HX13.out.cell 3 _ rfl
  have x4 := HX13.out.cell 4 _ rfl
  have x5 := HX13.out.cell 5 _ rfl
  have x6 := HX13.out.cell 6 _ rfl
  have x7 := HX13.out.cell 7 _ rfl
  go_upto_region 11 with (go_at_call 14; go_must (refine (HSP.out w13 b f10 H13.out.a.rep (H13.out.a.rd HV.out)).mono ?_; rintro q w14 ⟨rfl, hl14⟩))
  obtain ⟨f14, h14, k14⟩ := H13.out.left hl14
  obtain ⟨w15, hw15⟩ : ∃ w15, w15 = w14.alloc (.cells #[.int .i64 0, .int .i64 0, .int .u64 0, .int .i64 0, .int .i64 0, .int .i64 0, .slice none 0 0, .int .u64 0] 28) := ⟨_, rfl⟩
  rw [← hw15]
  have HB15 : Hid (Below w14.heap.size w14 w15) := by show Below _ _ _; rw [hw15]; exact balloc (Below.refl _ _) _
  have H15 : Hid (Two w w15 b f14 r g12 sb13 ([m2] ++ ([m] ++ (ky ++ [n, n + 1]))) S3 S3) := h14.below HB15.out
  have HN15 : Hid (Blk w15 m2 28 [.int .i64 xw, .int .i64 xi, .int .u64 xp, .int .i64 xt, .int .i64 xu, .int .i64 xn, .slice a2 xb.length cap2, .int .u64 xg]) := (HN13.out.block (k14 m2 (by simp))).below HB15.out
  have HM15 : Hid (Blk w15 m 28 [.int .i64 xw, .int .i64 xi, .int .u64 xp, .int .i64 xt, .int .i64 xu, .int .i64 xn, .slice ay xb.length cy, .int .u64 xg]) := (HM13.out.block (k14 m (by simp))).below HB15.out
  have HR15 : Hid (Rd w15 (.slice ay xb.length cy) xb) := (HR13.out.keep (fun k hk => k14 k (by rw [← HKY.out] at hk; simp [hk]))).below HB15.out
  have HX15 : Hid (Blk w15 n 28 [.int .i64 ew, .int .i64 ei, .int .u64 ep, .int .i64 et, .int .i64 eu, .int .i64 en, .slice a eb.length cap, .int .u64 eg]) := (HX13.out.block (k14 n (by simp))).below HB15.out
  have HY15 : Hid (Blk w15 (n + 1) 28 [.int .i64 fw, .int .i64 fi, .int .u64 fp, .int .i64 ft, .int .i64 fu, .int .i64 fn, .slice a' fb.length cap', .int .u64 fg]) := (HY13.out.block (k14 (n + 1) (by simp))).below HB15.out
  obtain ⟨m3, hm3⟩ : ∃ m3, m3 = w14.heap.size := ⟨_, rfl⟩
  rw [← hm3]
  clear x0 x1 x2 x3 x4 x5 x6 x7
  clear hl14 h14 k14 hw15 hm3 H13 HN13 HM13 HR13 HX13 HY13 HB15
  have x0 := HX15.out.cell 0 _ rfl
  have x1 := HX15.out.cell 1 _ rfl
  have x2 := HX15.out.cell 2 _ rfl
  have x3 := HX15.out.cell 3 _ rfl
  have x4 := HX15.out.cell 4 _ rfl
  have x5 := HX15.out.cell 5 _ rfl
  have x6 := HX15.out.cell 6 _ rfl
  have x7 := HX15.out.cell 7 _ rfl
  go_upto_region 12 with (go_at_call 15; go_must (refine (HRQ.out sb13 w15 r g12 H15.out.f (H15.out.a.rd HV.out)).mono ?_; rintro q w16 ⟨rfl, ks16, hks16, hl16⟩))
  obtain ⟨g16, h16, k16⟩ := H15.out.rleft hks16 hl16
  obtain ⟨w17, hw17⟩ : ∃ w17, w17 = w16.alloc (.cells #[.int .i64 0, .int .i64 0, .int .u64 0, .int .i64 0, .int .i64 0, .int .i64 0, .slice none 0 0, .int .u64 0] 28) := ⟨_, rfl⟩
  rw [← hw17]
  have HB17 : Hid (Below w16.heap.size w16 w17) := by show Below _ _ _; rw [hw17]; exact balloc (Below.refl _ _) _
  obtain ⟨sb17, hsb17⟩ : ∃ sb17, sb17 = ks16 ++ sb13 := ⟨_, rfl⟩
  rw [← hsb17] at h16
  have H17 : Hid (Two w w17 b f14 r g16 sb17 ([m2] ++ ([m] ++ (ky ++ [n, n + 1]))) S3 S3) := h16.below HB17.out
  have HN17 : Hid (Blk w17 m2 28 [.int .i64 xw, .int .i64 xi, .int .u64 xp, .int .i64 xt, .int .i64 xu, .int .i64 xn, .slice a2 xb.length cap2, .int .u64 xg]) := (HN15.out.block (k16 m2 (by simp))).below HB17.out
  have HM17 : Hid (Blk w17 m 28 [.int .i64 xw, .int .i64 xi, .int .u64 xp, .int .i64 xt, .int .i64 xu, .int .i64 xn, .slice ay xb.length cy, .int .u64 xg]) := (HM15.out.block (k16 m (by simp))).below HB17.out
  have HR17 : Hid (Rd w17 (.slice ay xb.length cy) xb) := (HR15.out.keep (fun k hk => k16 k (by rw [← HKY.out] at hk; simp [hk]))).below HB17.out
  have HY17 : Hid (Blk w17 (n + 1) 28 [.int .i64 fw, .int .i64 fi, .int .u64 fp, .int .i64 ft, .int .i64 fu, .int .i64 fn, .slice a' fb.length cap', .int .u64 fg]) := (HY15.out.block (k16 (n + 1) (by simp))).below HB17.out
  obtain ⟨m4, hm4⟩ : ∃ m4, m4 = w16.heap.size := ⟨_, rfl⟩
  rw [← hm4]
  clear x0 x1 x2 x3 x4 x5 x6 x7
  clear hl16 h16 k16 hw17 hm4 hks16 hsb17 H15 HN15 HM15 HR15 HX15 HY15 HB17
  have y7 := HY17.out.cell 7 _ rfl
  have yf7 := HY17.out.frozen 7
  go_upto_region 13 with fail
  obtain ⟨wz, hwz⟩ : ∃ wz, wz = w17.setCell ⟨n + 1, 7, none⟩ (.int .u64 sig) := ⟨_, rfl⟩
  rw [← hwz]
  have HGZ : Hid (w17.grownBy wz (some (n + 1))) := by show World.grownBy _ _ _; rw [hwz]; exact grown_setCell _ _ _ _
  have HYz : Hid (Blk wz (n + 1) 28 [.int .i64 fw, .int .i64 fi, .int .u64 fp, .int .i64 ft, .int .i64 fu, .int .i64 fn, .slice a' fb.length cap', .int .u64 sig]) := by show Blk _ _ _ _; rw [hwz]; exact HY17.out.set 7 _
  have HNz : Hid (Blk wz m2 28 [.int .i64 xw, .int .i64 xi, .int .u64 xp, .int .i64 xt, .int .i64 xu, .int .i64 xn, .slice a2 xb.length cap2, .int .u64 xg]) := HN17.out.block (HGZ.out.block m2 HN17.out.lt (fun e => by have := Option.some.inj e; have := HNM2.out; omega))
  have HMz : Hid (Blk wz m 28 [.int .i64 xw, .int .i64 xi, .int .u64 xp, .int .i64 xt, .int .i64 xu, .int .i64 xn, .slice ay xb.length cy, .int .u64 xg]) := HM17.out.block (HGZ.out.block m HM17.out.lt (fun e => by have := Option.some.inj e; have := HNM.out; omega))
  have HRz : Hid (Rd wz (.slice ay xb.length cy) xb) := HR17.out.pastB HY17.out (by unfold NoByte; simp) HGZ.out
  have Hz : Hid (Two w wz b f14 r g16 sb17 ([m2] ++ ([m] ++ (ky ++ [n, n + 1]))) S3 S3) := H17.out.own (X := [n + 1]) (Turn.of_grown HGZ.out (by simp)) (fun k hk => by simp at hk; simp [hk])
  have HV2z : Hid (Rd wz (.slice a2 xb.length cap2) xb) := Hz.out.a.rd HV2.out
  have HVfz : Hid (Rd wz (.slice a' fb.length cap') fb) := Hz.out.a.rd HV'.out
  clear hwz y7 yf7 H17 HN17 HM17 HR17 HY17 HGZ
  have mm0 := fun z : WIn (fun w' => Below wz.heap.size wz w') => (HMz.out.below z.ok).cell 0 _ rfl
  have mm1 := fun z : WIn (fun w' => Below wz.heap.size wz w') => (HMz.out.below z.ok).cell 1 _ rfl
  have mm2 := fun z : WIn (fun w' => Below wz.heap.size wz w') => (HMz.out.below z.ok).cell 2 _ rfl
  have mm3 := fun z : WIn (fun w' => Below wz.heap.size wz w') => (HMz.out.below z.ok).cell 3 _ rfl
  have mm4 := fun z : WIn (fun w' => Below wz.heap.size wz w') => (HMz.out.below z.ok).cell 4 _ rfl
  have mm5 := fun z : WIn (fun w' => Below wz.heap.size wz w') => (HMz.out.below z.ok).cell 5 _ rfl
  have mm6 := fun z : WIn (fun w' => Below wz.heap.size wz w') => (HMz.out.below z.ok).cell 6 _ rfl
  have mm7 := fun z : WIn (fun w' => Below wz.heap.size wz w') => (HMz.out.below z.ok).cell 7 _ rfl
  have hh0 := fun z : WIn (fun w' => Below wz.heap.size wz w') => (HNz.out.below z.ok).cell 0 _ rfl
  have hh1 := fun z : WIn (fun w' => Below wz.heap.size wz w') => (HNz.out.below z.ok).cell 1 _ rfl
  have hh2 := fun z : WIn (fun w' => Below wz.heap.size wz w') => (HNz.out.below z.ok).cell 2 _ rfl
  have hh3 := fun z : WIn (fun w' => Below wz.heap.size wz w') => (HNz.out.below z.ok).cell 3 _ rfl
  have hh4 := fun z : WIn (fun w' => Below wz.heap.size wz w') => (HNz.out.below z.ok).cell 4 _ rfl
  have hh5 := fun z : WIn (fun w' => Below wz.heap.size wz w') => (HNz.out.below z.ok).cell 5 _ rfl
  have hh6 := fun z : WIn (fun w' => Below wz.heap.size wz w') => (HNz.out.below z.ok).cell 6 _ rfl
  have hh7 := fun z : WIn (fun w' => Below wz.heap.size wz w') => (HNz.out.below z.ok).cell 7 _ rfl
  have ff0 := fun z : WIn (fun w' => Below wz.heap.size wz w') => (HYz.out.below z.ok).cell 0 _ rfl
  have ff1 := fun z : WIn (fun w' => Below wz.heap.size wz w') => (HYz.out.below z.ok).cell 1 _ rfl
  have ff2 := fun z : WIn (fun w' => Below wz.heap.size wz w') => (HYz.out.below z.ok).cell 2 _ rfl
  have ff3 := fun z : WIn (fun w' => Below wz.heap.size wz w') => (HYz.out.below z.ok).cell 3 _ rfl
  have ff4 := fun z : WIn (fun w' => Below wz.heap.size wz w') => (HYz.out.below z.ok).cell 4 _ rfl
  have ff5 := fun z : WIn (fun w' => Below wz.heap.size wz w') => (HYz.out.below z.ok).cell 5 _ rfl
  have ff6 := fun z : WIn (fun w' => Below wz.heap.size wz w') => (HYz.out.below z.ok).cell 6 _ rfl
  have ff7 := fun z : WIn (fun w' => Below wz.heap.size wz w') => (HYz.out.below z.ok).cell 7 _ rfl
  have ne : Nonempty (WIn (fun w' => Below wz.heap.size wz w')) := ⟨⟨wz, Below.refl _ _⟩⟩
  refine wp_region_tree (C := fun w' => ∃ z : WIn (fun w' => Below wz.heap.size wz w'), w' = z.w)
    (.still 0 (.still 1 (.still 2 (.still 3 (.still 4 (.still 5 (.still 6 (.still 7 (.still 8 (.still 9 (.still 10 (.one 11 (.still 12 (.still 13 (.still 14 (.still 15 (.still 16 (.still 17 (.still 18 (.still 19 (.still 20 (.still 21 (.still 22 (.still 23 (.still 24 (.still 25 (.still 26 (.still 28 (.still 29 (.still 30 (.two 27 (.one 31 (.still 32 (.still 33 (.still 34 (.still 35 (.still 36 (.still 37 (.still 39 (.still 40 (.still 41 (.two 38 (.one 42 (.still 43 (.still 44 (.still 45 (.one 46 (.still 47 (.still 48 .done))))))) 42 (.one 38 (.still 43 (.still 44 (.still 45 (.one 46 (.still 47 (.still 48 .done)))))))))))))))))) 31 (.one 27 (.still 32 (.still 33 (.still 34 (.still 35 (.still 36 (.still 37 (.still 39 (.still 40 (.still 41 (.two 38 (.one 42 (.still 43 (.still 44 (.still 45 (.one 46 (.still 47 (.still 48 .done))))))) 42 (.one 38 (.still 43 (.still 44 (.still 45 (.one 46 (.still 47 (.still 48 .done)))))))))))))))))))))))))))))))))))))))))))))))))
    (by kernel_rfl) (by kernel_rfl) ⟨⟨wz.drew, (Below.refl _ _).drew⟩, rfl⟩ ?_
  iterate 11 (refine tree_still rfl rfl ?_; go_big_quiet_step (fail); refine wpQuiet_nil ?_)
  refine tree_one rfl rfl ?_
  go_simp
  refine (HSX.out wz.drew _ _ HRz.out.drew HV2z.out.drew).mono ?_
  rintro q wa ⟨rfl, hba⟩
  have HBa : Hid (Below wz.heap.size wz wa) := below_undrew hba
  clear hba
  refine ⟨⟨⟨wa, HBa.out⟩, rfl⟩, ?_⟩
  iterate 18 (refine tree_still rfl rfl ?_; go_big_quiet_step (fail); refine wpQuiet_nil ?_)
  refine tree_two rfl rfl rfl rfl ?_ ?_
  all_goals
    go_simp
    first
      | (refine (HH1.out wa b f14 _ (Hz.out.below HBa.out).a.rep (HRz.out.below HBa.out)).mono ?_; rintro q wb ⟨rfl, hbb⟩; have HBb : Hid (Below wz.heap.size wz wb) := (show Below _ _ _ from bnext HBa.out hbb); refine ⟨⟨⟨wb, HBb.out⟩, rfl⟩, ?_⟩; refine tree_one rfl rfl ?_; go_simp; refine (HG1.out sb17 wb r g16 _ (Hz.out.below HBb.out).f (HV2z.out.below HBb.out)).mono ?_; rintro q wc ⟨rfl, hbc⟩; have HBc : Hid (Below wz.heap.size wz wc) := (show Below _ _ _ from bnext HBb.out hbc); refine ⟨⟨⟨wc, HBc.out⟩, rfl⟩, ?_⟩)
      | (refine (HG1.out sb17 wa r g16 _ (Hz.out.below HBa.out).f (HV2z.out.below HBa.out)).mono ?_; rintro q wb ⟨rfl, hbb⟩; have HBb : Hid (Below wz.heap.size wz wb) := (show Below _ _ _ from bnext HBa.out hbb); refine ⟨⟨⟨wb, HBb.out⟩, rfl⟩, ?_⟩; refine tree_one rfl rfl ?_; go_simp; refine (HH1.out wb b f14 _ (Hz.out.below HBb.out).a.rep (HRz.out.below HBb.out)).mono ?_; rintro q wc ⟨rfl, hbc⟩; have HBc : Hid (Below wz.heap.size wz wc) := (show Below _ _ _ from bnext HBb.out hbc); refine ⟨⟨⟨wc, HBc.out⟩, rfl⟩, ?_⟩)
    iterate 9 (refine tree_still rfl rfl ?_; go_big_quiet_step (fail); refine wpQuiet_nil ?_)
    refine tree_two rfl rfl rfl rfl ?_ ?_
    all_goals
      go_simp
      first
        | (refine (HH2.out wc b f14 _ (Hz.out.below HBc.out).a.rep (HVfz.out.below HBc.out)).mono ?_; rintro q wd ⟨rfl, hbd⟩; have HBd : Hid (Below wz.heap.size wz wd) := (show Below _ _ _ from bnext HBc.out hbd); refine ⟨⟨⟨wd, HBd.out⟩, rfl⟩, ?_⟩; refine tree_one rfl rfl ?_; go_simp; refine (HG2.out sb17 wd r g16 _ (Hz.out.below HBd.out).f (HVfz.out.below HBd.out)).mono ?_; rintro q we ⟨rfl, hbe⟩; have HBe : Hid (Below wz.heap.size wz we) := (show Below _ _ _ from bnext HBd.out hbe); refine ⟨⟨⟨we, HBe.out⟩, rfl⟩, ?_⟩)
        | (refine (HG2.out sb17 wc r g16 _ (Hz.out.below HBc.out).f (HVfz.out.below HBc.out)).mono ?_; rintro q wd ⟨rfl, hbd⟩; have HBd : Hid (Below wz.heap.size wz wd) := (show Below _ _ _ from bnext HBc.out hbd); refine ⟨⟨⟨wd, HBd.out⟩, rfl⟩, ?_⟩; refine tree_one rfl rfl ?_; go_simp; refine (HH2.out wd b f14 _ (Hz.out.below HBd.out).a.rep (HVfz.out.below HBd.out)).mono ?_; rintro q we ⟨rfl, hbe⟩; have HBe : Hid (Below wz.heap.size wz we) := (show Below _ _ _ from bnext HBd.out hbe); refine ⟨⟨⟨we, HBe.out⟩, rfl⟩, ?_⟩)
      iterate 3 (refine tree_still rfl rfl ?_; go_big_quiet_step (fail); refine wpQuiet_nil ?_)
      refine tree_one rfl rfl ?_
      go_simp
      refine (alive_any we).mono ?_
      rintro q wf ⟨rfl, hbf⟩
      have HBf : Hid (Below wz.heap.size wz wf) := (show Below _ _ _ from bnext HBe.out hbf)
      refine ⟨⟨⟨wf, HBf.out⟩, rfl⟩, ?_⟩
      iterate 2 (refine tree_still rfl rfl ?_; go_big_quiet_step (fail); refine wpQuiet_nil ?_)
      refine tree_done ?_
      clear mm0 mm1 mm2 mm3 mm4 mm5 mm6 mm7 hh0 hh1 hh2 hh3 hh4 hh5 hh6 hh7 ff0 ff1 ff2 ff3 ff4 ff5 ff6 ff7 ne
      go_wp2
      go_ret
      exact ⟨rfl, bnext Hz.out.a.bel HBf.out⟩
end

section
set_option linter.unusedVariables false
set_option linter.unusedSimpArgs false
set_option synthInstance.maxSize 20000
set_option maxHeartbeats 4000000
set_option maxRecDepth 20000
open Go.RowKit Go.Maps

theorem bytes_oct' {e : Ent} (he : EOk e) : Oct (textL e) ∧ Oct (bytesE e) := by
  have h : Oct (textL e) := by
    unfold textL putS
    exact ((((((form_oct _).append (form_oct _)).append (form_oct _)).append ((form_oct _).append (form_oct _))).append (form_oct _)).append (form_oct _)).append he.2.2.2.2.2.2.2
  exact ⟨h, h.append (form_oct _)⟩

theorem zeroE_right : rightB zeroE = false := by
  rw [Bool.eq_false_iff]
  intro h
  have h1 := ((rightB_iff zeroE).1 h).2.2.2.1.1
  have h2 : (1 : Int) ≤ 0 := h1
  omega

theorem signs_dark (dv : Value) (ds : List Int) (e : Ent) (v : Value) (f : Ent) (v' : Value) (sig : Int) (w : World) (hd : RdU w dv ds) (hv : Rd w v e.b) (hv' : Rd w v' f.b) (h : ¬ (e.b.length ≤ 1500 ∧ f.b.length ≤ 1500 ∧ ds.length ≤ 50)) :
    Calls Try.prog 3 #[dv, ev e v, ev f v', .int .u64 sig] w fun r w' => r = .returned (.bool true) ∧ Below w.heap.size w w' := by
  have HV : Hid (Rd w v e.b) := hv
  have HV' : Hid (Rd w v' f.b) := hv'
  have L1 := fun w' (h : Rd w' v e.b) => light_any e v w' h
  have L2 := fun w' (h : Rd w' v' f.b) => light_any f v' w' h
  obtain ⟨_, ad, cd, rfl, hd1, hd2, _⟩ := hd
  unfold maxLen at hd2
  obtain ⟨a, cap, rfl⟩ := hv.len
  obtain ⟨a', cap', rfl⟩ := hv'.len
  obtain ⟨ew, ei, ep, et, eu, en, eb, eg⟩ := e
  obtain ⟨fw, fi, fp, ft, fu, fn, fb, fg⟩ := f
  unfold ev at *
  dsimp only at *
  obtain ⟨w1, hw1⟩ : ∃ w1, w1 = (w.alloc (.cells #[.int .i64 ew, .int .i64 ei, .int .u64 ep, .int .i64 et, .int .i64 eu, .int .i64 en, .slice a eb.length cap, .int .u64 eg] 28)).alloc (.cells #[.int .i64 fw, .int .i64 fi, .int .u64 fp, .int .i64 ft, .int .i64 fu, .int .i64 fn, .slice a' fb.length cap', .int .u64 fg] 28) := ⟨_, rfl⟩
  have HB1 : Hid (Below w.heap.size w w1) := by show Below _ _ _; rw [hw1]; exact balloc (balloc (Below.refl _ _) _) _
  have HX1 : Hid (Blk w1 w.heap.size 28 [.int .i64 ew, .int .i64 ei, .int .u64 ep, .int .i64 et, .int .i64 eu, .int .i64 en, .slice a eb.length cap, .int .u64 eg]) := by show Blk _ _ _ _; rw [hw1]; exact (blk_new w [.int .i64 ew, .int .i64 ei, .int .u64 ep, .int .i64 et, .int .i64 eu, .int .i64 en, .slice a eb.length cap, .int .u64 eg] 28).alloc _
  have HY1 : Hid (Blk w1 (w.heap.size + 1) 28 [.int .i64 fw, .int .i64 fi, .int .u64 fp, .int .i64 ft, .int .i64 fu, .int .i64 fn, .slice a' fb.length cap', .int .u64 fg]) := by
    show Blk _ _ _ _
    rw [hw1]
    have := blk_new (w.alloc (.cells #[.int .i64 ew, .int .i64 ei, .int .u64 ep, .int .i64 et, .int .i64 eu, .int .i64 en, .slice a eb.length cap, .int .u64 eg] 28)) [.int .i64 fw, .int .i64 fi, .int .u64 fp, .int .i64 ft, .int .i64 fu, .int .i64 fn, .slice a' fb.length cap', .int .u64 fg] 28
    simpa using this
  by_cases c1 : eb.length ≤ 1500
  · rw [decide_eq_true c1] at L1
    have HL1 : Hid (∀ w', Rd w' (.slice a eb.length cap) eb → Calls Try.prog 7 #[.agg #[.int .i64 ew, .int .i64 ei, .int .u64 ep, .int .i64 et, .int .i64 eu, .int .i64 en, .slice a eb.length cap, .int .u64 eg]] w' fun r w'' => r = .returned (.bool true) ∧ Below w'.heap.size w' w'') := L1
    by_cases c2 : fb.length ≤ 1500
    · rw [decide_eq_true c2] at L2
      have HL2 : Hid (∀ w', Rd w' (.slice a' fb.length cap') fb → Calls Try.prog 7 #[.agg #[.int .i64 fw, .int .i64 fi, .int .u64 fp, .int .i64 ft, .int .i64 fu, .int .i64 fn, .slice a' fb.length cap', .int .u64 fg]] w' fun r w'' => r = .returned (.bool true) ∧ Below w'.heap.size w' w'') := L2
      have hds : 50 < (ds.length : Int) := by
        have : ¬ ds.length ≤ 50 := fun h' => h ⟨c1, c2, h'⟩
        omega
      clear L1 L2 h hv hv'
      go_enter Try.func3, Try.ntmps3
      go_upto_region 1 with fail
      rw [← hw1]
      obtain ⟨n, hn⟩ : ∃ n, n = w.heap.size := ⟨_, rfl⟩
      rw [← hn] at HX1 HY1 ⊢
      clear hw1 hn
      have x0 := HX1.out.cell 0 _ rfl
      have x1 := HX1.out.cell 1 _ rfl
      have x2 := HX1.out.cell 2 _ rfl
      have x3 := HX1.out.cell 3 _ rfl
      have x4 := HX1.out.cell 4 _ rfl
      have x5 := HX1.out.cell 5 _ rfl
      have x6 := HX1.out.cell 6 _ rfl
      have x7 := HX1.out.cell 7 _ rfl
      go_wp2_with (first
        | (go_at_call 7; first
            | (refine (HL1.out w1 (HV.out.below HB1.out)).mono ?_; rintro r w2 ⟨rfl, hb2⟩; have Y2 := HY1.out.below hb2; have y0 := Y2.cell 0 _ rfl; have y1 := Y2.cell 1 _ rfl; have y2 := Y2.cell 2 _ rfl; have y3 := Y2.cell 3 _ rfl; have y4 := Y2.cell 4 _ rfl; have y5 := Y2.cell 5 _ rfl; have y6 := Y2.cell 6 _ rfl; have y7 := Y2.cell 7 _ rfl; clear HL1)
            | (refine (HL2.out w2 (HV'.out.below (bnext HB1.out hb2))).mono ?_; rintro r w3 ⟨rfl, hb3⟩))
        | (go_at_call 8; go_must (refine (alive_any _).mono ?_; rintro r w10 ⟨rfl, hb10⟩)))
      go_ret
      exact ⟨rfl, bnext (bnext (bnext HB1.out hb2) hb3) hb10⟩
    · rw [decide_eq_false c2] at L2
      have HL2 : Hid (∀ w', Rd w' (.slice a' fb.length cap') fb → Calls Try.prog 7 #[.agg #[.int .i64 fw, .int .i64 fi, .int .u64 fp, .int .i64 ft, .int .i64 fu, .int .i64 fn, .slice a' fb.length cap', .int .u64 fg]] w' fun r w'' => r = .returned (.bool false) ∧ Below w'.heap.size w' w'') := L2
      clear L1 L2 h hv hv'
      go_enter Try.func3, Try.ntmps3
      go_upto_region 1 with fail
      rw [← hw1]
      obtain ⟨n, hn⟩ : ∃ n, n = w.heap.size := ⟨_, rfl⟩
      rw [← hn] at HX1 HY1 ⊢
      clear hw1 hn
      have x0 := HX1.out.cell 0 _ rfl
      have x1 := HX1.out.cell 1 _ rfl
      have x2 := HX1.out.cell 2 _ rfl
      have x3 := HX1.out.cell 3 _ rfl
      have x4 := HX1.out.cell 4 _ rfl
      have x5 := HX1.out.cell 5 _ rfl
      have x6 := HX1.out.cell 6 _ rfl
      have x7 := HX1.out.cell 7 _ rfl
      go_wp2_with (first
        | (go_at_call 7; first
            | (refine (HL1.out w1 (HV.out.below HB1.out)).mono ?_; rintro r w2 ⟨rfl, hb2⟩; have Y2 := HY1.out.below hb2; have y0 := Y2.cell 0 _ rfl; have y1 := Y2.cell 1 _ rfl; have y2 := Y2.cell 2 _ rfl; have y3 := Y2.cell 3 _ rfl; have y4 := Y2.cell 4 _ rfl; have y5 := Y2.cell 5 _ rfl; have y6 := Y2.cell 6 _ rfl; have y7 := Y2.cell 7 _ rfl; clear HL1)
            | (refine (HL2.out w2 (HV'.out.below (bnext HB1.out hb2))).mono ?_; rintro r w3 ⟨rfl, hb3⟩))
        | (go_at_call 8; go_must (refine (alive_any _).mono ?_; rintro r w10 ⟨rfl, hb10⟩)))
      go_ret
      exact ⟨rfl, bnext (bnext (bnext HB1.out hb2) hb3) hb10⟩
  · rw [decide_eq_false c1] at L1
    have HL1 : Hid (∀ w', Rd w' (.slice a eb.length cap) eb → Calls Try.prog 7 #[.agg #[.int .i64 ew, .int .i64 ei, .int .u64 ep, .int .i64 et, .int .i64 eu, .int .i64 en, .slice a eb.length cap, .int .u64 eg]] w' fun r w'' => r = .returned (.bool false) ∧ Below w'.heap.size w' w'') := L1
    clear L1 L2 h hv hv'
    go_enter Try.func3, Try.ntmps3
    go_upto_region 1 with fail
    rw [← hw1]
    obtain ⟨n, hn⟩ : ∃ n, n = w.heap.size := ⟨_, rfl⟩
    rw [← hn] at HX1 HY1 ⊢
    clear hw1 hn
    have x0 := HX1.out.cell 0 _ rfl
    have x1 := HX1.out.cell 1 _ rfl
    have x2 := HX1.out.cell 2 _ rfl
    have x3 := HX1.out.cell 3 _ rfl
    have x4 := HX1.out.cell 4 _ rfl
    have x5 := HX1.out.cell 5 _ rfl
    have x6 := HX1.out.cell 6 _ rfl
    have x7 := HX1.out.cell 7 _ rfl
    go_wp2_with (first
      | (go_at_call 7; go_must (refine (HL1.out w1 (HV.out.below HB1.out)).mono ?_; rintro r w2 ⟨rfl, hb2⟩))
      | (go_at_call 8; go_must (refine (alive_any _).mono ?_; rintro r w10 ⟨rfl, hb10⟩)))
    go_ret
    exact ⟨rfl, bnext (bnext HB1.out hb2) hb10⟩

theorem signs_walk (dv : Value) (ds : List Int) (e : Ent) (v : Value) (f : Ent) (v' : Value) (sig : Int) (w : World) (hd : RdU w dv ds) (he : EOk e) (hv : Rd w v e.b) (he' : EOk f) (hv' : Rd w v' f.b) (hsig : U64 sig) :
    Calls Try.prog 3 #[dv, ev e v, ev f v', .int .u64 sig] w fun r w' => r = .returned (.bool true) ∧ Below w.heap.size w w' := by
  by_cases hdark : ¬ (e.b.length ≤ 1500 ∧ f.b.length ≤ 1500 ∧ ds.length ≤ 50)
  · exact signs_dark dv ds e v f v' sig w hd hv hv' hdark
  have h : e.b.length ≤ 1500 ∧ f.b.length ≤ 1500 ∧ ds.length ≤ 50 := Decidable.not_not.1 hdark
  clear hdark
  obtain ⟨hb1, hb2, hds⟩ := h
  have g0 : Good ⟨ds, []⟩ := good0 hd.1
  have l0 : (⟨ds, []⟩ : St).rows.length = 0 := rfl
  have fine0' := fine0 ds
  have hPR := fun w' b fo (h : Rep w' b fo ⟨ds, []⟩) => pair_any w' b fo ⟨ds, []⟩ h (by simp)
  have hRP := fun sb w' r fr (h : RefAt ⟨w, sb⟩ w' r fr ⟨ds, []⟩) => rpair_any ⟨w, sb⟩ w' r fr ⟨ds, []⟩ h (by simp)
  obtain ⟨p1, p2⟩ := pair_at g0 (by omega)
  have g1 := pair_good g0 (by omega)
  have n1 := pair_len ⟨ds, []⟩
  have fi1 := fine0'.pair g0 (by omega)
  have us := (fresh_ok g0 (by omega)).2.2.1
  have gp : Good ((⟨ds, []⟩ : St).put .secret) := put_good g0 (by omega) trivial
  have up := (fresh_ok gp (by have := put_len ⟨ds, []⟩ .secret; omega)).2.2.1
  have hS1 : ((⟨ds, []⟩ : St).put .secret).put (.pub (⟨ds, []⟩ : St).fresh) = (⟨ds, []⟩ : St).pair := rfl
  rw [hS1] at hPR
  clear hS1
  generalize (⟨ds, []⟩ : St).pair = S1 at *
  generalize (⟨ds, []⟩ : St).fresh = s at *
  generalize ((⟨ds, []⟩ : St).put .secret).fresh = p at *
  have okf : EOk { f with g := sig } := ⟨he'.1, he'.2.1, he'.2.2.1, he'.2.2.2.1, he'.2.2.2.2.1, he'.2.2.2.2.2.1, hsig, he'.2.2.2.2.2.2.2⟩
  have okz : EOk zeroE := by
    refine ⟨?_, ?_, ?_, ?_, ?_, ?_, ?_, Oct.nil⟩
    all_goals first | (unfold I64 zeroE; simp; done) | (unfold U64 zeroE; simp; done)
  cases hr : rightB e with
  | false =>
    refine signs_core e f zeroE v v' (.slice none 0 0) dv ds sig 0 1 1 1 s p S1 S1 S1 false (rightB { f with g := sig } && S1.verify p (textL { f with g := sig }) sig) w hd hv hv' (rd_nil _) hb1 hb2 hds hPR hRP ?_ ?_ ?_ ?_ ?_ ?_ ?_ ?_ ?_ ?_
    · intro w' b fo h hx
      exact (sumE_no w' _ e v hx hr).mono (fun r w'' ⟨q, hb⟩ => ⟨q, Left.same h hb⟩)
    · intro sb w' r fr h hx
      exact (rsumE_no w' _ e v hx hr).mono (fun q w'' ⟨q, hb⟩ => ⟨q, [], (fun k hk => by cases hk), RLeft.same h hb⟩)
    · intro w' b fo h hx _
      exact (signE_no w' _ s e v hx hr).mono (fun r w'' ⟨q, hb⟩ => ⟨_, q, LeftB.nil h hb⟩)
    · intro sb w' r fr h hx
      exact (rsignE_no w' _ s e v hx hr).mono (fun q w'' ⟨q, hb⟩ => ⟨q, [], (fun k hk => by cases hk), RLeft.same h hb⟩)
    · intro w' b fo h hx
      exact (signE_no w' _ p e v hx hr).mono (fun r w'' ⟨q, hb⟩ => ⟨q, Left.same h hb⟩)
    · intro sb w' r fr h hx
      exact (rsignE_no w' _ p e v hx hr).mono (fun q w'' ⟨q, hb⟩ => ⟨q, [], (fun k hk => by cases hk), RLeft.same h hb⟩)
    · intro w' b fo y h hy
      exact holdsE_no w' _ p zeroE y hy zeroE_right
    · intro sb w' r fr y h hy
      exact rholdsE_no w' _ p zeroE y hy zeroE_right
    · intro w' b fo y h hy
      exact holdsE_any w' b fo S1 h p up { f with g := sig } y okf hy (by show f.b.length ≤ _; omega)
    · intro sb w' r fr y h hy
      exact rholdsE_any ⟨w, sb⟩ w' r fr S1 h fi1 p { f with g := sig } y okf hy
  | true =>
    have hbe := ((rightB_iff e).1 hr).2.2.2.2.2.2
    have oct := bytes_oct' he
    have g2 : Good (S1.get (.hash (bytesE e))).2 := get_good g1 (by omega) oct.2
    have n2 := get_len S1 (.hash (bytesE e))
    have fi2 := fi1.get g1 (by omega) (x := .hash (bytesE e)) (fun _ _ _ h => by cases h)
    have q1 := at_get_old g1 (by omega) (x := .hash (bytesE e)) p1
    have q2 := at_get_old g1 (by omega) (x := .hash (bytesE e)) p2
    have hSM := fun w' b fo (h : Rep w' b fo S1) (hx : Rd w' v e.b) => sumE_yes w' b fo S1 h (by omega) e v he hx (by omega) hr
    have hRS := fun sb w' r fr (h : RefAt ⟨w, sb⟩ w' r fr S1) (hx : Rd w' v e.b) => rsumE_yes ⟨w, sb⟩ w' r fr S1 h (by omega) e v he hx hr
    generalize S1.get (.hash (bytesE e)) = t2 at *
    obtain ⟨A, S2⟩ := t2
    dsimp only at *
    have hsg : (S2.sign s (textL e)).1.2 = 0 := by unfold St.sign; rw [if_pos q1]
    have hS3 : (S2.sign s (textL e)) = (((S2.get (.sig s (textL e))).1, 0), (S2.get (.sig s (textL e))).2) := by unfold St.sign; rw [if_pos q1]
    have g3 : Good (S2.get (.sig s (textL e))).2 := get_good g2 (by omega) ⟨us, oct.1⟩
    have n3 := get_len S2 (.sig s (textL e))
    have fi3 := fi2.get g2 (by omega) (x := .sig s (textL e)) (fun _ _ _ h => by cases h)
    have r2 := at_get_old g2 (by omega) (x := .sig s (textL e)) q2
    have ux := (get_ne g2 (by omega) (x := .sig s (textL e)) ⟨us, oct.1⟩).2
    have hSG := fun w' b fo (h : Rep w' b fo S2) (hx : Rd w' v e.b) (hst : ∀ w'', Turn fo w' w'' → Rd w'' v e.b) => signE_yes w' b fo S2 h (by omega) s us e v he hx hst (by omega) hr hsg
    have hRG := fun sb w' r fr (h : RefAt ⟨w, sb⟩ w' r fr S2) (hx : Rd w' v e.b) => rsignE_yes ⟨w, sb⟩ w' r fr S2 h (by omega) s e v he hx hr hsg
    rw [hS3] at hSG hRG
    clear hS3 hsg
    generalize S2.get (.sig s (textL e)) = t3 at *
    obtain ⟨x, S3⟩ := t3
    dsimp only at *
    have hbad : S3.sign p (textL e) = ((0, 11), S3) := by
      unfold St.sign
      rw [if_neg]
      rw [r2]
      intro hh
      cases hh
    have hSP := fun w' b fo (h : Rep w' b fo S3) (hx : Rd w' v e.b) => signE_bad w' b fo S3 h (by omega) p up e v he hx (by omega) hr (by rw [hbad]; simp)
    have hRQ := fun sb w' r fr (h : RefAt ⟨w, sb⟩ w' r fr S3) (hx : Rd w' v e.b) => rsignE_bad ⟨w, sb⟩ w' r fr S3 h (by omega) p e v he hx hr (by rw [hbad]; simp)
    rw [hbad] at hSP hRQ
    have okx : EOk { e with g := x } := ⟨he.1, he.2.1, he.2.2.1, he.2.2.2.1, he.2.2.2.2.1, he.2.2.2.2.2.1, ux, he.2.2.2.2.2.2.2⟩
    refine signs_core e f { e with g := x } v v' v dv ds sig A 0 0 11 s p S1 S2 S3 (rightB { e with g := x } && S3.verify p (textL { e with g := x }) x) (rightB { f with g := sig } && S3.verify p (textL { f with g := sig }) sig) w hd hv hv' hv hb1 hb2 hds hPR hRP hSM hRS hSG hRG hSP hRQ ?_ ?_ ?_ ?_
    · intro w' b fo y h hy
      exact holdsE_any w' b fo S3 h p up { e with g := x } y okx hy (by show e.b.length ≤ _; omega)
    · intro sb w' r fr y h hy
      exact rholdsE_any ⟨w, sb⟩ w' r fr S3 h fi3 p { e with g := x } y okx hy
    · intro w' b fo y h hy
      exact holdsE_any w' b fo S3 h p up { f with g := sig } y okf hy (by show f.b.length ≤ _; omega)
    · intro sb w' r fr y h hy
      exact rholdsE_any ⟨w, sb⟩ w' r fr S3 h fi3 p { f with g := sig } y okf hy
end
end Go.Proofs.Ytiebbglknmcnpaa
