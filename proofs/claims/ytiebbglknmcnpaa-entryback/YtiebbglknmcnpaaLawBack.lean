/-
  The walk of EntryBack: a right entry's bytes are read as it, cut off anywhere they are none, and bytes that are read are its.
-/
import Derived.Test.YtiebbglknmcnpaaAliveE
namespace Go.Proofs.Ytiebbglknmcnpaa
set_option linter.unusedVariables false
set_option linter.unusedSimpArgs false
set_option synthInstance.maxSize 20000
set_option maxHeartbeats 4000000
set_option maxRecDepth 20000
open Go.RowKit Go.Maps

theorem back_dark (e : Ent) (v x : Value) (l : List Int) (c : Int) (w : World) (hv : Rd w v e.b) (hx : Rd w x l) (h : ¬ (e.b.length ≤ 1500 ∧ l.length ≤ 1500)) :
    Calls Try.prog 4 #[ev e v, x, .int .i64 c] w fun r w' => r = .returned (.bool true) ∧ Below w.heap.size w w' := by
  have HV : Hid (Rd w v e.b) := hv
  have LT := fun w' (h : Rd w' v e.b) => light_any e v w' h
  have hcx : l.length ≤ 9223372036854775807 := by obtain ⟨a, cap, rfl⟩ := hx.len; have := hx.cap; omega
  obtain ⟨a, cap, rfl⟩ := hv.len
  obtain ⟨ax, cx, rfl⟩ := hx.len
  obtain ⟨ew, ei, ep, et, eu, en, eb, eg⟩ := e
  unfold ev at *
  dsimp only at *
  obtain ⟨w1, hw1⟩ : ∃ w1, w1 = w.alloc (.cells #[.int .i64 ew, .int .i64 ei, .int .u64 ep, .int .i64 et, .int .i64 eu, .int .i64 en, .slice a eb.length cap, .int .u64 eg] 28) := ⟨_, rfl⟩
  have HB1 : Hid (Below w.heap.size w w1) := by show Below _ _ _; rw [hw1]; exact balloc (Below.refl _ _) _
  by_cases hb : eb.length ≤ 1500
  · have hl : 1500 < (l.length : Int) := by omega
    rw [decide_eq_true hb] at LT
    have HL : Hid (∀ w', Rd w' (.slice a eb.length cap) eb → Calls Try.prog 7 #[.agg #[.int .i64 ew, .int .i64 ei, .int .u64 ep, .int .i64 et, .int .i64 eu, .int .i64 en, .slice a eb.length cap, .int .u64 eg]] w' fun r w'' => r = .returned (.bool true) ∧ Below w'.heap.size w' w'') := LT
    clear LT h hx hv
    go_enter Try.func4, Try.ntmps4
    go_wp2_with (first
      | (go_at_call 7; rw [← hw1]; go_must (refine (HL.out w1 (HV.out.below HB1.out)).mono ?_; rintro r w2 ⟨rfl, hb2⟩))
      | (go_at_call 8; go_must (refine (alive_any _).mono ?_; rintro r w10 ⟨rfl, hb10⟩)))
    go_ret
    exact ⟨rfl, bnext (bnext HB1.out hb2) hb10⟩
  · rw [decide_eq_false hb] at LT
    have HL : Hid (∀ w', Rd w' (.slice a eb.length cap) eb → Calls Try.prog 7 #[.agg #[.int .i64 ew, .int .i64 ei, .int .u64 ep, .int .i64 et, .int .i64 eu, .int .i64 en, .slice a eb.length cap, .int .u64 eg]] w' fun r w'' => r = .returned (.bool false) ∧ Below w'.heap.size w' w'') := LT
    clear LT h hx hv
    go_enter Try.func4, Try.ntmps4
    go_wp2_with (first
      | (go_at_call 7; rw [← hw1]; go_must (refine (HL.out w1 (HV.out.below HB1.out)).mono ?_; rintro r w2 ⟨rfl, hb2⟩))
      | (go_at_call 8; go_must (refine (alive_any _).mono ?_; rintro r w10 ⟨rfl, hb10⟩)))
    go_ret
    exact ⟨rfl, bnext (bnext HB1.out hb2) hb10⟩

theorem back_no_bad (e : Ent) (v x : Value) (l : List Int) (c : Int) (w : World) (he : EOk e) (hv : Rd w v e.b) (hx : Rd w x l) (hc : I64 c) (hb : e.b.length ≤ 1500) (hl : l.length ≤ 1500) (hr : rightB e = false) (hj : (readE l).2 ≠ 0) :
    Calls Try.prog 4 #[ev e v, x, .int .i64 c] w fun r w' => r = .returned (.bool true) ∧ Below w.heap.size w w' := by
  have HV : Hid (Rd w v e.b) := hv
  have HX : Hid (Rd w x l) := hx
  have LT := fun w' (h : Rd w' v e.b) => light_any e v w' h
  rw [decide_eq_true hb] at LT
  have RT := fun w' (h : Rd w' v e.b) => rightE_any e v w' h
  rw [hr] at RT
  have B := fun w' (h : Rd w' v e.b) => bytesF_no w' e v h hr
  have hz := read_bad hj
  have R := fun w' (h : Rd w' x l) => readE_any w' x l h (by omega)
  rw [hz] at R
  have SZ := fun w' y (h : Rd w' y zeroE.b) => sameE_any w' zeroE zeroE y (.slice none 0 0) h (rd_nil _)
  rw [(sameB_iff zeroE zeroE).2 rfl] at SZ
  generalize (readE l).2 = J at *
  have hJ : (J != 0) = true := by simpa using hj
  unfold zeroE at R SZ
  obtain ⟨a, cap, rfl⟩ := hv.len
  obtain ⟨ax, cx, rfl⟩ := hx.len
  obtain ⟨ew, ei, ep, et, eu, en, eb, eg⟩ := e
  unfold ev at *
  dsimp only at *
  have HR : Hid (∀ w', Rd w' (.slice ax l.length cx) l → Calls Try.prog 21 #[.slice ax l.length cx] w' fun r w'' => ∃ y, r = .returned (.tuple #[.agg #[.int .i64 0, .int .i64 0, .int .u64 0, .int .i64 0, .int .i64 0, .int .i64 0, y, .int .u64 0], .int .i64 J]) ∧ Rd w'' y [] ∧ Below w'.heap.size w' w'') := R
  have HSZ : Hid (∀ w' y, Rd w' y [] → Calls Try.prog 22 #[.agg #[.int .i64 0, .int .i64 0, .int .u64 0, .int .i64 0, .int .i64 0, .int .i64 0, y, .int .u64 0], .agg #[.int .i64 0, .int .i64 0, .int .u64 0, .int .i64 0, .int .i64 0, .int .i64 0, .slice none 0 0, .int .u64 0]] w' fun r w'' => r = .returned (.bool true) ∧ Below w'.heap.size w' w'') := SZ
  clear R SZ hz hj
  have HL : Hid (∀ w', Rd w' (.slice a eb.length cap) eb → Calls Try.prog 7 #[.agg #[.int .i64 ew, .int .i64 ei, .int .u64 ep, .int .i64 et, .int .i64 eu, .int .i64 en, .slice a eb.length cap, .int .u64 eg]] w' fun r w'' => r = .returned (.bool true) ∧ Below w'.heap.size w' w'') := LT
  have HRT : Hid (∀ w', Rd w' (.slice a eb.length cap) eb → Calls Try.prog 20 #[.agg #[.int .i64 ew, .int .i64 ei, .int .u64 ep, .int .i64 et, .int .i64 eu, .int .i64 en, .slice a eb.length cap, .int .u64 eg]] w' fun r w'' => r = .returned (.bool false) ∧ Below w'.heap.size w' w'') := RT
  have HBy : Hid (∀ w', Rd w' (.slice a eb.length cap) eb → Calls Try.prog 19 #[.agg #[.int .i64 ew, .int .i64 ei, .int .u64 ep, .int .i64 et, .int .i64 eu, .int .i64 en, .slice a eb.length cap, .int .u64 eg]] w' fun r w'' => r = .returned (.tuple #[.slice none 0 0, .int .i64 1]) ∧ Below w'.heap.size w' w'') := B
  have hl' : ¬ 1500 < (l.length : Int) := by omega
  have HBl : Hid (eb.length ≤ 1500) := hb
  obtain ⟨w1, hw1⟩ : ∃ w1, w1 = w.alloc (.cells #[.int .i64 ew, .int .i64 ei, .int .u64 ep, .int .i64 et, .int .i64 eu, .int .i64 en, .slice a eb.length cap, .int .u64 eg] 28) := ⟨_, rfl⟩
  have HB1 : Hid (Below w.heap.size w w1) := by show Below _ _ _; rw [hw1]; exact balloc (Below.refl _ _) _
  have HX1 : Hid (Blk w1 w.heap.size 28 [.int .i64 ew, .int .i64 ei, .int .u64 ep, .int .i64 et, .int .i64 eu, .int .i64 en, .slice a eb.length cap, .int .u64 eg]) := by show Blk _ _ _ _; rw [hw1]; exact blk_new w [.int .i64 ew, .int .i64 ei, .int .u64 ep, .int .i64 et, .int .i64 eu, .int .i64 en, .slice a eb.length cap, .int .u64 eg] 28
  clear LT RT B hv hx he hr hb
  go_enter Try.func4, Try.ntmps4
  go_upto_region 1 with fail
  rw [← hw1]
  obtain ⟨n, hn⟩ : ∃ n, n = w.heap.size := ⟨_, rfl⟩
  rw [← hn] at HX1 ⊢
  clear hw1 hn
  have x0 := HX1.out.cell 0 _ rfl
  have x1 := HX1.out.cell 1 _ rfl
  have x2 := HX1.out.cell 2 _ rfl
  have x3 := HX1.out.cell 3 _ rfl
  have x4 := HX1.out.cell 4 _ rfl
  have x5 := HX1.out.cell 5 _ rfl
  have x6 := HX1.out.cell 6 _ rfl
  have x7 := HX1.out.cell 7 _ rfl
  go_upto_region 14 with (first
    | (go_at_call 7; go_must (refine (HL.out w1 (HV.out.below HB1.out)).mono ?_; rintro r w2 ⟨rfl, hb2⟩; have X2 := HX1.out.below hb2; have y0 := X2.cell 0 _ rfl; have y1 := X2.cell 1 _ rfl; have y2 := X2.cell 2 _ rfl; have y3 := X2.cell 3 _ rfl; have y4 := X2.cell 4 _ rfl; have y5 := X2.cell 5 _ rfl; have y6 := X2.cell 6 _ rfl; have y7 := X2.cell 7 _ rfl))
    | (go_at_call 19; go_must (refine (HBy.out w2 (HV.out.below (bnext HB1.out hb2))).mono ?_; rintro r w3 ⟨rfl, hb3⟩; have X3 := HX1.out.below (bnext hb2 hb3); have z0 := X3.cell 0 _ rfl; have z1 := X3.cell 1 _ rfl; have z2 := X3.cell 2 _ rfl; have z3 := X3.cell 3 _ rfl; have z4 := X3.cell 4 _ rfl; have z5 := X3.cell 5 _ rfl; have z6 := X3.cell 6 _ rfl; have z7 := X3.cell 7 _ rfl))
    | (go_at_call 20; go_must (refine (HRT.out w3 (HV.out.below (bnext HB1.out (bnext hb2 hb3)))).mono ?_; rintro r w4 ⟨rfl, hb4⟩)))
  have HBC : Hid (Below w1.heap.size w1 w4) := (show Below _ _ _ from bnext (bnext hb2 hb3) hb4)
  clear x0 x1 x2 x3 x4 x5 x6 x7 y0 y1 y2 y3 y4 y5 y6 y7 z0 z1 z2 z3 z4 z5 z6 z7
  go_wp2_with (first
    | (go_at_call 21; go_must (refine (HR.out _ (HX.out.below (bnext HB1.out HBC.out))).mono ?_; rintro r w8 ⟨y, rfl, hy8, hb8⟩; obtain ⟨ay, cy, hy⟩ := hy8.len; subst hy))
    | (go_at_call 22; go_must (refine (HSZ.out _ _ (hy8.below (balloc (Below.refl _ w8) _))).mono ?_; rintro r w9 ⟨rfl, hb9⟩))
    | (go_at_call 8; go_must (refine (alive_any _).mono ?_; rintro r w10 ⟨rfl, hb10⟩)))
  go_ret
  exact ⟨rfl, bnext (bnext (bnext (bnext HB1.out HBC.out) hb8) (bnext (balloc (Below.refl _ w8) _) hb9)) hb10⟩

theorem back_no_ok (e : Ent) (v x : Value) (l : List Int) (c : Int) (w : World) (he : EOk e) (hv : Rd w v e.b) (hx : Rd w x l) (hc : I64 c) (hb : e.b.length ≤ 1500) (hl : l.length ≤ 1500) (hr : rightB e = false) (hj : (readE l).2 = 0) :
    Calls Try.prog 4 #[ev e v, x, .int .i64 c] w fun r w' => r = .returned (.bool true) ∧ Below w.heap.size w w' := by
  have HV : Hid (Rd w v e.b) := hv
  have HX : Hid (Rd w x l) := hx
  have LT := fun w' (h : Rd w' v e.b) => light_any e v w' h
  rw [decide_eq_true hb] at LT
  have RT := fun w' (h : Rd w' v e.b) => rightE_any e v w' h
  rw [hr] at RT
  have B := fun w' (h : Rd w' v e.b) => bytesF_no w' e v h hr
  obtain ⟨fright, fok, flb⟩ := read_inv hx.oct hj
  have R := fun w' (h : Rd w' x l) => readE_any w' x l h (by omega)
  have BFy := fun w' y (h : Rd w' y (readE l).1.b) => bytesF_yes w' (readE l).1 y fok h (by have := fright.2.2.2.2.2.2; omega) ((rightB_iff _).2 fright)
  rw [hj] at R
  have HLB : Hid (bytesE (readE l).1 = l) := flb.symm
  generalize bytesE (readE l).1 = BF at *
  generalize (readE l).1 = f at *
  obtain ⟨fw, fi, fp, ft, fu, fn, fb, fg⟩ := f
  obtain ⟨a, cap, rfl⟩ := hv.len
  obtain ⟨ax, cx, rfl⟩ := hx.len
  obtain ⟨ew, ei, ep, et, eu, en, eb, eg⟩ := e
  unfold ev at *
  dsimp only at *
  have HR : Hid (∀ w', Rd w' (.slice ax l.length cx) l → Calls Try.prog 21 #[.slice ax l.length cx] w' fun r w'' => ∃ y, r = .returned (.tuple #[.agg #[.int .i64 fw, .int .i64 fi, .int .u64 fp, .int .i64 ft, .int .i64 fu, .int .i64 fn, y, .int .u64 fg], .int .i64 0]) ∧ Rd w'' y fb ∧ Below w'.heap.size w' w'') := R
  have HBF : Hid (∀ w' y, Rd w' y fb → Calls Try.prog 19 #[.agg #[.int .i64 fw, .int .i64 fi, .int .u64 fp, .int .i64 ft, .int .i64 fu, .int .i64 fn, y, .int .u64 fg]] w' fun r w'' => ∃ z, r = .returned (.tuple #[z, .int .i64 0]) ∧ Own w'.heap.size 5 w'' z BF ∧ Below w'.heap.size w' w'') := BFy
  clear R BFy fright fok flb hj
  have HL : Hid (∀ w', Rd w' (.slice a eb.length cap) eb → Calls Try.prog 7 #[.agg #[.int .i64 ew, .int .i64 ei, .int .u64 ep, .int .i64 et, .int .i64 eu, .int .i64 en, .slice a eb.length cap, .int .u64 eg]] w' fun r w'' => r = .returned (.bool true) ∧ Below w'.heap.size w' w'') := LT
  have HRT : Hid (∀ w', Rd w' (.slice a eb.length cap) eb → Calls Try.prog 20 #[.agg #[.int .i64 ew, .int .i64 ei, .int .u64 ep, .int .i64 et, .int .i64 eu, .int .i64 en, .slice a eb.length cap, .int .u64 eg]] w' fun r w'' => r = .returned (.bool false) ∧ Below w'.heap.size w' w'') := RT
  have HBy : Hid (∀ w', Rd w' (.slice a eb.length cap) eb → Calls Try.prog 19 #[.agg #[.int .i64 ew, .int .i64 ei, .int .u64 ep, .int .i64 et, .int .i64 eu, .int .i64 en, .slice a eb.length cap, .int .u64 eg]] w' fun r w'' => r = .returned (.tuple #[.slice none 0 0, .int .i64 1]) ∧ Below w'.heap.size w' w'') := B
  have hl' : ¬ 1500 < (l.length : Int) := by omega
  have HBl : Hid (eb.length ≤ 1500) := hb
  obtain ⟨w1, hw1⟩ : ∃ w1, w1 = w.alloc (.cells #[.int .i64 ew, .int .i64 ei, .int .u64 ep, .int .i64 et, .int .i64 eu, .int .i64 en, .slice a eb.length cap, .int .u64 eg] 28) := ⟨_, rfl⟩
  have HB1 : Hid (Below w.heap.size w w1) := by show Below _ _ _; rw [hw1]; exact balloc (Below.refl _ _) _
  have HX1 : Hid (Blk w1 w.heap.size 28 [.int .i64 ew, .int .i64 ei, .int .u64 ep, .int .i64 et, .int .i64 eu, .int .i64 en, .slice a eb.length cap, .int .u64 eg]) := by show Blk _ _ _ _; rw [hw1]; exact blk_new w [.int .i64 ew, .int .i64 ei, .int .u64 ep, .int .i64 et, .int .i64 eu, .int .i64 en, .slice a eb.length cap, .int .u64 eg] 28
  clear LT RT B hv hx he hr hb
  go_enter Try.func4, Try.ntmps4
  go_upto_region 1 with fail
  rw [← hw1]
  obtain ⟨n, hn⟩ : ∃ n, n = w.heap.size := ⟨_, rfl⟩
  rw [← hn] at HX1 ⊢
  clear hw1 hn
  have x0 := HX1.out.cell 0 _ rfl
  have x1 := HX1.out.cell 1 _ rfl
  have x2 := HX1.out.cell 2 _ rfl
  have x3 := HX1.out.cell 3 _ rfl
  have x4 := HX1.out.cell 4 _ rfl
  have x5 := HX1.out.cell 5 _ rfl
  have x6 := HX1.out.cell 6 _ rfl
  have x7 := HX1.out.cell 7 _ rfl
  go_upto_region 14 with (first
    | (go_at_call 7; go_must (refine (HL.out w1 (HV.out.below HB1.out)).mono ?_; rintro r w2 ⟨rfl, hb2⟩; have X2 := HX1.out.below hb2; have y0 := X2.cell 0 _ rfl; have y1 := X2.cell 1 _ rfl; have y2 := X2.cell 2 _ rfl; have y3 := X2.cell 3 _ rfl; have y4 := X2.cell 4 _ rfl; have y5 := X2.cell 5 _ rfl; have y6 := X2.cell 6 _ rfl; have y7 := X2.cell 7 _ rfl))
    | (go_at_call 19; go_must (refine (HBy.out w2 (HV.out.below (bnext HB1.out hb2))).mono ?_; rintro r w3 ⟨rfl, hb3⟩; have X3 := HX1.out.below (bnext hb2 hb3); have z0 := X3.cell 0 _ rfl; have z1 := X3.cell 1 _ rfl; have z2 := X3.cell 2 _ rfl; have z3 := X3.cell 3 _ rfl; have z4 := X3.cell 4 _ rfl; have z5 := X3.cell 5 _ rfl; have z6 := X3.cell 6 _ rfl; have z7 := X3.cell 7 _ rfl))
    | (go_at_call 20; go_must (refine (HRT.out w3 (HV.out.below (bnext HB1.out (bnext hb2 hb3)))).mono ?_; rintro r w4 ⟨rfl, hb4⟩)))
  have HBC : Hid (Below w1.heap.size w1 w4) := (show Below _ _ _ from bnext (bnext hb2 hb3) hb4)
  clear x0 x1 x2 x3 x4 x5 x6 x7 y0 y1 y2 y3 y4 y5 y6 y7 z0 z1 z2 z3 z4 z5 z6 z7
  go_wp2_with (first
    | (go_at_call 21; go_must (refine (HR.out _ (HX.out.below (bnext HB1.out HBC.out))).mono ?_; rintro r w8 ⟨y, rfl, hy8, hb8⟩; obtain ⟨ay, cy, hy⟩ := hy8.len; subst hy))
    | (go_at_call 19; go_must (refine (HBF.out _ _ (hy8.below (balloc (Below.refl _ w8) _))).mono ?_; rintro r w9 ⟨z, rfl, ho9, hb9⟩; obtain ⟨az, cz, hz⟩ := ho9.rd.len; subst hz))
    | (go_at_call 23; go_must (refine (same_any _ _ BF l w9 ho9.rd (HX.out.below (bnext (bnext (bnext HB1.out HBC.out) hb8) (bnext (balloc (Below.refl _ w8) _) hb9)))).mono ?_; rw [decide_eq_true HLB.out]; rintro r w10 ⟨rfl, hb10⟩))
    | (go_at_call 8; go_must (refine (alive_any _).mono ?_; rintro r w11 ⟨rfl, hb11⟩)))
  go_ret
  exact ⟨rfl, bnext (bnext (bnext (bnext (bnext HB1.out HBC.out) hb8) (bnext (balloc (Below.refl _ w8) _) hb9)) hb10) hb11⟩

theorem back_yes_bad (e : Ent) (v x : Value) (l : List Int) (c : Int) (w : World) (he : EOk e) (hv : Rd w v e.b) (hx : Rd w x l) (hc : I64 c) (hb : e.b.length ≤ 1500) (hl : l.length ≤ 1500) (hr : rightB e = true) (hj : (readE l).2 ≠ 0) :
    Calls Try.prog 4 #[ev e v, x, .int .i64 c] w fun r w' => r = .returned (.bool true) ∧ Below w.heap.size w w' := by
  have HV : Hid (Rd w v e.b) := hv
  have HX : Hid (Rd w x l) := hx
  have LT := fun w' (h : Rd w' v e.b) => light_any e v w' h
  rw [decide_eq_true hb] at LT
  have RT := fun w' (h : Rd w' v e.b) => rightE_any e v w' h
  rw [hr] at RT
  have B := fun w' (h : Rd w' v e.b) => bytesF_yes w' e v he h (by omega) hr
  have hright := (rightB_iff e).1 hr
  have hlenB : (bytesE e).length ≤ 10000 := by
    have h1 := text_len he (by omega)
    have h2 := form_le10 (n := e.g.toNat) (by have := he.2.2.2.2.2.2.1; unfold U64 at this; omega)
    unfold bytesE
    rw [List.length_append]
    omega
  have R1 := fun w' z (h : Rd w' z (bytesE e)) => readE_any w' z (bytesE e) h (by omega)
  rw [read_bytes hright he] at R1
  have R2 : ∀ C : Nat, C < (bytesE e).length → Oct (bytesE e) → ∃ K, ((K != 0) = true) ∧ ∀ w' z, Rd w' z ((bytesE e).take C) → Calls Try.prog 21 #[z] w' fun r w'' => ∃ y, r = .returned (.tuple #[ev zeroE y, .int .i64 K]) ∧ Rd w'' y [] ∧ Below w'.heap.size w' w'' := fun C hC ho => by
    have h1 := read_cut hright he hC ho
    refine ⟨(readE ((bytesE e).take C)).2, by simpa using h1, fun w' z hz => ?_⟩
    refine (readE_any w' z _ hz (by rw [List.length_take]; omega)).mono ?_
    rw [read_bad h1]
    rintro r w'' ⟨y, rfl, hy, hb⟩
    exact ⟨y, rfl, hy, hb⟩
  have SE := fun w' y (h : Rd w' v e.b) (h' : Rd w' y e.b) => sameE_any w' e e v y h h'
  rw [(sameB_iff e e).2 rfl] at SE
  generalize bytesE e = BE at *
  have hz := read_bad hj
  have R := fun w' (h : Rd w' x l) => readE_any w' x l h (by omega)
  rw [hz] at R
  have SZ := fun w' y (h : Rd w' y zeroE.b) => sameE_any w' zeroE zeroE y (.slice none 0 0) h (rd_nil _)
  rw [(sameB_iff zeroE zeroE).2 rfl] at SZ
  generalize (readE l).2 = J at *
  have hJ : (J != 0) = true := by simpa using hj
  unfold zeroE at R SZ
  obtain ⟨a, cap, rfl⟩ := hv.len
  obtain ⟨ax, cx, rfl⟩ := hx.len
  obtain ⟨ew, ei, ep, et, eu, en, eb, eg⟩ := e
  unfold zeroE at R2
  unfold ev at *
  dsimp only at *
  have HR : Hid (∀ w', Rd w' (.slice ax l.length cx) l → Calls Try.prog 21 #[.slice ax l.length cx] w' fun r w'' => ∃ y, r = .returned (.tuple #[.agg #[.int .i64 0, .int .i64 0, .int .u64 0, .int .i64 0, .int .i64 0, .int .i64 0, y, .int .u64 0], .int .i64 J]) ∧ Rd w'' y [] ∧ Below w'.heap.size w' w'') := R
  have HSZ : Hid (∀ w' y, Rd w' y [] → Calls Try.prog 22 #[.agg #[.int .i64 0, .int .i64 0, .int .u64 0, .int .i64 0, .int .i64 0, .int .i64 0, y, .int .u64 0], .agg #[.int .i64 0, .int .i64 0, .int .u64 0, .int .i64 0, .int .i64 0, .int .i64 0, .slice none 0 0, .int .u64 0]] w' fun r w'' => r = .returned (.bool true) ∧ Below w'.heap.size w' w'') := SZ
  clear R SZ hz hj
  have HL : Hid (∀ w', Rd w' (.slice a eb.length cap) eb → Calls Try.prog 7 #[.agg #[.int .i64 ew, .int .i64 ei, .int .u64 ep, .int .i64 et, .int .i64 eu, .int .i64 en, .slice a eb.length cap, .int .u64 eg]] w' fun r w'' => r = .returned (.bool true) ∧ Below w'.heap.size w' w'') := LT
  have HRT : Hid (∀ w', Rd w' (.slice a eb.length cap) eb → Calls Try.prog 20 #[.agg #[.int .i64 ew, .int .i64 ei, .int .u64 ep, .int .i64 et, .int .i64 eu, .int .i64 en, .slice a eb.length cap, .int .u64 eg]] w' fun r w'' => r = .returned (.bool true) ∧ Below w'.heap.size w' w'') := RT
  have HBy : Hid (∀ w', Rd w' (.slice a eb.length cap) eb → Calls Try.prog 19 #[.agg #[.int .i64 ew, .int .i64 ei, .int .u64 ep, .int .i64 et, .int .i64 eu, .int .i64 en, .slice a eb.length cap, .int .u64 eg]] w' fun r w'' => ∃ x, r = .returned (.tuple #[x, .int .i64 0]) ∧ Own w'.heap.size 5 w'' x BE ∧ Below w'.heap.size w' w'') := B
  have HR1 : Hid (∀ w' z, Rd w' z BE → Calls Try.prog 21 #[z] w' fun r w'' => ∃ y, r = .returned (.tuple #[.agg #[.int .i64 ew, .int .i64 ei, .int .u64 ep, .int .i64 et, .int .i64 eu, .int .i64 en, y, .int .u64 eg], .int .i64 0]) ∧ Rd w'' y eb ∧ Below w'.heap.size w' w'') := R1
  have HR2 : Hid (∀ C : Nat, C < BE.length → Oct BE → ∃ K, ((K != 0) = true) ∧ ∀ w' z, Rd w' z (BE.take C) → Calls Try.prog 21 #[z] w' fun r w'' => ∃ y, r = .returned (.tuple #[.agg #[.int .i64 0, .int .i64 0, .int .u64 0, .int .i64 0, .int .i64 0, .int .i64 0, y, .int .u64 0], .int .i64 K]) ∧ Rd w'' y [] ∧ Below w'.heap.size w' w'') := R2
  have HSE : Hid (∀ w' y, Rd w' (.slice a eb.length cap) eb → Rd w' y eb → Calls Try.prog 22 #[.agg #[.int .i64 ew, .int .i64 ei, .int .u64 ep, .int .i64 et, .int .i64 eu, .int .i64 en, .slice a eb.length cap, .int .u64 eg], .agg #[.int .i64 ew, .int .i64 ei, .int .u64 ep, .int .i64 et, .int .i64 eu, .int .i64 en, y, .int .u64 eg]] w' fun r w'' => r = .returned (.bool true) ∧ Below w'.heap.size w' w'') := SE
  clear R1 R2 SE hright
  have hl' : ¬ 1500 < (l.length : Int) := by omega
  have HBl : Hid (eb.length ≤ 1500) := hb
  obtain ⟨w1, hw1⟩ : ∃ w1, w1 = w.alloc (.cells #[.int .i64 ew, .int .i64 ei, .int .u64 ep, .int .i64 et, .int .i64 eu, .int .i64 en, .slice a eb.length cap, .int .u64 eg] 28) := ⟨_, rfl⟩
  have HB1 : Hid (Below w.heap.size w w1) := by show Below _ _ _; rw [hw1]; exact balloc (Below.refl _ _) _
  have HX1 : Hid (Blk w1 w.heap.size 28 [.int .i64 ew, .int .i64 ei, .int .u64 ep, .int .i64 et, .int .i64 eu, .int .i64 en, .slice a eb.length cap, .int .u64 eg]) := by show Blk _ _ _ _; rw [hw1]; exact blk_new w [.int .i64 ew, .int .i64 ei, .int .u64 ep, .int .i64 et, .int .i64 eu, .int .i64 en, .slice a eb.length cap, .int .u64 eg] 28
  clear LT RT B hv hx he hr hb
  go_enter Try.func4, Try.ntmps4
  go_upto_region 1 with fail
  rw [← hw1]
  obtain ⟨n, hn⟩ : ∃ n, n = w.heap.size := ⟨_, rfl⟩
  rw [← hn] at HX1 ⊢
  clear hw1 hn
  have x0 := HX1.out.cell 0 _ rfl
  have x1 := HX1.out.cell 1 _ rfl
  have x2 := HX1.out.cell 2 _ rfl
  have x3 := HX1.out.cell 3 _ rfl
  have x4 := HX1.out.cell 4 _ rfl
  have x5 := HX1.out.cell 5 _ rfl
  have x6 := HX1.out.cell 6 _ rfl
  have x7 := HX1.out.cell 7 _ rfl
  go_upto_if 37 with (first
    | (go_at_call 7; go_must (refine (HL.out w1 (HV.out.below HB1.out)).mono ?_; rintro r w2 ⟨rfl, hb2⟩; have X2 := HX1.out.below hb2; have y0 := X2.cell 0 _ rfl; have y1 := X2.cell 1 _ rfl; have y2 := X2.cell 2 _ rfl; have y3 := X2.cell 3 _ rfl; have y4 := X2.cell 4 _ rfl; have y5 := X2.cell 5 _ rfl; have y6 := X2.cell 6 _ rfl; have y7 := X2.cell 7 _ rfl))
    | (go_at_call 19; go_must (refine (HBy.out w2 (HV.out.below (bnext HB1.out hb2))).mono ?_; rintro r w3 ⟨x3, rfl, ho3, hb3⟩; obtain ⟨a3, c3, hx3⟩ := ho3.rd.len; subst hx3; have X3 := HX1.out.below (bnext hb2 hb3); have z0 := X3.cell 0 _ rfl; have z1 := X3.cell 1 _ rfl; have z2 := X3.cell 2 _ rfl; have z3 := X3.cell 3 _ rfl; have z4 := X3.cell 4 _ rfl; have z5 := X3.cell 5 _ rfl; have z6 := X3.cell 6 _ rfl; have z7 := X3.cell 7 _ rfl))
    | (go_at_call 20; go_must (refine (HRT.out w3 (HV.out.below (bnext HB1.out (bnext hb2 hb3)))).mono ?_; rintro r w4 ⟨rfl, hb4⟩)))
  have HB4 : Hid (Below w1.heap.size w1 w4) := (show Below _ _ _ from bnext (bnext hb2 hb3) hb4)
  have HX3 : Hid (Rd w4 (.slice a3 BE.length c3) BE) := ho3.rd.below hb4
  have hcap3 := ho3.rd.cap
  clear x0 x1 x2 x3 x4 x5 x6 x7 y0 y1 y2 y3 y4 y5 y6 y7 z0 z1 z2 z3 z4 z5 z6 z7 hb2 hb3 hb4 X2 X3 ho3
  go_cut [95] (fun p wx => Hid (Below w1.heap.size w1 wx))
  case first =>
    by_cases hcut : 0 ≤ c ∧ c < (BE.length : Int)
    · obtain ⟨C, rfl⟩ : ∃ C : Nat, c = (C : Int) := ⟨c.toNat, by omega⟩
      have hC : C < BE.length := by omega
      obtain ⟨K, hK, hRK⟩ := HR2.out C hC HX3.out.oct
      have HRK : Hid (∀ w' z, Rd w' z (BE.take C) → Calls Try.prog 21 #[z] w' fun r w'' => ∃ y, r = .returned (.tuple #[.agg #[.int .i64 0, .int .i64 0, .int .u64 0, .int .i64 0, .int .i64 0, .int .i64 0, y, .int .u64 0], .int .i64 K]) ∧ Rd w'' y [] ∧ Below w'.heap.size w' w'') := hRK
      have hcc : C ≤ c3 := by omega
      have hK' : (K == 0) = false := by simpa using hK
      clear hRK HR2 hcut
      go_wp2_with (first
        | (go_at_call 21; first
            | (refine (HR1.out w4 _ HX3.out).mono ?_; rintro r w5 ⟨y5, rfl, hy5, hb5⟩; obtain ⟨a5, c5, hy⟩ := hy5.len; subst hy; have X5 := HX1.out.below (bnext HB4.out (bnext hb5 (balloc (Below.refl _ w5) (.cells #[.int .i64 ew, .int .i64 ei, .int .u64 ep, .int .i64 et, .int .i64 eu, .int .i64 en, .slice a5 eb.length c5, .int .u64 eg] 28)))); have y0 := X5.cell 0 _ rfl; have y1 := X5.cell 1 _ rfl; have y2 := X5.cell 2 _ rfl; have y3 := X5.cell 3 _ rfl; have y4 := X5.cell 4 _ rfl; have y5 := X5.cell 5 _ rfl; have y6 := X5.cell 6 _ rfl; have y7 := X5.cell 7 _ rfl; clear HR1)
            | (refine (HRK.out _ _ (rd_head (HX3.out.below (bnext (bnext hb5 (balloc (Below.refl _ w5) _)) hb6)) (by omega))).mono ?_; rintro r w7 ⟨y7, rfl, hy7, hb7⟩; obtain ⟨a7, c7, hy⟩ := hy7.len; subst hy))
        | (go_at_call 22; go_must (refine (HSE.out _ _ (HV.out.below (bnext HB1.out (bnext HB4.out (bnext hb5 (balloc (Below.refl _ w5) _))))) (hy5.below (balloc (Below.refl _ w5) _))).mono ?_; rintro r w6 ⟨rfl, hb6⟩)))
      go_meet
      exact (show Below _ _ _ from bnext (bnext (bnext (bnext HB4.out hb5) (balloc (Below.refl _ w5) _)) hb6) (bnext hb7 (balloc (Below.refl _ w7) _)))
    · by_cases hc0 : 0 ≤ c
      all_goals
        have hc1 : (0 ≤ c ∧ (BE.length : Int) ≤ c) ∨ c < 0 := by omega
        go_wp2_with (first
          | (go_at_call 21; refine (HR1.out w4 _ HX3.out).mono ?_; rintro r w5 ⟨y5, rfl, hy5, hb5⟩; obtain ⟨a5, c5, hy⟩ := hy5.len; subst hy; have X5 := HX1.out.below (bnext HB4.out (bnext hb5 (balloc (Below.refl _ w5) (.cells #[.int .i64 ew, .int .i64 ei, .int .u64 ep, .int .i64 et, .int .i64 eu, .int .i64 en, .slice a5 eb.length c5, .int .u64 eg] 28)))); have y0 := X5.cell 0 _ rfl; have y1 := X5.cell 1 _ rfl; have y2 := X5.cell 2 _ rfl; have y3 := X5.cell 3 _ rfl; have y4 := X5.cell 4 _ rfl; have y5 := X5.cell 5 _ rfl; have y6 := X5.cell 6 _ rfl; have y7 := X5.cell 7 _ rfl; clear HR1)
          | (go_at_call 22; go_must (refine (HSE.out _ _ (HV.out.below (bnext HB1.out (bnext HB4.out (bnext hb5 (balloc (Below.refl _ w5) _))))) (hy5.below (balloc (Below.refl _ w5) _))).mono ?_; rintro r w6 ⟨rfl, hb6⟩)))
        go_meet
        exact (show Below _ _ _ from bnext (bnext (bnext HB4.out hb5) (balloc (Below.refl _ w5) _)) hb6)
  case rest =>
    rename World => w7
    have HBC : Hid (Below w1.heap.size w1 w7) := hcut
    go_wp2_with (first
      | (go_at_call 21; go_must (refine (HR.out _ (HX.out.below (bnext HB1.out HBC.out))).mono ?_; rintro r w8 ⟨y, rfl, hy8, hb8⟩; obtain ⟨ay, cy, hy⟩ := hy8.len; subst hy))
      | (go_at_call 22; go_must (refine (HSZ.out _ _ (hy8.below (balloc (Below.refl _ w8) _))).mono ?_; rintro r w9 ⟨rfl, hb9⟩))
      | (go_at_call 8; go_must (refine (alive_any _).mono ?_; rintro r w10 ⟨rfl, hb10⟩)))
    go_ret
    exact ⟨rfl, bnext (bnext (bnext (bnext HB1.out HBC.out) hb8) (bnext (balloc (Below.refl _ w8) _) hb9)) hb10⟩

theorem back_yes_ok (e : Ent) (v x : Value) (l : List Int) (c : Int) (w : World) (he : EOk e) (hv : Rd w v e.b) (hx : Rd w x l) (hc : I64 c) (hb : e.b.length ≤ 1500) (hl : l.length ≤ 1500) (hr : rightB e = true) (hj : (readE l).2 = 0) :
    Calls Try.prog 4 #[ev e v, x, .int .i64 c] w fun r w' => r = .returned (.bool true) ∧ Below w.heap.size w w' := by
  have HV : Hid (Rd w v e.b) := hv
  have HX : Hid (Rd w x l) := hx
  have LT := fun w' (h : Rd w' v e.b) => light_any e v w' h
  rw [decide_eq_true hb] at LT
  have RT := fun w' (h : Rd w' v e.b) => rightE_any e v w' h
  rw [hr] at RT
  have B := fun w' (h : Rd w' v e.b) => bytesF_yes w' e v he h (by omega) hr
  have hright := (rightB_iff e).1 hr
  have hlenB : (bytesE e).length ≤ 10000 := by
    have h1 := text_len he (by omega)
    have h2 := form_le10 (n := e.g.toNat) (by have := he.2.2.2.2.2.2.1; unfold U64 at this; omega)
    unfold bytesE
    rw [List.length_append]
    omega
  have R1 := fun w' z (h : Rd w' z (bytesE e)) => readE_any w' z (bytesE e) h (by omega)
  rw [read_bytes hright he] at R1
  have R2 : ∀ C : Nat, C < (bytesE e).length → Oct (bytesE e) → ∃ K, ((K != 0) = true) ∧ ∀ w' z, Rd w' z ((bytesE e).take C) → Calls Try.prog 21 #[z] w' fun r w'' => ∃ y, r = .returned (.tuple #[ev zeroE y, .int .i64 K]) ∧ Rd w'' y [] ∧ Below w'.heap.size w' w'' := fun C hC ho => by
    have h1 := read_cut hright he hC ho
    refine ⟨(readE ((bytesE e).take C)).2, by simpa using h1, fun w' z hz => ?_⟩
    refine (readE_any w' z _ hz (by rw [List.length_take]; omega)).mono ?_
    rw [read_bad h1]
    rintro r w'' ⟨y, rfl, hy, hb⟩
    exact ⟨y, rfl, hy, hb⟩
  have SE := fun w' y (h : Rd w' v e.b) (h' : Rd w' y e.b) => sameE_any w' e e v y h h'
  rw [(sameB_iff e e).2 rfl] at SE
  generalize bytesE e = BE at *
  obtain ⟨fright, fok, flb⟩ := read_inv hx.oct hj
  have R := fun w' (h : Rd w' x l) => readE_any w' x l h (by omega)
  have BFy := fun w' y (h : Rd w' y (readE l).1.b) => bytesF_yes w' (readE l).1 y fok h (by have := fright.2.2.2.2.2.2; omega) ((rightB_iff _).2 fright)
  rw [hj] at R
  have HLB : Hid (bytesE (readE l).1 = l) := flb.symm
  generalize bytesE (readE l).1 = BF at *
  generalize (readE l).1 = f at *
  obtain ⟨fw, fi, fp, ft, fu, fn, fb, fg⟩ := f
  obtain ⟨a, cap, rfl⟩ := hv.len
  obtain ⟨ax, cx, rfl⟩ := hx.len
  obtain ⟨ew, ei, ep, et, eu, en, eb, eg⟩ := e
  unfold zeroE at R2
  unfold ev at *
  dsimp only at *
  have HR : Hid (∀ w', Rd w' (.slice ax l.length cx) l → Calls Try.prog 21 #[.slice ax l.length cx] w' fun r w'' => ∃ y, r = .returned (.tuple #[.agg #[.int .i64 fw, .int .i64 fi, .int .u64 fp, .int .i64 ft, .int .i64 fu, .int .i64 fn, y, .int .u64 fg], .int .i64 0]) ∧ Rd w'' y fb ∧ Below w'.heap.size w' w'') := R
  have HBF : Hid (∀ w' y, Rd w' y fb → Calls Try.prog 19 #[.agg #[.int .i64 fw, .int .i64 fi, .int .u64 fp, .int .i64 ft, .int .i64 fu, .int .i64 fn, y, .int .u64 fg]] w' fun r w'' => ∃ z, r = .returned (.tuple #[z, .int .i64 0]) ∧ Own w'.heap.size 5 w'' z BF ∧ Below w'.heap.size w' w'') := BFy
  clear R BFy fright fok flb hj
  have HL : Hid (∀ w', Rd w' (.slice a eb.length cap) eb → Calls Try.prog 7 #[.agg #[.int .i64 ew, .int .i64 ei, .int .u64 ep, .int .i64 et, .int .i64 eu, .int .i64 en, .slice a eb.length cap, .int .u64 eg]] w' fun r w'' => r = .returned (.bool true) ∧ Below w'.heap.size w' w'') := LT
  have HRT : Hid (∀ w', Rd w' (.slice a eb.length cap) eb → Calls Try.prog 20 #[.agg #[.int .i64 ew, .int .i64 ei, .int .u64 ep, .int .i64 et, .int .i64 eu, .int .i64 en, .slice a eb.length cap, .int .u64 eg]] w' fun r w'' => r = .returned (.bool true) ∧ Below w'.heap.size w' w'') := RT
  have HBy : Hid (∀ w', Rd w' (.slice a eb.length cap) eb → Calls Try.prog 19 #[.agg #[.int .i64 ew, .int .i64 ei, .int .u64 ep, .int .i64 et, .int .i64 eu, .int .i64 en, .slice a eb.length cap, .int .u64 eg]] w' fun r w'' => ∃ x, r = .returned (.tuple #[x, .int .i64 0]) ∧ Own w'.heap.size 5 w'' x BE ∧ Below w'.heap.size w' w'') := B
  have HR1 : Hid (∀ w' z, Rd w' z BE → Calls Try.prog 21 #[z] w' fun r w'' => ∃ y, r = .returned (.tuple #[.agg #[.int .i64 ew, .int .i64 ei, .int .u64 ep, .int .i64 et, .int .i64 eu, .int .i64 en, y, .int .u64 eg], .int .i64 0]) ∧ Rd w'' y eb ∧ Below w'.heap.size w' w'') := R1
  have HR2 : Hid (∀ C : Nat, C < BE.length → Oct BE → ∃ K, ((K != 0) = true) ∧ ∀ w' z, Rd w' z (BE.take C) → Calls Try.prog 21 #[z] w' fun r w'' => ∃ y, r = .returned (.tuple #[.agg #[.int .i64 0, .int .i64 0, .int .u64 0, .int .i64 0, .int .i64 0, .int .i64 0, y, .int .u64 0], .int .i64 K]) ∧ Rd w'' y [] ∧ Below w'.heap.size w' w'') := R2
  have HSE : Hid (∀ w' y, Rd w' (.slice a eb.length cap) eb → Rd w' y eb → Calls Try.prog 22 #[.agg #[.int .i64 ew, .int .i64 ei, .int .u64 ep, .int .i64 et, .int .i64 eu, .int .i64 en, .slice a eb.length cap, .int .u64 eg], .agg #[.int .i64 ew, .int .i64 ei, .int .u64 ep, .int .i64 et, .int .i64 eu, .int .i64 en, y, .int .u64 eg]] w' fun r w'' => r = .returned (.bool true) ∧ Below w'.heap.size w' w'') := SE
  clear R1 R2 SE hright
  have hl' : ¬ 1500 < (l.length : Int) := by omega
  have HBl : Hid (eb.length ≤ 1500) := hb
  obtain ⟨w1, hw1⟩ : ∃ w1, w1 = w.alloc (.cells #[.int .i64 ew, .int .i64 ei, .int .u64 ep, .int .i64 et, .int .i64 eu, .int .i64 en, .slice a eb.length cap, .int .u64 eg] 28) := ⟨_, rfl⟩
  have HB1 : Hid (Below w.heap.size w w1) := by show Below _ _ _; rw [hw1]; exact balloc (Below.refl _ _) _
  have HX1 : Hid (Blk w1 w.heap.size 28 [.int .i64 ew, .int .i64 ei, .int .u64 ep, .int .i64 et, .int .i64 eu, .int .i64 en, .slice a eb.length cap, .int .u64 eg]) := by show Blk _ _ _ _; rw [hw1]; exact blk_new w [.int .i64 ew, .int .i64 ei, .int .u64 ep, .int .i64 et, .int .i64 eu, .int .i64 en, .slice a eb.length cap, .int .u64 eg] 28
  clear LT RT B hv hx he hr hb
  go_enter Try.func4, Try.ntmps4
  go_upto_region 1 with fail
  rw [← hw1]
  obtain ⟨n, hn⟩ : ∃ n, n = w.heap.size := ⟨_, rfl⟩
  rw [← hn] at HX1 ⊢
  clear hw1 hn
  have x0 := HX1.out.cell 0 _ rfl
  have x1 := HX1.out.cell 1 _ rfl
  have x2 := HX1.out.cell 2 _ rfl
  have x3 := HX1.out.cell 3 _ rfl
  have x4 := HX1.out.cell 4 _ rfl
  have x5 := HX1.out.cell 5 _ rfl
  have x6 := HX1.out.cell 6 _ rfl
  have x7 := HX1.out.cell 7 _ rfl
  go_upto_if 37 with (first
    | (go_at_call 7; go_must (refine (HL.out w1 (HV.out.below HB1.out)).mono ?_; rintro r w2 ⟨rfl, hb2⟩; have X2 := HX1.out.below hb2; have y0 := X2.cell 0 _ rfl; have y1 := X2.cell 1 _ rfl; have y2 := X2.cell 2 _ rfl; have y3 := X2.cell 3 _ rfl; have y4 := X2.cell 4 _ rfl; have y5 := X2.cell 5 _ rfl; have y6 := X2.cell 6 _ rfl; have y7 := X2.cell 7 _ rfl))
    | (go_at_call 19; go_must (refine (HBy.out w2 (HV.out.below (bnext HB1.out hb2))).mono ?_; rintro r w3 ⟨x3, rfl, ho3, hb3⟩; obtain ⟨a3, c3, hx3⟩ := ho3.rd.len; subst hx3; have X3 := HX1.out.below (bnext hb2 hb3); have z0 := X3.cell 0 _ rfl; have z1 := X3.cell 1 _ rfl; have z2 := X3.cell 2 _ rfl; have z3 := X3.cell 3 _ rfl; have z4 := X3.cell 4 _ rfl; have z5 := X3.cell 5 _ rfl; have z6 := X3.cell 6 _ rfl; have z7 := X3.cell 7 _ rfl))
    | (go_at_call 20; go_must (refine (HRT.out w3 (HV.out.below (bnext HB1.out (bnext hb2 hb3)))).mono ?_; rintro r w4 ⟨rfl, hb4⟩)))
  have HB4 : Hid (Below w1.heap.size w1 w4) := (show Below _ _ _ from bnext (bnext hb2 hb3) hb4)
  have HX3 : Hid (Rd w4 (.slice a3 BE.length c3) BE) := ho3.rd.below hb4
  have hcap3 := ho3.rd.cap
  clear x0 x1 x2 x3 x4 x5 x6 x7 y0 y1 y2 y3 y4 y5 y6 y7 z0 z1 z2 z3 z4 z5 z6 z7 hb2 hb3 hb4 X2 X3 ho3
  go_cut [95] (fun p wx => Hid (Below w1.heap.size w1 wx))
  case first =>
    by_cases hcut : 0 ≤ c ∧ c < (BE.length : Int)
    · obtain ⟨C, rfl⟩ : ∃ C : Nat, c = (C : Int) := ⟨c.toNat, by omega⟩
      have hC : C < BE.length := by omega
      obtain ⟨K, hK, hRK⟩ := HR2.out C hC HX3.out.oct
      have HRK : Hid (∀ w' z, Rd w' z (BE.take C) → Calls Try.prog 21 #[z] w' fun r w'' => ∃ y, r = .returned (.tuple #[.agg #[.int .i64 0, .int .i64 0, .int .u64 0, .int .i64 0, .int .i64 0, .int .i64 0, y, .int .u64 0], .int .i64 K]) ∧ Rd w'' y [] ∧ Below w'.heap.size w' w'') := hRK
      have hcc : C ≤ c3 := by omega
      have hK' : (K == 0) = false := by simpa using hK
      clear hRK HR2 hcut
      go_wp2_with (first
        | (go_at_call 21; first
            | (refine (HR1.out w4 _ HX3.out).mono ?_; rintro r w5 ⟨y5, rfl, hy5, hb5⟩; obtain ⟨a5, c5, hy⟩ := hy5.len; subst hy; have X5 := HX1.out.below (bnext HB4.out (bnext hb5 (balloc (Below.refl _ w5) (.cells #[.int .i64 ew, .int .i64 ei, .int .u64 ep, .int .i64 et, .int .i64 eu, .int .i64 en, .slice a5 eb.length c5, .int .u64 eg] 28)))); have y0 := X5.cell 0 _ rfl; have y1 := X5.cell 1 _ rfl; have y2 := X5.cell 2 _ rfl; have y3 := X5.cell 3 _ rfl; have y4 := X5.cell 4 _ rfl; have y5 := X5.cell 5 _ rfl; have y6 := X5.cell 6 _ rfl; have y7 := X5.cell 7 _ rfl; clear HR1)
            | (refine (HRK.out _ _ (rd_head (HX3.out.below (bnext (bnext hb5 (balloc (Below.refl _ w5) _)) hb6)) (by omega))).mono ?_; rintro r w7 ⟨y7, rfl, hy7, hb7⟩; obtain ⟨a7, c7, hy⟩ := hy7.len; subst hy))
        | (go_at_call 22; go_must (refine (HSE.out _ _ (HV.out.below (bnext HB1.out (bnext HB4.out (bnext hb5 (balloc (Below.refl _ w5) _))))) (hy5.below (balloc (Below.refl _ w5) _))).mono ?_; rintro r w6 ⟨rfl, hb6⟩)))
      go_meet
      exact (show Below _ _ _ from bnext (bnext (bnext (bnext HB4.out hb5) (balloc (Below.refl _ w5) _)) hb6) (bnext hb7 (balloc (Below.refl _ w7) _)))
    · by_cases hc0 : 0 ≤ c
      all_goals
        have hc1 : (0 ≤ c ∧ (BE.length : Int) ≤ c) ∨ c < 0 := by omega
        go_wp2_with (first
          | (go_at_call 21; refine (HR1.out w4 _ HX3.out).mono ?_; rintro r w5 ⟨y5, rfl, hy5, hb5⟩; obtain ⟨a5, c5, hy⟩ := hy5.len; subst hy; have X5 := HX1.out.below (bnext HB4.out (bnext hb5 (balloc (Below.refl _ w5) (.cells #[.int .i64 ew, .int .i64 ei, .int .u64 ep, .int .i64 et, .int .i64 eu, .int .i64 en, .slice a5 eb.length c5, .int .u64 eg] 28)))); have y0 := X5.cell 0 _ rfl; have y1 := X5.cell 1 _ rfl; have y2 := X5.cell 2 _ rfl; have y3 := X5.cell 3 _ rfl; have y4 := X5.cell 4 _ rfl; have y5 := X5.cell 5 _ rfl; have y6 := X5.cell 6 _ rfl; have y7 := X5.cell 7 _ rfl; clear HR1)
          | (go_at_call 22; go_must (refine (HSE.out _ _ (HV.out.below (bnext HB1.out (bnext HB4.out (bnext hb5 (balloc (Below.refl _ w5) _))))) (hy5.below (balloc (Below.refl _ w5) _))).mono ?_; rintro r w6 ⟨rfl, hb6⟩)))
        go_meet
        exact (show Below _ _ _ from bnext (bnext (bnext HB4.out hb5) (balloc (Below.refl _ w5) _)) hb6)
  case rest =>
    rename World => w7
    have HBC : Hid (Below w1.heap.size w1 w7) := hcut
    go_wp2_with (first
      | (go_at_call 21; go_must (refine (HR.out _ (HX.out.below (bnext HB1.out HBC.out))).mono ?_; rintro r w8 ⟨y, rfl, hy8, hb8⟩; obtain ⟨ay, cy, hy⟩ := hy8.len; subst hy))
      | (go_at_call 19; go_must (refine (HBF.out _ _ (hy8.below (balloc (Below.refl _ w8) _))).mono ?_; rintro r w9 ⟨z, rfl, ho9, hb9⟩; obtain ⟨az, cz, hz⟩ := ho9.rd.len; subst hz))
      | (go_at_call 23; go_must (refine (same_any _ _ BF l w9 ho9.rd (HX.out.below (bnext (bnext (bnext HB1.out HBC.out) hb8) (bnext (balloc (Below.refl _ w8) _) hb9)))).mono ?_; rw [decide_eq_true HLB.out]; rintro r w10 ⟨rfl, hb10⟩))
      | (go_at_call 8; go_must (refine (alive_any _).mono ?_; rintro r w11 ⟨rfl, hb11⟩)))
    go_ret
    exact ⟨rfl, bnext (bnext (bnext (bnext (bnext HB1.out HBC.out) hb8) (bnext (balloc (Below.refl _ w8) _) hb9)) hb10) hb11⟩

theorem back_walk (e : Ent) (v x : Value) (l : List Int) (c : Int) (w : World) (he : EOk e) (hv : Rd w v e.b) (hx : Rd w x l) (hc : I64 c) :
    Calls Try.prog 4 #[ev e v, x, .int .i64 c] w fun r w' => r = .returned (.bool true) ∧ Below w.heap.size w w' := by
  by_cases h : e.b.length ≤ 1500 ∧ l.length ≤ 1500
  · by_cases hj : (readE l).2 = 0
    · cases hr : rightB e
      · exact back_no_ok e v x l c w he hv hx hc h.1 h.2 hr hj
      · exact back_yes_ok e v x l c w he hv hx hc h.1 h.2 hr hj
    · cases hr : rightB e
      · exact back_no_bad e v x l c w he hv hx hc h.1 h.2 hr hj
      · exact back_yes_bad e v x l c w he hv hx hc h.1 h.2 hr hj
  · exact back_dark e v x l c w hv hx h
end Go.Proofs.Ytiebbglknmcnpaa
