/-
  Seal and Open of the document.
-/
import Derived.Test.YtjbpfhnagiacmaaGreatSea
import Derived.Test.YtjbpfhnagiacmaaGreatOrcs
import Derived.Test.YtjbpfhnagiacmaaGreatRng
namespace Go.Proofs.YtjbpfhnagiacmaaGreat
set_option linter.unusedVariables false
set_option linter.unusedSimpArgs false
set_option synthInstance.maxSize 20000
set_option maxHeartbeats 2000000
set_option maxRecDepth 20000
open Go.RowKit Go.Maps
theorem rseal10_bad (w : World) {x y n : Int} (hp : placeB x y n = false) (op rp v : Value) : Calls Tryz.prog 10 #[op, rp, .int .i64 x, .int .i64 y, .int .i64 n, v] w fun e w' => e = .returned (.tuple #[.slice none 0 0, .int .i64 1]) ∧ w' = w := by
  have hpp : ¬ ((0 ≤ x ∧ x ≤ 7) ∧ (0 ≤ y ∧ y ≤ 199) ∧ (0 ≤ n ∧ n ≤ 19)) := by
    unfold placeB at hp
    exact of_decide_eq_false hp
  clear hp
  by_cases h0 : x < 0
  · clear hpp
    go_enter Tryz.func10, Tryz.ntmps10
    go_wp2
    go_ret2
    exact ⟨rfl, rfl⟩
  by_cases h1 : 8 ≤ x
  · clear hpp
    go_enter Tryz.func10, Tryz.ntmps10
    go_wp2
    go_ret2
    exact ⟨rfl, rfl⟩
  by_cases h2 : y < 0
  · clear hpp
    go_enter Tryz.func10, Tryz.ntmps10
    go_wp2
    go_ret2
    exact ⟨rfl, rfl⟩
  by_cases h3 : 200 ≤ y
  · clear hpp
    go_enter Tryz.func10, Tryz.ntmps10
    go_wp2
    go_ret2
    exact ⟨rfl, rfl⟩
  by_cases h4 : n < 0
  · clear hpp
    go_enter Tryz.func10, Tryz.ntmps10
    go_wp2
    go_ret2
    exact ⟨rfl, rfl⟩
  by_cases h5 : 20 ≤ n
  · clear hpp
    go_enter Tryz.func10, Tryz.ntmps10
    go_wp2
    go_ret2
    exact ⟨rfl, rfl⟩
  exact absurd ⟨⟨by omega, by omega⟩, ⟨by omega, by omega⟩, by omega, by omega⟩ hpp
theorem rseal10_no {w : World} {x y n K kk : Int} {rp op v : Value} (hp : placeB x y n = true) (hk0 : kk ≠ 0)
    (hK : Calls Tryz.prog 36 #[rp, .int .i64 n] w fun e w'' => e = .returned (.tuple #[.int .u64 K, .int .i64 kk]) ∧ w'' = w) :
    Calls Tryz.prog 10 #[op, rp, .int .i64 x, .int .i64 y, .int .i64 n, v] w fun e w' => e = .returned (.tuple #[.slice none 0 0, .int .i64 kk]) ∧ w' = w := by
  have hpp : (0 ≤ x ∧ x ≤ 7) ∧ (0 ≤ y ∧ y ≤ 199) ∧ (0 ≤ n ∧ n ≤ 19) := by
    unfold placeB at hp
    exact of_decide_eq_true hp
  have HK : Hid (Calls Tryz.prog 36 #[rp, .int .i64 n] w fun e w'' => e = .returned (.tuple #[.int .u64 K, .int .i64 kk]) ∧ w'' = w) := hK
  have h0 : ¬ x < 0 := by omega
  have h1 : ¬ 8 ≤ x := by omega
  have h2 : ¬ y < 0 := by omega
  have h3 : ¬ 200 ≤ y := by omega
  have h4 : ¬ n < 0 := by omega
  have h5 : ¬ 20 ≤ n := by omega
  have hk : (kk != 0) = true := by simp [hk0]
  clear hp hpp hK
  go_enter Tryz.func10, Tryz.ntmps10
  go_wp2_with (go_at_call 36; go_must (refine HK.out.mono ?_; rintro r w2 ⟨rfl, hw2⟩; replace hw2 := hw2.symm; subst hw2))
  go_ret2
  exact ⟨rfl, rfl⟩
theorem rseal10_ok {Post : World → Value → Int → World → Prop} {w : World} {x y n K : Int} {rp op v : Value} (hp : placeB x y n = true)
    (hK : Calls Tryz.prog 36 #[rp, .int .i64 n] w fun e w'' => e = .returned (.tuple #[.int .u64 K, .int .i64 0]) ∧ w'' = w)
    (hT : ∀ w' u, Below w.heap.size w w' → Own w.heap.size 5 w' u (boundL x y n) → Calls Tryz.prog 37 #[op, .int .u64 K, u, v] w' fun e w'' => ∃ v' k, e = .returned (.tuple #[v', .int .i64 k]) ∧ Post w' v' k w'') :
    Calls Tryz.prog 10 #[op, rp, .int .i64 x, .int .i64 y, .int .i64 n, v] w fun e w'' => ∃ v' k w', e = .returned (.tuple #[v', .int .i64 k]) ∧ Below w.heap.size w w' ∧ Post w' v' k w'' := by
  have hpp : (0 ≤ x ∧ x ≤ 7) ∧ (0 ≤ y ∧ y ≤ 199) ∧ (0 ≤ n ∧ n ≤ 19) := by
    unfold placeB at hp
    exact of_decide_eq_true hp
  have HK : Hid (Calls Tryz.prog 36 #[rp, .int .i64 n] w fun e w'' => e = .returned (.tuple #[.int .u64 K, .int .i64 0]) ∧ w'' = w) := hK
  have HT : Hid (∀ w' u, Below w.heap.size w w' → Own w.heap.size 5 w' u (boundL x y n) → Calls Tryz.prog 37 #[op, .int .u64 K, u, v] w' fun e w'' => ∃ v' k, e = .returned (.tuple #[v', .int .i64 k]) ∧ Post w' v' k w'') := hT
  have HB : Hid (Calls Tryz.prog 38 #[.int .i64 x, .int .i64 y, .int .i64 n] w fun e w'' => ∃ v, e = .returned v ∧ Own w.heap.size 5 w'' v (boundL x y n) ∧ Below w.heap.size w w'') := refbound38 w x y n (by unfold I64; omega) (by unfold I64; omega) (by unfold I64; omega)
  have h0 : ¬ x < 0 := by omega
  have h1 : ¬ 8 ≤ x := by omega
  have h2 : ¬ y < 0 := by omega
  have h3 : ¬ 200 ≤ y := by omega
  have h4 : ¬ n < 0 := by omega
  have h5 : ¬ 20 ≤ n := by omega
  clear hp hpp hK hT
  go_enter Tryz.func10, Tryz.ntmps10
  go_wp2_with (first
    | (go_at_call 36; go_must (refine HK.out.mono ?_; rintro r w2 ⟨rfl, hw2⟩; replace hw2 := hw2.symm; subst hw2))
    | (go_at_call 38; go_must (refine HB.out.mono ?_; rintro r w3 ⟨u3, rfl, ho3, hb3⟩))
    | (go_at_call 37; go_must (refine (HT.out w3 u3 hb3 ho3).mono ?_; rintro r w4 ⟨v4, k4, rfl, hp4⟩)))
  go_ret2
  exact ⟨v4, k4, w3, rfl, hb3, hp4⟩
theorem ropen13_bad {w : World} {e : Ent} {v : Value} (hv : Rd w v e.b) (hr : eRight e = false) (op rp : Value) : Calls Tryz.prog 13 #[op, rp, ev e v] w fun r w' => r = .returned (.tuple #[.slice none 0 0, .int .i64 1]) ∧ Below w.heap.size w w' := by
  have R := fun w' (h : Rd w' v e.b) => refrightE_any e v w' h
  rw [hr] at R
  obtain ⟨a, cap, rfl⟩ := hv.len
  obtain ⟨ew, ei, ep, et, eu, en, eb, eg⟩ := e
  unfold ev at *
  dsimp only at *
  have HR : Hid (∀ w', Rd w' (.slice a eb.length cap) eb → Calls Tryz.prog 41 #[.agg #[.int .i64 ew, .int .i64 ei, .int .u64 ep, .int .i64 et, .int .i64 eu, .int .i64 en, .slice a eb.length cap, .int .u64 eg]] w' fun r w'' => r = .returned (.bool false) ∧ Below w'.heap.size w' w'') := R
  obtain ⟨w1, hw1⟩ : ∃ w1, w1 = w.alloc (.cells #[.int .i64 ew, .int .i64 ei, .int .u64 ep, .int .i64 et, .int .i64 eu, .int .i64 en, .slice a eb.length cap, .int .u64 eg] 30) := ⟨_, rfl⟩
  have HX : Hid (∀ w', Below w1.heap.size w1 w' → Blk w' w.heap.size 30 [.int .i64 ew, .int .i64 ei, .int .u64 ep, .int .i64 et, .int .i64 eu, .int .i64 en, .slice a eb.length cap, .int .u64 eg]) := fun w' hb => by
    refine Blk.below ?_ hb
    rw [hw1]
    exact blk_new w _ 30
  have HB1 : Hid (Below w.heap.size w w1) := by show Below _ _ _; rw [hw1]; exact balloc (Below.refl _ _) _
  have HV : Hid (Rd w1 (.slice a eb.length cap) eb) := (show Rd _ _ _ from hv.below HB1.out)
  clear R hv hr
  go_enter Tryz.func13, Tryz.ntmps13
  go_upto_region 1 with fail
  rw [← hw1]
  have X1 := HX.out w1 (Below.refl _ _)
  have x0 := X1.cell 0 _ rfl; have x1 := X1.cell 1 _ rfl; have x2 := X1.cell 2 _ rfl; have x3 := X1.cell 3 _ rfl; have x4 := X1.cell 4 _ rfl; have x5 := X1.cell 5 _ rfl; have x6 := X1.cell 6 _ rfl; have x7 := X1.cell 7 _ rfl
  obtain ⟨B, hB⟩ : ∃ B, B = w.heap.size := ⟨_, rfl⟩
  rw [← hB] at x0 x1 x2 x3 x4 x5 x6 x7 HX ⊢
  clear hw1 X1 hB
  go_wp2_with (go_at_call 41; go_must (refine (HR.out w1 HV.out).mono ?_; rintro r w2 ⟨rfl, hb2⟩; have X2 := HX.out w2 hb2; have y0 := X2.cell 0 _ rfl; have y1 := X2.cell 1 _ rfl; have y5 := X2.cell 5 _ rfl; have y6 := X2.cell 6 _ rfl))
  go_ret2
  exact ⟨rfl, bnext HB1.out hb2⟩
theorem ropen13_plain {w : World} {e : Ent} {v : Value} (hv : Rd w v e.b) (hr : eRight e = true) (hn : e.n = -1) (op rp : Value) : Calls Tryz.prog 13 #[op, rp, ev e v] w fun r w' => r = .returned (.tuple #[.slice none 0 0, .int .i64 10]) ∧ Below w.heap.size w w' := by
  have R := fun w' (h : Rd w' v e.b) => refrightE_any e v w' h
  rw [hr] at R
  obtain ⟨a, cap, rfl⟩ := hv.len
  obtain ⟨ew, ei, ep, et, eu, en, eb, eg⟩ := e
  unfold ev at *
  dsimp only at *
  have HR : Hid (∀ w', Rd w' (.slice a eb.length cap) eb → Calls Tryz.prog 41 #[.agg #[.int .i64 ew, .int .i64 ei, .int .u64 ep, .int .i64 et, .int .i64 eu, .int .i64 en, .slice a eb.length cap, .int .u64 eg]] w' fun r w'' => r = .returned (.bool true) ∧ Below w'.heap.size w' w'') := R
  obtain ⟨w1, hw1⟩ : ∃ w1, w1 = w.alloc (.cells #[.int .i64 ew, .int .i64 ei, .int .u64 ep, .int .i64 et, .int .i64 eu, .int .i64 en, .slice a eb.length cap, .int .u64 eg] 30) := ⟨_, rfl⟩
  have HX : Hid (∀ w', Below w1.heap.size w1 w' → Blk w' w.heap.size 30 [.int .i64 ew, .int .i64 ei, .int .u64 ep, .int .i64 et, .int .i64 eu, .int .i64 en, .slice a eb.length cap, .int .u64 eg]) := fun w' hb => by
    refine Blk.below ?_ hb
    rw [hw1]
    exact blk_new w _ 30
  have HB1 : Hid (Below w.heap.size w w1) := by show Below _ _ _; rw [hw1]; exact balloc (Below.refl _ _) _
  have HV : Hid (Rd w1 (.slice a eb.length cap) eb) := (show Rd _ _ _ from hv.below HB1.out)
  subst hn
  clear R hv hr
  go_enter Tryz.func13, Tryz.ntmps13
  go_upto_region 1 with fail
  rw [← hw1]
  have X1 := HX.out w1 (Below.refl _ _)
  have x0 := X1.cell 0 _ rfl; have x1 := X1.cell 1 _ rfl; have x2 := X1.cell 2 _ rfl; have x3 := X1.cell 3 _ rfl; have x4 := X1.cell 4 _ rfl; have x5 := X1.cell 5 _ rfl; have x6 := X1.cell 6 _ rfl; have x7 := X1.cell 7 _ rfl
  obtain ⟨B, hB⟩ : ∃ B, B = w.heap.size := ⟨_, rfl⟩
  rw [← hB] at x0 x1 x2 x3 x4 x5 x6 x7 HX ⊢
  clear hw1 X1 hB
  go_wp2_with (go_at_call 41; go_must (refine (HR.out w1 HV.out).mono ?_; rintro r w2 ⟨rfl, hb2⟩; have X2 := HX.out w2 hb2; have y0 := X2.cell 0 _ rfl; have y1 := X2.cell 1 _ rfl; have y5 := X2.cell 5 _ rfl; have y6 := X2.cell 6 _ rfl))
  go_ret2
  exact ⟨rfl, bnext HB1.out hb2⟩
theorem ropen13_no {w : World} {e : Ent} {v op rp : Value} {K kk : Int} (hv : Rd w v e.b) (hr : eRight e = true) (hn : e.n ≠ -1) (hk0 : kk ≠ 0)
    (hK : ∀ w', Below w.heap.size w w' → Calls Tryz.prog 36 #[rp, .int .i64 e.n] w' fun e w'' => e = .returned (.tuple #[.int .u64 K, .int .i64 kk]) ∧ w'' = w') :
    Calls Tryz.prog 13 #[op, rp, ev e v] w fun r w' => r = .returned (.tuple #[.slice none 0 0, .int .i64 kk]) ∧ Below w.heap.size w w' := by
  have R := fun w' (h : Rd w' v e.b) => refrightE_any e v w' h
  rw [hr] at R
  have hpp := (eRight_iff e).1 hr
  unfold rightE at hpp
  obtain ⟨a, cap, rfl⟩ := hv.len
  obtain ⟨ew, ei, ep, et, eu, en, eb, eg⟩ := e
  unfold ev at *
  dsimp only at *
  have HR : Hid (∀ w', Rd w' (.slice a eb.length cap) eb → Calls Tryz.prog 41 #[.agg #[.int .i64 ew, .int .i64 ei, .int .u64 ep, .int .i64 et, .int .i64 eu, .int .i64 en, .slice a eb.length cap, .int .u64 eg]] w' fun r w'' => r = .returned (.bool true) ∧ Below w'.heap.size w' w'') := R
  obtain ⟨w1, hw1⟩ : ∃ w1, w1 = w.alloc (.cells #[.int .i64 ew, .int .i64 ei, .int .u64 ep, .int .i64 et, .int .i64 eu, .int .i64 en, .slice a eb.length cap, .int .u64 eg] 30) := ⟨_, rfl⟩
  have HX : Hid (∀ w', Below w1.heap.size w1 w' → Blk w' w.heap.size 30 [.int .i64 ew, .int .i64 ei, .int .u64 ep, .int .i64 et, .int .i64 eu, .int .i64 en, .slice a eb.length cap, .int .u64 eg]) := fun w' hb => by
    refine Blk.below ?_ hb
    rw [hw1]
    exact blk_new w _ 30
  have HB1 : Hid (Below w.heap.size w w1) := by show Below _ _ _; rw [hw1]; exact balloc (Below.refl _ _) _
  have HV : Hid (Rd w1 (.slice a eb.length cap) eb) := (show Rd _ _ _ from hv.below HB1.out)
  have HK : Hid (∀ w', Below w.heap.size w w' → Calls Tryz.prog 36 #[rp, .int .i64 en] w' fun e w'' => e = .returned (.tuple #[.int .u64 K, .int .i64 kk]) ∧ w'' = w') := hK
  have hn' : (en == -1) = false := by simp [hn]
  have hk : (kk != 0) = true := by simp [hk0]
  clear R hv hr hpp hn hK hk0
  go_enter Tryz.func13, Tryz.ntmps13
  go_upto_region 1 with fail
  rw [← hw1]
  have X1 := HX.out w1 (Below.refl _ _)
  have x0 := X1.cell 0 _ rfl; have x1 := X1.cell 1 _ rfl; have x2 := X1.cell 2 _ rfl; have x3 := X1.cell 3 _ rfl; have x4 := X1.cell 4 _ rfl; have x5 := X1.cell 5 _ rfl; have x6 := X1.cell 6 _ rfl; have x7 := X1.cell 7 _ rfl
  obtain ⟨B, hB⟩ : ∃ B, B = w.heap.size := ⟨_, rfl⟩
  rw [← hB] at x0 x1 x2 x3 x4 x5 x6 x7 HX ⊢
  clear hw1 X1 hB
  go_wp2_with (first | (go_at_call 41; go_must (refine (HR.out w1 HV.out).mono ?_; rintro r w2 ⟨rfl, hb2⟩; have X2 := HX.out w2 hb2; have y0 := X2.cell 0 _ rfl; have y1 := X2.cell 1 _ rfl; have y5 := X2.cell 5 _ rfl; have y6 := X2.cell 6 _ rfl)) | (go_at_call 36; go_must (refine (HK.out w2 (bnext HB1.out hb2)).mono ?_; rintro r w3 ⟨rfl, hw3⟩; replace hw3 := hw3.symm; subst hw3)))
  go_ret2
  exact ⟨rfl, bnext HB1.out hb2⟩
theorem ropen13_ok {Post : World → Value → Int → World → Prop} {w : World} {e : Ent} {v op rp : Value} {K : Int} (hv : Rd w v e.b) (hr : eRight e = true) (hn : e.n ≠ -1)
    (hK : ∀ w', Below w.heap.size w w' → Calls Tryz.prog 36 #[rp, .int .i64 e.n] w' fun e w'' => e = .returned (.tuple #[.int .u64 K, .int .i64 0]) ∧ w'' = w')
    (hT : ∀ w' u, Below w.heap.size w w' → Rd w' u (boundL e.w e.i e.n) → Calls Tryz.prog 42 #[op, .int .u64 K, u, v] w' fun r w'' => ∃ v' k, r = .returned (.tuple #[v', .int .i64 k]) ∧ Below w'.heap.size w' w'' ∧ Post w' v' k w'') :
    Calls Tryz.prog 13 #[op, rp, ev e v] w fun r w'' => ∃ v' k w', r = .returned (.tuple #[v', .int .i64 k]) ∧ Below w.heap.size w w' ∧ Post w' v' k w'' := by
  have R := fun w' (h : Rd w' v e.b) => refrightE_any e v w' h
  rw [hr] at R
  have hpp := (eRight_iff e).1 hr
  unfold rightE at hpp
  obtain ⟨a, cap, rfl⟩ := hv.len
  obtain ⟨ew, ei, ep, et, eu, en, eb, eg⟩ := e
  unfold ev at *
  dsimp only at *
  have HR : Hid (∀ w', Rd w' (.slice a eb.length cap) eb → Calls Tryz.prog 41 #[.agg #[.int .i64 ew, .int .i64 ei, .int .u64 ep, .int .i64 et, .int .i64 eu, .int .i64 en, .slice a eb.length cap, .int .u64 eg]] w' fun r w'' => r = .returned (.bool true) ∧ Below w'.heap.size w' w'') := R
  obtain ⟨w1, hw1⟩ : ∃ w1, w1 = w.alloc (.cells #[.int .i64 ew, .int .i64 ei, .int .u64 ep, .int .i64 et, .int .i64 eu, .int .i64 en, .slice a eb.length cap, .int .u64 eg] 30) := ⟨_, rfl⟩
  have HX : Hid (∀ w', Below w1.heap.size w1 w' → Blk w' w.heap.size 30 [.int .i64 ew, .int .i64 ei, .int .u64 ep, .int .i64 et, .int .i64 eu, .int .i64 en, .slice a eb.length cap, .int .u64 eg]) := fun w' hb => by
    refine Blk.below ?_ hb
    rw [hw1]
    exact blk_new w _ 30
  have HB1 : Hid (Below w.heap.size w w1) := by show Below _ _ _; rw [hw1]; exact balloc (Below.refl _ _) _
  have HV : Hid (Rd w1 (.slice a eb.length cap) eb) := (show Rd _ _ _ from hv.below HB1.out)
  have HK : Hid (∀ w', Below w.heap.size w w' → Calls Tryz.prog 36 #[rp, .int .i64 en] w' fun e w'' => e = .returned (.tuple #[.int .u64 K, .int .i64 0]) ∧ w'' = w') := hK
  have HT : Hid (∀ w' u, Below w.heap.size w w' → Rd w' u (boundL ew ei en) → Calls Tryz.prog 42 #[op, .int .u64 K, u, .slice a eb.length cap] w' fun r w'' => ∃ v' k, r = .returned (.tuple #[v', .int .i64 k]) ∧ Below w'.heap.size w' w'' ∧ Post w' v' k w'') := hT
  have HB : Hid (∀ w', Calls Tryz.prog 38 #[.int .i64 ew, .int .i64 ei, .int .i64 en] w' fun e w'' => ∃ v, e = .returned v ∧ Own w'.heap.size 5 w'' v (boundL ew ei en) ∧ Below w'.heap.size w' w'') := fun w' => refbound38 w' ew ei en (by unfold I64; omega) (by unfold I64; omega) (by unfold I64; omega)
  have hn' : (en == -1) = false := by simp [hn]
  clear R hv hr hpp hn hK hT
  go_enter Tryz.func13, Tryz.ntmps13
  go_upto_region 1 with fail
  rw [← hw1]
  have X1 := HX.out w1 (Below.refl _ _)
  have x0 := X1.cell 0 _ rfl; have x1 := X1.cell 1 _ rfl; have x2 := X1.cell 2 _ rfl; have x3 := X1.cell 3 _ rfl; have x4 := X1.cell 4 _ rfl; have x5 := X1.cell 5 _ rfl; have x6 := X1.cell 6 _ rfl; have x7 := X1.cell 7 _ rfl
  obtain ⟨B, hB⟩ : ∃ B, B = w.heap.size := ⟨_, rfl⟩
  rw [← hB] at x0 x1 x2 x3 x4 x5 x6 x7 HX ⊢
  clear hw1 X1 hB
  go_upto_region 8 with (first | (go_at_call 41; go_must (refine (HR.out w1 HV.out).mono ?_; rintro r w2 ⟨rfl, hb2⟩; have X2 := HX.out w2 hb2; have y0 := X2.cell 0 _ rfl; have y1 := X2.cell 1 _ rfl; have y5 := X2.cell 5 _ rfl; have y6 := X2.cell 6 _ rfl)) | (go_at_call 36; go_must (refine (HK.out w2 (bnext HB1.out hb2)).mono ?_; rintro r w3 ⟨rfl, hw3⟩; replace hw3 := hw3.symm; subst hw3)))
  have HB2 : Hid (Below w.heap.size w w2) := (show Below _ _ _ from bnext HB1.out hb2)
  have HX2 : Hid (Blk w2 B 30 [.int .i64 ew, .int .i64 ei, .int .u64 ep, .int .i64 et, .int .i64 eu, .int .i64 en, .slice a eb.length cap, .int .u64 eg]) := X2
  clear hb2 X2 y0 y1 y5 y6 x0 x1 x2 x3 x4 x5 x6 x7
  have k0 := fun z : WIn (fun w' => Below w2.heap.size w2 w') => (HX2.out.below z.ok).cell 0 _ rfl
  have k1 := fun z : WIn (fun w' => Below w2.heap.size w2 w') => (HX2.out.below z.ok).cell 1 _ rfl
  have k5 := fun z : WIn (fun w' => Below w2.heap.size w2 w') => (HX2.out.below z.ok).cell 5 _ rfl
  have k6 := fun z : WIn (fun w' => Below w2.heap.size w2 w') => (HX2.out.below z.ok).cell 6 _ rfl
  have ne : Nonempty (WIn (fun w' => Below w2.heap.size w2 w')) := ⟨⟨w2, Below.refl _ _⟩⟩
  have HD : Hid (Below w2.heap.size w2 w2.drew) := (show Below _ _ _ from (Below.refl _ _).drew)
  refine wp_region_ord (C := fun w' => ∃ z : WIn (fun w' => Below w2.heap.size w2 w'), w' = z.w) [(false, 0), (false, 1), (false, 2), (false, 3), (false, 4), (false, 5), (false, 6), (false, 7), (false, 9), (false, 10), (true, 8), (true, 11), (false, 12), (false, 13), (false, 14), (false, 15)] (by kernel_rfl) (by kernel_rfl) ⟨⟨w2.drew, HD.out⟩, rfl⟩ ?_
  generalize w2.drew = wd at *
  iterate 10 (refine ord_still rfl rfl ?_; go_big_quiet_step (exact rfl); refine wpQuiet_nil ?_)
  refine ord_mem rfl rfl ?_
  go_simp
  refine (HB.out _).mono ?_
  rintro r w3 ⟨u3, rfl, ho3, hb3⟩
  have HB3 : Hid (Below w2.heap.size w2 w3) := (show Below _ _ _ from bnext HD.out hb3)
  refine ⟨⟨⟨_, HB3.out⟩, rfl⟩, ?_⟩
  go_simp
  refine ord_mem rfl rfl ?_
  go_simp
  refine (HT.out w3 u3 (bnext HB2.out HB3.out) ho3.rd).mono ?_
  rintro r w4 ⟨v4, k4, rfl, hb4, hp4⟩
  refine ⟨⟨⟨_, (show Below _ _ _ from bnext HB3.out hb4)⟩, rfl⟩, ?_⟩
  go_simp
  iterate 4 (refine ord_still rfl rfl ?_; go_big_quiet_step (exact rfl); refine wpQuiet_nil ?_)
  refine ord_end ?_
  go_wp2
  go_ret2
  exact ⟨v4, k4, w3, rfl, bnext HB2.out HB3.out, hp4⟩
end Go.Proofs.YtjbpfhnagiacmaaGreat
