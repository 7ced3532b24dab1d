/-
  Open of the program: what stands as the body of an entry.
-/
import Derived.Test.YtjbpfhnagiacmaaGreatSel
namespace Go.Proofs.YtjbpfhnagiacmaaGreat
set_option linter.unusedVariables false
set_option linter.unusedSimpArgs false
set_option synthInstance.maxSize 20000
set_option maxHeartbeats 2000000
set_option maxRecDepth 20000
open Go.RowKit Go.Maps
theorem open12_bad {w : World} {e : Ent} {v : Value} (hv : Rd w v e.b) (hr : eRight e = false) (op rp : Value) : Calls Tryz.prog 12 #[op, rp, ev e v] w fun r w' => r = .returned (.tuple #[.slice none 0 0, .int .i64 1]) ∧ Below w.heap.size w w' := by
  have R := fun w' (h : Rd w' v e.b) => rightE_any e v w' h
  rw [hr] at R
  obtain ⟨a, cap, rfl⟩ := hv.len
  obtain ⟨ew, ei, ep, et, eu, en, eb, eg⟩ := e
  unfold ev at *
  dsimp only at *
  have HR : Hid (∀ w', Rd w' (.slice a eb.length cap) eb → Calls Tryz.prog 39 #[.agg #[.int .i64 ew, .int .i64 ei, .int .u64 ep, .int .i64 et, .int .i64 eu, .int .i64 en, .slice a eb.length cap, .int .u64 eg]] w' fun r w'' => r = .returned (.bool false) ∧ Below w'.heap.size w' w'') := R
  obtain ⟨w1, hw1⟩ : ∃ w1, w1 = w.alloc (.cells #[.int .i64 ew, .int .i64 ei, .int .u64 ep, .int .i64 et, .int .i64 eu, .int .i64 en, .slice a eb.length cap, .int .u64 eg] 30) := ⟨_, rfl⟩
  have HX : Hid (∀ w', Below w1.heap.size w1 w' → Blk w' w.heap.size 30 [.int .i64 ew, .int .i64 ei, .int .u64 ep, .int .i64 et, .int .i64 eu, .int .i64 en, .slice a eb.length cap, .int .u64 eg]) := fun w' hb => by
    refine Blk.below ?_ hb
    rw [hw1]
    exact blk_new w _ 30
  have HB1 : Hid (Below w.heap.size w w1) := by show Below _ _ _; rw [hw1]; exact balloc (Below.refl _ _) _
  have HV : Hid (Rd w1 (.slice a eb.length cap) eb) := (show Rd _ _ _ from hv.below HB1.out)
  clear R hv hr
  go_enter Tryz.func12, Tryz.ntmps12
  go_upto_region 1 with fail
  rw [← hw1]
  have X1 := HX.out w1 (Below.refl _ _)
  have x0 := X1.cell 0 _ rfl; have x1 := X1.cell 1 _ rfl; have x2 := X1.cell 2 _ rfl; have x3 := X1.cell 3 _ rfl; have x4 := X1.cell 4 _ rfl; have x5 := X1.cell 5 _ rfl; have x6 := X1.cell 6 _ rfl; have x7 := X1.cell 7 _ rfl
  obtain ⟨B, hB⟩ : ∃ B, B = w.heap.size := ⟨_, rfl⟩
  rw [← hB] at x0 x1 x2 x3 x4 x5 x6 x7 HX ⊢
  clear hw1 X1 hB
  go_wp2_with (go_at_call 39; go_must (refine (HR.out w1 HV.out).mono ?_; rintro r w2 ⟨rfl, hb2⟩; have X2 := HX.out w2 hb2; have y0 := X2.cell 0 _ rfl; have y1 := X2.cell 1 _ rfl; have y5 := X2.cell 5 _ rfl; have y6 := X2.cell 6 _ rfl))
  go_ret2
  exact ⟨rfl, bnext HB1.out hb2⟩
theorem open12_plain {w : World} {e : Ent} {v : Value} (hv : Rd w v e.b) (hr : eRight e = true) (hn : e.n = -1) (op rp : Value) : Calls Tryz.prog 12 #[op, rp, ev e v] w fun r w' => r = .returned (.tuple #[.slice none 0 0, .int .i64 10]) ∧ Below w.heap.size w w' := by
  have R := fun w' (h : Rd w' v e.b) => rightE_any e v w' h
  rw [hr] at R
  obtain ⟨a, cap, rfl⟩ := hv.len
  obtain ⟨ew, ei, ep, et, eu, en, eb, eg⟩ := e
  unfold ev at *
  dsimp only at *
  have HR : Hid (∀ w', Rd w' (.slice a eb.length cap) eb → Calls Tryz.prog 39 #[.agg #[.int .i64 ew, .int .i64 ei, .int .u64 ep, .int .i64 et, .int .i64 eu, .int .i64 en, .slice a eb.length cap, .int .u64 eg]] w' fun r w'' => r = .returned (.bool true) ∧ Below w'.heap.size w' w'') := R
  obtain ⟨w1, hw1⟩ : ∃ w1, w1 = w.alloc (.cells #[.int .i64 ew, .int .i64 ei, .int .u64 ep, .int .i64 et, .int .i64 eu, .int .i64 en, .slice a eb.length cap, .int .u64 eg] 30) := ⟨_, rfl⟩
  have HX : Hid (∀ w', Below w1.heap.size w1 w' → Blk w' w.heap.size 30 [.int .i64 ew, .int .i64 ei, .int .u64 ep, .int .i64 et, .int .i64 eu, .int .i64 en, .slice a eb.length cap, .int .u64 eg]) := fun w' hb => by
    refine Blk.below ?_ hb
    rw [hw1]
    exact blk_new w _ 30
  have HB1 : Hid (Below w.heap.size w w1) := by show Below _ _ _; rw [hw1]; exact balloc (Below.refl _ _) _
  have HV : Hid (Rd w1 (.slice a eb.length cap) eb) := (show Rd _ _ _ from hv.below HB1.out)
  subst hn
  clear R hv hr
  go_enter Tryz.func12, Tryz.ntmps12
  go_upto_region 1 with fail
  rw [← hw1]
  have X1 := HX.out w1 (Below.refl _ _)
  have x0 := X1.cell 0 _ rfl; have x1 := X1.cell 1 _ rfl; have x2 := X1.cell 2 _ rfl; have x3 := X1.cell 3 _ rfl; have x4 := X1.cell 4 _ rfl; have x5 := X1.cell 5 _ rfl; have x6 := X1.cell 6 _ rfl; have x7 := X1.cell 7 _ rfl
  obtain ⟨B, hB⟩ : ∃ B, B = w.heap.size := ⟨_, rfl⟩
  rw [← hB] at x0 x1 x2 x3 x4 x5 x6 x7 HX ⊢
  clear hw1 X1 hB
  go_wp2_with (go_at_call 39; go_must (refine (HR.out w1 HV.out).mono ?_; rintro r w2 ⟨rfl, hb2⟩; have X2 := HX.out w2 hb2; have y0 := X2.cell 0 _ rfl; have y1 := X2.cell 1 _ rfl; have y5 := X2.cell 5 _ rfl; have y6 := X2.cell 6 _ rfl))
  go_ret2
  exact ⟨rfl, bnext HB1.out hb2⟩
theorem open12_no {w : World} {e : Ent} {v op rp : Value} {K kk : Int} (hv : Rd w v e.b) (hr : eRight e = true) (hn : e.n ≠ -1) (hk0 : kk ≠ 0)
    (hK : ∀ w', Below w.heap.size w w' → Calls Tryz.prog 34 #[rp, .int .i64 e.n] w' fun e w'' => e = .returned (.tuple #[.int .u64 K, .int .i64 kk]) ∧ w'' = w') :
    Calls Tryz.prog 12 #[op, rp, ev e v] w fun r w' => r = .returned (.tuple #[.slice none 0 0, .int .i64 kk]) ∧ Below w.heap.size w w' := by
  have R := fun w' (h : Rd w' v e.b) => rightE_any e v w' h
  rw [hr] at R
  have hpp := (eRight_iff e).1 hr
  unfold rightE at hpp
  obtain ⟨a, cap, rfl⟩ := hv.len
  obtain ⟨ew, ei, ep, et, eu, en, eb, eg⟩ := e
  unfold ev at *
  dsimp only at *
  have HR : Hid (∀ w', Rd w' (.slice a eb.length cap) eb → Calls Tryz.prog 39 #[.agg #[.int .i64 ew, .int .i64 ei, .int .u64 ep, .int .i64 et, .int .i64 eu, .int .i64 en, .slice a eb.length cap, .int .u64 eg]] w' fun r w'' => r = .returned (.bool true) ∧ Below w'.heap.size w' w'') := R
  obtain ⟨w1, hw1⟩ : ∃ w1, w1 = w.alloc (.cells #[.int .i64 ew, .int .i64 ei, .int .u64 ep, .int .i64 et, .int .i64 eu, .int .i64 en, .slice a eb.length cap, .int .u64 eg] 30) := ⟨_, rfl⟩
  have HX : Hid (∀ w', Below w1.heap.size w1 w' → Blk w' w.heap.size 30 [.int .i64 ew, .int .i64 ei, .int .u64 ep, .int .i64 et, .int .i64 eu, .int .i64 en, .slice a eb.length cap, .int .u64 eg]) := fun w' hb => by
    refine Blk.below ?_ hb
    rw [hw1]
    exact blk_new w _ 30
  have HB1 : Hid (Below w.heap.size w w1) := by show Below _ _ _; rw [hw1]; exact balloc (Below.refl _ _) _
  have HV : Hid (Rd w1 (.slice a eb.length cap) eb) := (show Rd _ _ _ from hv.below HB1.out)
  have HU : Hid (∀ w', Below w.heap.size w w' → Calls Tryz.prog 33 #[.agg #[.int .i64 ew, .int .i64 ei, .int .i64 en], .func (.func 34) #[rp] #[], .func (.func 40) #[op] #[], .slice a eb.length cap] w' fun e w'' => e = .returned (.tuple #[.slice none 0 0, .int .i64 kk]) ∧ Below w'.heap.size w' w'') := fun w' hb => under33_40no hk0 (fun w'' hb' => hK w'' (bnext hb hb'))
  have hmf : ∀ (fn : Fn) (first cap : Array Value) (w : World), (Instr.makeFunc fn first cap).run Tryz.prog w = .ok (.func fn first cap) w := fun _ _ _ _ => rfl
  have hn' : (en == -1) = false := by simp [hn]
  clear R hv hr hpp hn hK hk0
  go_enter Tryz.func12, Tryz.ntmps12
  go_upto_region 1 with fail
  rw [← hw1]
  have X1 := HX.out w1 (Below.refl _ _)
  have x0 := X1.cell 0 _ rfl; have x1 := X1.cell 1 _ rfl; have x2 := X1.cell 2 _ rfl; have x3 := X1.cell 3 _ rfl; have x4 := X1.cell 4 _ rfl; have x5 := X1.cell 5 _ rfl; have x6 := X1.cell 6 _ rfl; have x7 := X1.cell 7 _ rfl
  obtain ⟨B, hB⟩ : ∃ B, B = w.heap.size := ⟨_, rfl⟩
  rw [← hB] at x0 x1 x2 x3 x4 x5 x6 x7 HX ⊢
  clear hw1 X1 hB
  go_upto_region 5 with (go_at_call 39; go_must (refine (HR.out w1 HV.out).mono ?_; rintro r w2 ⟨rfl, hb2⟩; have X2 := HX.out w2 hb2; have y0 := X2.cell 0 _ rfl; have y1 := X2.cell 1 _ rfl; have y5 := X2.cell 5 _ rfl; have y6 := X2.cell 6 _ rfl))
  go_upto_region 6 with fail
  obtain ⟨w3, hw3⟩ : ∃ w3, w3 = w2.alloc (.cells #[.int .i64 ew, .int .i64 ei, .int .i64 en] 90) := ⟨_, rfl⟩
  have HB3 : Hid (Below w.heap.size w w3) := by show Below _ _ _; rw [hw3]; exact balloc (bnext HB1.out hb2) _
  have X3 : Blk w3 w2.heap.size 90 [.int .i64 ew, .int .i64 ei, .int .i64 en] := by rw [hw3]; exact blk_new w2 _ 90
  have z6 := (HX.out w3 (by rw [hw3]; exact balloc hb2 _)).cell 6 _ rfl
  have z0 := X3.cell 0 _ rfl; have z1 := X3.cell 1 _ rfl; have z2 := X3.cell 2 _ rfl
  rw [← hw3]
  obtain ⟨B2, hB2⟩ : ∃ B2, B2 = w2.heap.size := ⟨_, rfl⟩
  rw [← hB2] at z0 z1 z2 ⊢
  clear hw3 X3 hB2 X2 y0 y1 y5 y6
  go_wp2_with (go_at_call 33; go_must (refine (HU.out w3 HB3.out).mono ?_; rintro r w4 ⟨rfl, hb4⟩))
  go_ret2
  exact ⟨rfl, bnext HB3.out hb4⟩
theorem open12_ok {Post : World → Value → Int → World → Prop} {w : World} {e : Ent} {v op rp : Value} {K : Int} (hv : Rd w v e.b) (hr : eRight e = true) (hn : e.n ≠ -1)
    (hK : ∀ w', Below w.heap.size w w' → Calls Tryz.prog 34 #[rp, .int .i64 e.n] w' fun e w'' => e = .returned (.tuple #[.int .u64 K, .int .i64 0]) ∧ w'' = w')
    (hT : ∀ w' u, Below w.heap.size w w' → Rd w' u (boundL e.w e.i e.n) → Calls Tryz.prog 40 #[op, .int .u64 K, u, v] w' fun r w'' => ∃ v' k, r = .returned (.tuple #[v', .int .i64 k]) ∧ Post w' v' k w'') :
    Calls Tryz.prog 12 #[op, rp, ev e v] w fun r w'' => ∃ v' k w', r = .returned (.tuple #[v', .int .i64 k]) ∧ Below w.heap.size w w' ∧ Post w' v' k w'' := by
  have R := fun w' (h : Rd w' v e.b) => rightE_any e v w' h
  rw [hr] at R
  have hpp := (eRight_iff e).1 hr
  unfold rightE at hpp
  obtain ⟨a, cap, rfl⟩ := hv.len
  obtain ⟨ew, ei, ep, et, eu, en, eb, eg⟩ := e
  unfold ev at *
  dsimp only at *
  have HR : Hid (∀ w', Rd w' (.slice a eb.length cap) eb → Calls Tryz.prog 39 #[.agg #[.int .i64 ew, .int .i64 ei, .int .u64 ep, .int .i64 et, .int .i64 eu, .int .i64 en, .slice a eb.length cap, .int .u64 eg]] w' fun r w'' => r = .returned (.bool true) ∧ Below w'.heap.size w' w'') := R
  obtain ⟨w1, hw1⟩ : ∃ w1, w1 = w.alloc (.cells #[.int .i64 ew, .int .i64 ei, .int .u64 ep, .int .i64 et, .int .i64 eu, .int .i64 en, .slice a eb.length cap, .int .u64 eg] 30) := ⟨_, rfl⟩
  have HX : Hid (∀ w', Below w1.heap.size w1 w' → Blk w' w.heap.size 30 [.int .i64 ew, .int .i64 ei, .int .u64 ep, .int .i64 et, .int .i64 eu, .int .i64 en, .slice a eb.length cap, .int .u64 eg]) := fun w' hb => by
    refine Blk.below ?_ hb
    rw [hw1]
    exact blk_new w _ 30
  have HB1 : Hid (Below w.heap.size w w1) := by show Below _ _ _; rw [hw1]; exact balloc (Below.refl _ _) _
  have HV : Hid (Rd w1 (.slice a eb.length cap) eb) := (show Rd _ _ _ from hv.below HB1.out)
  have HU : Hid (∀ w', Below w.heap.size w w' → Calls Tryz.prog 33 #[.agg #[.int .i64 ew, .int .i64 ei, .int .i64 en], .func (.func 34) #[rp] #[], .func (.func 40) #[op] #[], .slice a eb.length cap] w' fun e w'' => ∃ v' k w3, e = .returned (.tuple #[v', .int .i64 k]) ∧ Below w'.heap.size w' w3 ∧ Post w3 v' k w'') := fun w' hb => under33_40 (Post := Post) (by unfold I64; omega) (by unfold I64; omega) (by unfold I64; omega) (fun w'' hb' => hK w'' (bnext hb hb')) (fun w'' u hb' hu => hT w'' u (bnext hb hb') hu)
  have hmf : ∀ (fn : Fn) (first cap : Array Value) (w : World), (Instr.makeFunc fn first cap).run Tryz.prog w = .ok (.func fn first cap) w := fun _ _ _ _ => rfl
  have hn' : (en == -1) = false := by simp [hn]
  clear R hv hr hpp hn hK hT
  go_enter Tryz.func12, Tryz.ntmps12
  go_upto_region 1 with fail
  rw [← hw1]
  have X1 := HX.out w1 (Below.refl _ _)
  have x0 := X1.cell 0 _ rfl; have x1 := X1.cell 1 _ rfl; have x2 := X1.cell 2 _ rfl; have x3 := X1.cell 3 _ rfl; have x4 := X1.cell 4 _ rfl; have x5 := X1.cell 5 _ rfl; have x6 := X1.cell 6 _ rfl; have x7 := X1.cell 7 _ rfl
  obtain ⟨B, hB⟩ : ∃ B, B = w.heap.size := ⟨_, rfl⟩
  rw [← hB] at x0 x1 x2 x3 x4 x5 x6 x7 HX ⊢
  clear hw1 X1 hB
  go_upto_region 5 with (go_at_call 39; go_must (refine (HR.out w1 HV.out).mono ?_; rintro r w2 ⟨rfl, hb2⟩; have X2 := HX.out w2 hb2; have y0 := X2.cell 0 _ rfl; have y1 := X2.cell 1 _ rfl; have y5 := X2.cell 5 _ rfl; have y6 := X2.cell 6 _ rfl))
  go_upto_region 6 with fail
  obtain ⟨w3, hw3⟩ : ∃ w3, w3 = w2.alloc (.cells #[.int .i64 ew, .int .i64 ei, .int .i64 en] 90) := ⟨_, rfl⟩
  have HB3 : Hid (Below w.heap.size w w3) := by show Below _ _ _; rw [hw3]; exact balloc (bnext HB1.out hb2) _
  have X3 : Blk w3 w2.heap.size 90 [.int .i64 ew, .int .i64 ei, .int .i64 en] := by rw [hw3]; exact blk_new w2 _ 90
  have z6 := (HX.out w3 (by rw [hw3]; exact balloc hb2 _)).cell 6 _ rfl
  have z0 := X3.cell 0 _ rfl; have z1 := X3.cell 1 _ rfl; have z2 := X3.cell 2 _ rfl
  rw [← hw3]
  obtain ⟨B2, hB2⟩ : ∃ B2, B2 = w2.heap.size := ⟨_, rfl⟩
  rw [← hB2] at z0 z1 z2 ⊢
  clear hw3 X3 hB2 X2 y0 y1 y5 y6
  go_wp2_with (go_at_call 33; go_must (refine (HU.out w3 HB3.out).mono ?_; rintro r w5 ⟨v5, k5, w4, rfl, hb4, hp5⟩))
  go_ret2
  exact ⟨v5, k5, w4, rfl, bnext HB3.out hb4, hp5⟩
end Go.Proofs.YtjbpfhnagiacmaaGreat
