/-
  Same: whether two entries are alike in all.
-/
import Derived.Test.YtiebbglknmcnpaaReadE
import Derived.Laws.StructEq
namespace Go.Proofs.Ytiebbglknmcnpaa
set_option linter.unusedVariables false
set_option linter.unusedSimpArgs false
set_option synthInstance.maxSize 20000
set_option maxHeartbeats 2000000
set_option maxRecDepth 20000
open Go.RowKit Go.Maps

theorem sameE_any (w : World) (e f : Ent) (v x : Value) (hv : Rd w v e.b) (hx : Rd w x f.b) :
    Calls Try.prog 22 #[ev e v, ev f x] w fun r w' => r = .returned (.bool (sameB e f)) ∧ Below w.heap.size w w' := by
  have HV : Hid (Rd w v e.b) := hv
  have HX : Hid (Rd w x f.b) := hx
  have E := fun w' (h : Rd w' v e.b) (h' : Rd w' x f.b) => equal_any v x e.b f.b w' h h'
  have HS : Hid (sameB e f = (decide (e.w = f.w) && decide (e.i = f.i) && decide (e.p = f.p) && decide (e.t = f.t ∧ e.u = f.u) && decide (e.n = f.n) && decide (e.g = f.g) && decide (e.b = f.b))) := rfl
  generalize sameB e f = q at HS ⊢
  obtain ⟨a, cap, rfl⟩ := hv.len
  obtain ⟨a', cap', rfl⟩ := hx.len
  obtain ⟨ew, ei, ep, et, eu, en, eb, eg⟩ := e
  obtain ⟨fw, fi, fp, ft, fu, fn, fb, fg⟩ := f
  unfold ev at *
  dsimp only at *
  generalize decide (eb = fb) = p at E HS
  have HE : Hid (∀ w', Rd w' (.slice a eb.length cap) eb → Rd w' (.slice a' fb.length cap') fb → Calls Try.prog 46 #[.slice a eb.length cap, .slice a' fb.length cap'] w' fun r w'' => r = .returned (.bool p) ∧ w'' = w') := E
  clear E hv hx
  obtain ⟨w1, hw1⟩ : ∃ w1, w1 = (w.alloc (.cells #[.int .i64 ew, .int .i64 ei, .int .u64 ep, .int .i64 et, .int .i64 eu, .int .i64 en, .slice a eb.length cap, .int .u64 eg] 28)).alloc (.cells #[.int .i64 fw, .int .i64 fi, .int .u64 fp, .int .i64 ft, .int .i64 fu, .int .i64 fn, .slice a' fb.length cap', .int .u64 fg] 28) := ⟨_, rfl⟩
  have HB1 : Hid (Below w.heap.size w w1) := by show Below _ _ _; rw [hw1]; exact balloc (balloc (Below.refl _ _) _) _
  have X1 : Blk w1 w.heap.size 28 [.int .i64 ew, .int .i64 ei, .int .u64 ep, .int .i64 et, .int .i64 eu, .int .i64 en, .slice a eb.length cap, .int .u64 eg] := by rw [hw1]; exact (blk_new w [.int .i64 ew, .int .i64 ei, .int .u64 ep, .int .i64 et, .int .i64 eu, .int .i64 en, .slice a eb.length cap, .int .u64 eg] 28).alloc _
  have X2 : Blk w1 (w.heap.size + 1) 28 [.int .i64 fw, .int .i64 fi, .int .u64 fp, .int .i64 ft, .int .i64 fu, .int .i64 fn, .slice a' fb.length cap', .int .u64 fg] := by
    rw [hw1]
    have := blk_new (w.alloc (.cells #[.int .i64 ew, .int .i64 ei, .int .u64 ep, .int .i64 et, .int .i64 eu, .int .i64 en, .slice a eb.length cap, .int .u64 eg] 28)) [.int .i64 fw, .int .i64 fi, .int .u64 fp, .int .i64 ft, .int .i64 fu, .int .i64 fn, .slice a' fb.length cap', .int .u64 fg] 28
    simpa using this
  have x0 := X1.cell 0 _ rfl
  have x1 := X1.cell 1 _ rfl
  have x2 := X1.cell 2 _ rfl
  have x3 := X1.cell 3 _ rfl
  have x4 := X1.cell 4 _ rfl
  have x5 := X1.cell 5 _ rfl
  have x6 := X1.cell 6 _ rfl
  have x7 := X1.cell 7 _ rfl
  have y0 := X2.cell 0 _ rfl
  have y1 := X2.cell 1 _ rfl
  have y2 := X2.cell 2 _ rfl
  have y3 := X2.cell 3 _ rfl
  have y4 := X2.cell 4 _ rfl
  have y5 := X2.cell 5 _ rfl
  have y6 := X2.cell 6 _ rfl
  have y7 := X2.cell 7 _ rfl
  go_enter Try.func22, Try.ntmps22
  go_upto_region 1 with fail
  rw [← hw1]
  obtain ⟨c, hc⟩ : ∃ c, c = w.heap.size := ⟨_, rfl⟩
  rw [← hc] at x0 x1 x2 x3 x4 x5 x6 x7 y0 y1 y2 y3 y4 y5 y6 y7 ⊢
  clear hw1 hc X1 X2
  by_cases e0 : ew = fw
  · by_cases e1 : ei = fi
    · by_cases e2 : ep = fp
      · by_cases e3 : et = ft
        · by_cases e4 : eu = fu
          · by_cases e5 : en = fn
            · by_cases e6 : eg = fg
              · subst e0 e1 e2 e3 e4 e5 e6
                simp only [decide_true, Bool.true_and, true_and] at HS
                go_wp2_with (go_at_call 46; go_must (refine (HE.out w1 (HV.out.below HB1.out) (HX.out.below HB1.out)).mono ?_; rintro r w2 ⟨rfl, hw2⟩; replace hw2 := hw2.symm; subst hw2))
                go_ret
                exact ⟨by rw [HS.out]; rfl, HB1.out⟩
              · have b6 : (eg == fg) = false := by simpa using e6
                rw [decide_eq_false e6] at HS
                subst e0 e1 e2 e3 e4 e5
                clear e6
                simp only [Bool.and_false, Bool.false_and] at HS
                go_wp2_with fail
                go_ret
                exact ⟨by rw [HS.out]; rfl, HB1.out⟩
            · have b5 : (en == fn) = false := by simpa using e5
              rw [decide_eq_false e5] at HS
              subst e0 e1 e2 e3 e4
              clear e5
              simp only [Bool.and_false, Bool.false_and] at HS
              go_wp2_with fail
              go_ret
              exact ⟨by rw [HS.out]; rfl, HB1.out⟩
          · have b4 : (eu == fu) = false := by simpa using e4
            rw [decide_eq_false (fun h : et = ft ∧ eu = fu => e4 h.2)] at HS
            subst e0 e1 e2 e3
            simp only [Bool.and_false, Bool.false_and] at HS
            go_wp2_with fail
            go_ret
            exact ⟨by rw [HS.out]; rfl, HB1.out⟩
        · have b3 : (et == ft) = false := by simpa using e3
          rw [decide_eq_false (fun h : et = ft ∧ eu = fu => e3 h.1)] at HS
          subst e0 e1 e2
          simp only [Bool.and_false, Bool.false_and] at HS
          go_wp2_with fail
          go_ret
          exact ⟨by rw [HS.out]; rfl, HB1.out⟩
      · have b2 : (ep == fp) = false := by simpa using e2
        rw [decide_eq_false e2] at HS
        subst e0 e1
        clear e2
        simp only [Bool.and_false, Bool.false_and] at HS
        go_wp2_with fail
        go_ret
        exact ⟨by rw [HS.out]; rfl, HB1.out⟩
    · have b1 : (ei == fi) = false := by simpa using e1
      rw [decide_eq_false e1] at HS
      subst e0
      clear e1
      simp only [Bool.and_false, Bool.false_and] at HS
      go_wp2_with fail
      go_ret
      exact ⟨by rw [HS.out]; rfl, HB1.out⟩
  · have b0 : (ew == fw) = false := by simpa using e0
    rw [decide_eq_false e0] at HS
    clear e0
    simp only [Bool.and_false, Bool.false_and] at HS
    go_wp2_with fail
    go_ret
    exact ⟨by rw [HS.out]; rfl, HB1.out⟩
end Go.Proofs.Ytiebbglknmcnpaa
