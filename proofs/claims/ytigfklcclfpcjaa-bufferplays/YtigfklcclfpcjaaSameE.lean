/-
  Same of entries, by the program and by the reference; the reference's Right; bytes.Clone.
-/
import Derived.Test.YtigfklcclfpcjaaRightE
import Derived.Test.YtigfklcclfpcjaaChain
import Derived.Test.YtigfklcclfpcjaaTurn
import Derived.Laws.StructEq
import Derived.Deep.RegionWith
import Derived.Deep.DeepCutAuto
namespace Go.Proofs.Ytigfklcclfpcjaa
section
set_option linter.unusedVariables false
set_option linter.unusedSimpArgs false
set_option synthInstance.maxSize 20000
set_option maxHeartbeats 2000000
set_option maxRecDepth 20000
open Go.RowKit Go.Maps

/-- A block that holds an entry. -/
def BlkE (w : World) (b : Nat) (e : Ent) (v : Value) : Prop := Blk w b 38 (ec e v)
theorem ev_slice (e : Ent) {v : Value} {w : World} (hv : Rd w v e.b) : ∃ a cap, v = .slice a e.b.length cap := hv.len

end

section
set_option linter.unusedVariables false
set_option linter.unusedSimpArgs false
set_option synthInstance.maxSize 20000
set_option maxHeartbeats 2000000
set_option maxRecDepth 20000
open Go.RowKit Go.Maps

/-- Cells of which none is a byte. -/
def NoByte (vs : List Value) : Prop := ∀ u ∈ vs, ∀ x, u ≠ .int .u8 x
theorem Rd.pastB {w w' : World} {v : Value} {l : List Int} {c : Nat} {e : TypeId} {vs : List Value} (h : Rd w v l) (hX : Blk w c e vs) (hn : NoByte vs) (hg : w.grownBy w' (some c)) : Rd w' v l := by
  obtain ⟨ho, a, cap, rfl, h1, h2, h3, h4⟩ := h
  refine ⟨ho, a, cap, rfl, h1, h2, h3, fun hp => ?_⟩
  obtain ⟨d, off, rfl, hc⟩ := h4 hp
  refine ⟨d, off, rfl, fun j hj => hg.cell (hc j hj) fun e => ?_⟩
  obtain rfl : d = c := by simpa using e
  have hcj := hc j hj
  unfold Blk at hX
  simp only [World.cell?, hX] at hcj
  have : (vs.toArray)[off + j]? = some (.int .u8 (l.getD j 0)) := by simpa using hcj
  rw [List.getElem?_toArray] at this
  exact hn _ (List.mem_of_getElem? this) _ rfl
theorem Rdr.pastB {w w' : World} {b c : Nat} {l : List Int} {k : Int} {e : TypeId} {vs : List Value} (h : Rdr w b l k) (hX : Blk w c e vs) (hn : NoByte vs) (hg : w.grownBy w' (some c)) (hb : b ≠ c) : Rdr w' b l k := by
  obtain ⟨v, hv, hrd⟩ := h.left
  have hbl : w'.heap[b]? = w.heap[b]? := hg.block b (World.block_lt_of_cell? w _ hv) (fun e => hb (Option.some.inj e))
  exact ⟨⟨v, (World.cell?_of_block hbl).trans hv, hrd.pastB hX hn hg⟩, (World.cell?_of_block hbl).trans h.wrong, (World.frozen?_of_block hbl).trans h.f0, (World.frozen?_of_block hbl).trans h.f1, fun o ho => (World.cell?_of_block hbl).trans (h.two o ho), h.gone⟩
theorem grown_set8 (w : World) (c : Nat) (u0 u1 u2 u3 u4 u5 u6 u7 : Value) : w.grownBy ((((((((w.setCell ⟨c, 0, none⟩ u0).setCell ⟨c, 1, none⟩ u1).setCell ⟨c, 2, none⟩ u2).setCell ⟨c, 3, none⟩ u3).setCell ⟨c, 4, none⟩ u4).setCell ⟨c, 5, none⟩ u5).setCell ⟨c, 6, none⟩ u6).setCell ⟨c, 7, none⟩ u7) (some c) := by
  iterate 7 refine grown_trans ?_ (grown_setCell _ _ _ _) (fun k hk => .inl hk)
  exact grown_setCell _ _ _ _
theorem Blk.set8 {w : World} {c : Nat} {e : TypeId} {x0 x1 x2 x3 x4 x5 x6 x7 : Value} (h : Blk w c e [x0, x1, x2, x3, x4, x5, x6, x7]) (u0 u1 u2 u3 u4 u5 u6 u7 : Value) : Blk ((((((((w.setCell ⟨c, 0, none⟩ u0).setCell ⟨c, 1, none⟩ u1).setCell ⟨c, 2, none⟩ u2).setCell ⟨c, 3, none⟩ u3).setCell ⟨c, 4, none⟩ u4).setCell ⟨c, 5, none⟩ u5).setCell ⟨c, 6, none⟩ u6).setCell ⟨c, 7, none⟩ u7) c e [u0, u1, u2, u3, u4, u5, u6, u7] :=
  ((((((((h.set 0 u0).set 1 u1).set 2 u2).set 3 u3).set 4 u4).set 5 u5).set 6 u6).set 7 u7)
end


section
set_option linter.unusedVariables false
set_option linter.unusedSimpArgs false
set_option synthInstance.maxSize 20000
set_option maxHeartbeats 2000000
set_option maxRecDepth 20000
open Go.RowKit Go.Maps

theorem sameE_any (w : World) (e f : Ent) (v x : Value) (hv : Rd w v e.b) (hx : Rd w x f.b) :
    Calls Try.prog 44 #[ev e v, ev f x] w fun r w' => r = .returned (.bool (sameB e f)) ∧ Below w.heap.size w w' := by
  have HV : Hid (Rd w v e.b) := hv
  have HX : Hid (Rd w x f.b) := hx
  have E := fun w' (h : Rd w' v e.b) (h' : Rd w' x f.b) => equal_any v x e.b f.b w' h h'
  have HS : Hid (sameB e f = (decide (e.w = f.w) && decide (e.i = f.i) && decide (e.p = f.p) && decide (e.t = f.t ∧ e.u = f.u) && decide (e.n = f.n) && decide (e.g = f.g) && decide (e.b = f.b))) := rfl
  generalize sameB e f = q at HS ⊢
  obtain ⟨a, cap, rfl⟩ := hv.len
  obtain ⟨a', cap', rfl⟩ := hx.len
  obtain ⟨ew, ei, ep, et, eu, en, eb, eg⟩ := e
  obtain ⟨fw, fi, fp, ft, fu, fn, fb, fg⟩ := f
  unfold ev at *
  dsimp only at *
  generalize decide (eb = fb) = p at E HS
  have HE : Hid (∀ w', Rd w' (.slice a eb.length cap) eb → Rd w' (.slice a' fb.length cap') fb → Calls Try.prog 53 #[.slice a eb.length cap, .slice a' fb.length cap'] w' fun r w'' => r = .returned (.bool p) ∧ w'' = w') := E
  clear E hv hx
  obtain ⟨w1, hw1⟩ : ∃ w1, w1 = (w.alloc (.cells #[.int .i64 ew, .int .i64 ei, .int .u64 ep, .int .i64 et, .int .i64 eu, .int .i64 en, .slice a eb.length cap, .int .u64 eg] 38)).alloc (.cells #[.int .i64 fw, .int .i64 fi, .int .u64 fp, .int .i64 ft, .int .i64 fu, .int .i64 fn, .slice a' fb.length cap', .int .u64 fg] 38) := ⟨_, rfl⟩
  have HB1 : Hid (Below w.heap.size w w1) := by show Below _ _ _; rw [hw1]; exact balloc (balloc (Below.refl _ _) _) _
  have X1 : Blk w1 w.heap.size 38 [.int .i64 ew, .int .i64 ei, .int .u64 ep, .int .i64 et, .int .i64 eu, .int .i64 en, .slice a eb.length cap, .int .u64 eg] := by rw [hw1]; exact (blk_new w [.int .i64 ew, .int .i64 ei, .int .u64 ep, .int .i64 et, .int .i64 eu, .int .i64 en, .slice a eb.length cap, .int .u64 eg] 38).alloc _
  have X2 : Blk w1 (w.heap.size + 1) 38 [.int .i64 fw, .int .i64 fi, .int .u64 fp, .int .i64 ft, .int .i64 fu, .int .i64 fn, .slice a' fb.length cap', .int .u64 fg] := by
    rw [hw1]
    have := blk_new (w.alloc (.cells #[.int .i64 ew, .int .i64 ei, .int .u64 ep, .int .i64 et, .int .i64 eu, .int .i64 en, .slice a eb.length cap, .int .u64 eg] 38)) [.int .i64 fw, .int .i64 fi, .int .u64 fp, .int .i64 ft, .int .i64 fu, .int .i64 fn, .slice a' fb.length cap', .int .u64 fg] 38
    simpa using this
  have x0 := X1.cell 0 _ rfl
  have x1 := X1.cell 1 _ rfl
  have x2 := X1.cell 2 _ rfl
  have x3 := X1.cell 3 _ rfl
  have x4 := X1.cell 4 _ rfl
  have x5 := X1.cell 5 _ rfl
  have x6 := X1.cell 6 _ rfl
  have x7 := X1.cell 7 _ rfl
  have y0 := X2.cell 0 _ rfl
  have y1 := X2.cell 1 _ rfl
  have y2 := X2.cell 2 _ rfl
  have y3 := X2.cell 3 _ rfl
  have y4 := X2.cell 4 _ rfl
  have y5 := X2.cell 5 _ rfl
  have y6 := X2.cell 6 _ rfl
  have y7 := X2.cell 7 _ rfl
  go_enter Try.func44, Try.ntmps44
  go_upto_region 1 with fail
  rw [← hw1]
  obtain ⟨c, hc⟩ : ∃ c, c = w.heap.size := ⟨_, rfl⟩
  rw [← hc] at x0 x1 x2 x3 x4 x5 x6 x7 y0 y1 y2 y3 y4 y5 y6 y7 ⊢
  clear hw1 hc X1 X2
  by_cases e0 : ew = fw
  · by_cases e1 : ei = fi
    · by_cases e2 : ep = fp
      · by_cases e3 : et = ft
        · by_cases e4 : eu = fu
          · by_cases e5 : en = fn
            · by_cases e6 : eg = fg
              · subst e0 e1 e2 e3 e4 e5 e6
                simp only [decide_true, Bool.true_and, true_and] at HS
                go_wp2_with (go_at_call 53; go_must (refine (HE.out w1 (HV.out.below HB1.out) (HX.out.below HB1.out)).mono ?_; rintro r w2 ⟨rfl, hw2⟩; replace hw2 := hw2.symm; subst hw2))
                go_ret
                exact ⟨by rw [HS.out]; rfl, HB1.out⟩
              · have b6 : (eg == fg) = false := by simpa using e6
                rw [decide_eq_false e6] at HS
                subst e0 e1 e2 e3 e4 e5
                clear e6
                simp only [Bool.and_false, Bool.false_and] at HS
                go_wp2_with fail
                go_ret
                exact ⟨by rw [HS.out]; rfl, HB1.out⟩
            · have b5 : (en == fn) = false := by simpa using e5
              rw [decide_eq_false e5] at HS
              subst e0 e1 e2 e3 e4
              clear e5
              simp only [Bool.and_false, Bool.false_and] at HS
              go_wp2_with fail
              go_ret
              exact ⟨by rw [HS.out]; rfl, HB1.out⟩
          · have b4 : (eu == fu) = false := by simpa using e4
            rw [decide_eq_false (fun h : et = ft ∧ eu = fu => e4 h.2)] at HS
            subst e0 e1 e2 e3
            simp only [Bool.and_false, Bool.false_and] at HS
            go_wp2_with fail
            go_ret
            exact ⟨by rw [HS.out]; rfl, HB1.out⟩
        · have b3 : (et == ft) = false := by simpa using e3
          rw [decide_eq_false (fun h : et = ft ∧ eu = fu => e3 h.1)] at HS
          subst e0 e1 e2
          simp only [Bool.and_false, Bool.false_and] at HS
          go_wp2_with fail
          go_ret
          exact ⟨by rw [HS.out]; rfl, HB1.out⟩
      · have b2 : (ep == fp) = false := by simpa using e2
        rw [decide_eq_false e2] at HS
        subst e0 e1
        clear e2
        simp only [Bool.and_false, Bool.false_and] at HS
        go_wp2_with fail
        go_ret
        exact ⟨by rw [HS.out]; rfl, HB1.out⟩
    · have b1 : (ei == fi) = false := by simpa using e1
      rw [decide_eq_false e1] at HS
      subst e0
      clear e1
      simp only [Bool.and_false, Bool.false_and] at HS
      go_wp2_with fail
      go_ret
      exact ⟨by rw [HS.out]; rfl, HB1.out⟩
  · have b0 : (ew == fw) = false := by simpa using e0
    rw [decide_eq_false e0] at HS
    clear e0
    simp only [Bool.and_false, Bool.false_and] at HS
    go_wp2_with fail
    go_ret
    exact ⟨by rw [HS.out]; rfl, HB1.out⟩
end

section
set_option linter.unusedVariables false
set_option linter.unusedSimpArgs false
set_option synthInstance.maxSize 20000
set_option maxHeartbeats 2000000
set_option maxRecDepth 20000
open Go.RowKit Go.Maps

theorem refsameE_any (w : World) (e f : Ent) (v x : Value) (hv : Rd w v e.b) (hx : Rd w x f.b) :
    Calls Try.prog 14 #[ev e v, ev f x] w fun r w' => r = .returned (.bool (sameB e f)) ∧ Below w.heap.size w w' := by
  have HV : Hid (Rd w v e.b) := hv
  have HX : Hid (Rd w x f.b) := hx
  have E := fun w' (h : Rd w' v e.b) (h' : Rd w' x f.b) => same_any v x e.b f.b w' h h'
  have HS : Hid (sameB e f = (decide (e.w = f.w) && decide (e.i = f.i) && decide (e.p = f.p) && decide (e.t = f.t ∧ e.u = f.u) && decide (e.n = f.n) && decide (e.g = f.g) && decide (e.b = f.b))) := rfl
  generalize sameB e f = q at HS ⊢
  obtain ⟨a, cap, rfl⟩ := hv.len
  obtain ⟨a', cap', rfl⟩ := hx.len
  obtain ⟨ew, ei, ep, et, eu, en, eb, eg⟩ := e
  obtain ⟨fw, fi, fp, ft, fu, fn, fb, fg⟩ := f
  unfold ev at *
  dsimp only at *
  generalize decide (eb = fb) = p at E HS
  have HE : Hid (∀ w', Rd w' (.slice a eb.length cap) eb → Rd w' (.slice a' fb.length cap') fb → Calls Try.prog 35 #[.slice a eb.length cap, .slice a' fb.length cap'] w' fun r w'' => r = .returned (.bool p) ∧ Below w'.heap.size w' w'') := E
  clear E hv hx
  obtain ⟨w1, hw1⟩ : ∃ w1, w1 = (w.alloc (.cells #[.int .i64 ew, .int .i64 ei, .int .u64 ep, .int .i64 et, .int .i64 eu, .int .i64 en, .slice a eb.length cap, .int .u64 eg] 38)).alloc (.cells #[.int .i64 fw, .int .i64 fi, .int .u64 fp, .int .i64 ft, .int .i64 fu, .int .i64 fn, .slice a' fb.length cap', .int .u64 fg] 38) := ⟨_, rfl⟩
  have HB1 : Hid (Below w.heap.size w w1) := by show Below _ _ _; rw [hw1]; exact balloc (balloc (Below.refl _ _) _) _
  have X1 : Blk w1 w.heap.size 38 [.int .i64 ew, .int .i64 ei, .int .u64 ep, .int .i64 et, .int .i64 eu, .int .i64 en, .slice a eb.length cap, .int .u64 eg] := by rw [hw1]; exact (blk_new w [.int .i64 ew, .int .i64 ei, .int .u64 ep, .int .i64 et, .int .i64 eu, .int .i64 en, .slice a eb.length cap, .int .u64 eg] 38).alloc _
  have X2 : Blk w1 (w.heap.size + 1) 38 [.int .i64 fw, .int .i64 fi, .int .u64 fp, .int .i64 ft, .int .i64 fu, .int .i64 fn, .slice a' fb.length cap', .int .u64 fg] := by
    rw [hw1]
    have := blk_new (w.alloc (.cells #[.int .i64 ew, .int .i64 ei, .int .u64 ep, .int .i64 et, .int .i64 eu, .int .i64 en, .slice a eb.length cap, .int .u64 eg] 38)) [.int .i64 fw, .int .i64 fi, .int .u64 fp, .int .i64 ft, .int .i64 fu, .int .i64 fn, .slice a' fb.length cap', .int .u64 fg] 38
    simpa using this
  have x0 := X1.cell 0 _ rfl
  have x1 := X1.cell 1 _ rfl
  have x2 := X1.cell 2 _ rfl
  have x3 := X1.cell 3 _ rfl
  have x4 := X1.cell 4 _ rfl
  have x5 := X1.cell 5 _ rfl
  have x6 := X1.cell 6 _ rfl
  have x7 := X1.cell 7 _ rfl
  have y0 := X2.cell 0 _ rfl
  have y1 := X2.cell 1 _ rfl
  have y2 := X2.cell 2 _ rfl
  have y3 := X2.cell 3 _ rfl
  have y4 := X2.cell 4 _ rfl
  have y5 := X2.cell 5 _ rfl
  have y6 := X2.cell 6 _ rfl
  have y7 := X2.cell 7 _ rfl
  go_enter Try.func14, Try.ntmps14
  go_upto_region 1 with fail
  rw [← hw1]
  obtain ⟨c, hc⟩ : ∃ c, c = w.heap.size := ⟨_, rfl⟩
  rw [← hc] at x0 x1 x2 x3 x4 x5 x6 x7 y0 y1 y2 y3 y4 y5 y6 y7 ⊢
  clear hw1 hc X1 X2
  by_cases e0 : ew = fw
  · by_cases e1 : ei = fi
    · by_cases e2 : ep = fp
      · by_cases e3 : et = ft
        · by_cases e4 : eu = fu
          · by_cases e5 : en = fn
            · by_cases e6 : eg = fg
              · subst e0 e1 e2 e3 e4 e5 e6
                simp only [decide_true, Bool.true_and, true_and] at HS
                go_wp2_with (go_at_call 35; go_must (refine (HE.out w1 (HV.out.below HB1.out) (HX.out.below HB1.out)).mono ?_; rintro r w2 ⟨rfl, hb2⟩))
                go_ret
                exact ⟨by rw [HS.out]; rfl, bnext HB1.out hb2⟩
              · have b6 : (eg == fg) = false := by simpa using e6
                rw [decide_eq_false e6] at HS
                subst e0 e1 e2 e3 e4 e5
                clear e6
                simp only [Bool.and_false, Bool.false_and] at HS
                go_wp2_with fail
                go_ret
                exact ⟨by rw [HS.out]; rfl, HB1.out⟩
            · have b5 : (en == fn) = false := by simpa using e5
              rw [decide_eq_false e5] at HS
              subst e0 e1 e2 e3 e4
              clear e5
              simp only [Bool.and_false, Bool.false_and] at HS
              go_wp2_with fail
              go_ret
              exact ⟨by rw [HS.out]; rfl, HB1.out⟩
          · have b4 : (eu == fu) = false := by simpa using e4
            rw [decide_eq_false (fun h : et = ft ∧ eu = fu => e4 h.2)] at HS
            subst e0 e1 e2 e3
            simp only [Bool.and_false, Bool.false_and] at HS
            go_wp2_with fail
            go_ret
            exact ⟨by rw [HS.out]; rfl, HB1.out⟩
        · have b3 : (et == ft) = false := by simpa using e3
          rw [decide_eq_false (fun h : et = ft ∧ eu = fu => e3 h.1)] at HS
          subst e0 e1 e2
          simp only [Bool.and_false, Bool.false_and] at HS
          go_wp2_with fail
          go_ret
          exact ⟨by rw [HS.out]; rfl, HB1.out⟩
      · have b2 : (ep == fp) = false := by simpa using e2
        rw [decide_eq_false e2] at HS
        subst e0 e1
        clear e2
        simp only [Bool.and_false, Bool.false_and] at HS
        go_wp2_with fail
        go_ret
        exact ⟨by rw [HS.out]; rfl, HB1.out⟩
    · have b1 : (ei == fi) = false := by simpa using e1
      rw [decide_eq_false e1] at HS
      subst e0
      clear e1
      simp only [Bool.and_false, Bool.false_and] at HS
      go_wp2_with fail
      go_ret
      exact ⟨by rw [HS.out]; rfl, HB1.out⟩
  · have b0 : (ew == fw) = false := by simpa using e0
    rw [decide_eq_false e0] at HS
    clear e0
    simp only [Bool.and_false, Bool.false_and] at HS
    go_wp2_with fail
    go_ret
    exact ⟨by rw [HS.out]; rfl, HB1.out⟩
end

section
set_option linter.unusedVariables false
set_option linter.unusedSimpArgs false
set_option synthInstance.maxSize 20000
set_option maxHeartbeats 2000000
set_option maxRecDepth 20000
open Go.RowKit Go.Maps

theorem refrightE_any (e : Ent) (v : Value) (w : World) (hv : Rd w v e.b) : Calls Try.prog 30 #[ev e v] w fun r w' => r = .returned (.bool (rightB e)) ∧ Below w.heap.size w w' := by
  have HR : Hid (rightB e = true ↔ rightE e) := rightB_iff e
  generalize rightB e = p at HR ⊢
  have hcap : e.b.length ≤ 9223372036854775807 := by obtain ⟨a, cap, rfl⟩ := hv.len; have := hv.cap; omega
  obtain ⟨a, cap, rfl⟩ := hv.len
  obtain ⟨ew, ei, ep, et, eu, en, eb, eg⟩ := e
  unfold ev rightE at *
  dsimp only at *
  clear hv
  generalize eb.length = nl at *
  have HQ : Hid (decide (rightP (et, eu)) = true ↔ (1 ≤ et ∧ et ≤ 1099511627776 ∧ 0 ≤ eu ∧ eu ≤ 7)) := (decide_eq_true_iff : _ ↔ rightP (et, eu))
  have HR2 : Hid (p = true ↔ ((0 ≤ ew ∧ ew ≤ 7) ∧ (0 ≤ ei ∧ ei ≤ 199) ∧ (ep = 0 ↔ ei = 0) ∧ (1 ≤ et ∧ et ≤ 1099511627776 ∧ 0 ≤ eu ∧ eu ≤ 7) ∧ eu = ew ∧ (-1 ≤ en ∧ en ≤ 19) ∧ nl ≤ 1100)) := HR.out
  have C := fun w' => refright_any (et, eu) w'
  generalize decide (rightP (et, eu)) = q at HQ C
  unfold sv at C
  have HC : Hid (∀ w', Calls Try.prog 47 #[.agg #[.int .i64 et, .int .i64 eu]] w' fun r w'' => r = .returned (.bool q) ∧ Below w'.heap.size w' w'') := C
  clear C HR
  obtain ⟨w1, hw1⟩ : ∃ w1, w1 = w.alloc (.cells #[.int .i64 ew, .int .i64 ei, .int .u64 ep, .int .i64 et, .int .i64 eu, .int .i64 en, .slice a nl cap, .int .u64 eg] 38) := ⟨_, rfl⟩
  have HB1 : Hid (Below w.heap.size w w1) := by show Below _ _ _; rw [hw1]; exact balloc (Below.refl _ _) _
  have HX1 : Hid (Blk w1 w.heap.size 38 [.int .i64 ew, .int .i64 ei, .int .u64 ep, .int .i64 et, .int .i64 eu, .int .i64 en, .slice a nl cap, .int .u64 eg]) := by show Blk _ _ _ _; rw [hw1]; exact blk_new w [.int .i64 ew, .int .i64 ei, .int .u64 ep, .int .i64 et, .int .i64 eu, .int .i64 en, .slice a nl cap, .int .u64 eg] 38
  by_cases hP : (0 ≤ ew ∧ ew ≤ 7) ∧ (0 ≤ ei ∧ ei ≤ 199) ∧ (ep = 0 ↔ ei = 0)
  · have hPP := hP
    obtain ⟨⟨a1, a2⟩, ⟨a3, a4⟩, a5⟩ := hP
    have a5' : ((ep == 0) == (ei == 0)) = true := (beqq ep ei).2 a5
    cases q
    · have HN : Hid (p = false) := by
        show _ = _
        rw [Bool.eq_false_iff]
        intro h
        have := HQ.out.2 (HR2.out.1 h).2.2.2.1
        cases this
      clear HQ HR2 hPP a5
      go_enter Try.func30, Try.ntmps30
      go_upto_region 1 with fail
      rw [← hw1]
      obtain ⟨n, hn⟩ : ∃ n, n = w.heap.size := ⟨_, rfl⟩
      rw [← hn] at HX1 ⊢
      clear hw1 hn
      have x0 := HX1.out.cell 0 _ rfl
      have x1 := HX1.out.cell 1 _ rfl
      have x2 := HX1.out.cell 2 _ rfl
      have x3 := HX1.out.cell 3 _ rfl
      have x4 := HX1.out.cell 4 _ rfl
      go_wp2_with (go_at_call 47; go_must (refine (HC.out w1).mono ?_; rintro r w2 ⟨rfl, hb2⟩))
      all_goals
        go_ret
        exact ⟨by rw [HN.out]; rfl, bnext HB1.out hb2⟩
    · have hQ := HQ.out.1 rfl
      clear HQ
      have HR3 : Hid (p = true ↔ (eu = ew ∧ (-1 ≤ en ∧ en ≤ 19) ∧ nl ≤ 1100)) := by
        show _ ↔ _
        rw [HR2.out]
        exact ⟨fun h => h.2.2.2.2, fun h => ⟨hPP.1, hPP.2.1, hPP.2.2, hQ, h⟩⟩
      clear HR2 hQ hPP a5
      by_cases hu : eu = ew
      · have HR4 : Hid (p = true ↔ ((-1 ≤ en ∧ en ≤ 19) ∧ nl ≤ 1100)) := by show _ ↔ _; rw [HR3.out]; exact ⟨fun h => h.2, fun h => ⟨hu, h⟩⟩
        subst hu
        clear HR3
        go_enter Try.func30, Try.ntmps30
        go_upto_region 1 with fail
        rw [← hw1]
        obtain ⟨n, hn⟩ : ∃ n, n = w.heap.size := ⟨_, rfl⟩
        rw [← hn] at HX1 ⊢
        clear hw1 hn
        have x0 := HX1.out.cell 0 _ rfl
        have x1 := HX1.out.cell 1 _ rfl
        have x2 := HX1.out.cell 2 _ rfl
        have x3 := HX1.out.cell 3 _ rfl
        have x4 := HX1.out.cell 4 _ rfl
        go_wp2_with (go_at_call 47; go_must (refine (HC.out w1).mono ?_; rintro r w2 ⟨rfl, hb2⟩; have X2 := HX1.out.below hb2; have y0 := X2.cell 0 _ rfl; have y4 := X2.cell 4 _ rfl; have y5 := X2.cell 5 _ rfl; have y6 := X2.cell 6 _ rfl))
        all_goals
          go_ret
          refine ⟨ret_bool ?_, bnext HB1.out hb2⟩
          rw [HR4.out]
          (try simp only [decide_eq_true_eq, Bool.false_eq_true, false_iff]); omega
      · have HN : Hid (p = false) := by
          show _ = _
          rw [Bool.eq_false_iff]
          intro h
          exact hu (HR3.out.1 h).1
        have hu' : (eu == ew) = false := by simpa using hu
        clear HR3 hu
        go_enter Try.func30, Try.ntmps30
        go_upto_region 1 with fail
        rw [← hw1]
        obtain ⟨n, hn⟩ : ∃ n, n = w.heap.size := ⟨_, rfl⟩
        rw [← hn] at HX1 ⊢
        clear hw1 hn
        have x0 := HX1.out.cell 0 _ rfl
        have x1 := HX1.out.cell 1 _ rfl
        have x2 := HX1.out.cell 2 _ rfl
        have x3 := HX1.out.cell 3 _ rfl
        have x4 := HX1.out.cell 4 _ rfl
        go_wp2_with (go_at_call 47; go_must (refine (HC.out w1).mono ?_; rintro r w2 ⟨rfl, hb2⟩; have X2 := HX1.out.below hb2; have y0 := X2.cell 0 _ rfl; have y4 := X2.cell 4 _ rfl))
        all_goals
          go_ret
          exact ⟨by rw [HN.out]; rfl, bnext HB1.out hb2⟩
  · have HN : Hid (p = false) := by
      show _ = _
      rw [Bool.eq_false_iff]
      intro h
      have := HR2.out.1 h
      exact hP ⟨this.1, this.2.1, this.2.2.1⟩
    have hP' : ((ep == 0) == (ei == 0)) = true → ¬ ((0 ≤ ew ∧ ew ≤ 7) ∧ (0 ≤ ei ∧ ei ≤ 199)) := fun h1 h2 => hP ⟨h2.1, h2.2, (beqq ep ei).1 h1⟩
    have HNO : Hid (¬ ((0 ≤ ew ∧ ew ≤ 7) ∧ (0 ≤ ei ∧ ei ≤ 199) ∧ ((ep == 0) == (ei == 0)) = true)) := fun h => hP' h.2.2 ⟨h.1, h.2.1⟩
    clear HR2 HQ hP hP'
    generalize hz : ((ep == 0) == (ei == 0)) = z at *
    go_enter Try.func30, Try.ntmps30
    go_upto_region 1 with fail
    rw [← hw1]
    obtain ⟨n, hn⟩ : ∃ n, n = w.heap.size := ⟨_, rfl⟩
    rw [← hn] at HX1 ⊢
    clear hw1 hn
    have x0 := HX1.out.cell 0 _ rfl
    have x1 := HX1.out.cell 1 _ rfl
    have x2 := HX1.out.cell 2 _ rfl
    have x3 := HX1.out.cell 3 _ rfl
    have x4 := HX1.out.cell 4 _ rfl
    by_cases c1 : 0 ≤ ew
    · by_cases c2 : ew < 8
      · by_cases c3 : 0 ≤ ei
        · by_cases c4 : ei < 200
          · have hz' : z = false := by
              cases z
              · rfl
              · exact absurd ⟨⟨c1, by omega⟩, ⟨c3, by omega⟩, rfl⟩ HNO.out
            subst hz'
            go_wp2_with fail
            go_ret
            exact ⟨by rw [HN.out]; rfl, HB1.out⟩
          · go_wp2_with fail
            go_ret
            exact ⟨by rw [HN.out]; rfl, HB1.out⟩
        · go_wp2_with fail
          go_ret
          exact ⟨by rw [HN.out]; rfl, HB1.out⟩
      · go_wp2_with fail
        go_ret
        exact ⟨by rw [HN.out]; rfl, HB1.out⟩
    · go_wp2_with fail
      go_ret
      exact ⟨by rw [HN.out]; rfl, HB1.out⟩
end


section
set_option linter.unusedVariables false
set_option linter.unusedSimpArgs false
set_option synthInstance.maxSize 20000
set_option maxHeartbeats 2000000
set_option maxRecDepth 20000
open Go.RowKit Go.Maps

theorem eql_slice (t e : TypeId) (hu : Try.prog.underlying t = some (.slice e)) (w : World) (a : Option Addr) (n c : Nat) : (binOp .eql t (.slice a n c) (.slice none 0 0)).run Try.prog w = .ok (.bool a.isNone) w := by
  have key : ∀ d, (Op.equalIn (d + 1) t (.slice a n c) (.slice none 0 0)).run Try.prog w = .ok a.isNone w := fun d => by
    cases a <;> simp [Op.equalIn, run_underlying hu, Result.andThen]
  have e1 : (binOp .eql t (.slice a n c) (.slice none 0 0)).run Try.prog w = ((Op.equalIn (9999 + 1) t (.slice a n c) (.slice none 0 0)).run Try.prog w).andThen fun b w' => .ok (.bool b) w' := by
    simp only [binOp]
    simp [Op.equal, Op.maxDepth]
  rw [e1, key]
  rfl

theorem bclone_any (v : Value) (l : List Int) (w : World) (hv : Rd w v l) (hl : l.length ≤ 1000000) :
    Calls Try.prog 46 #[v] w fun e w' => ∃ v', e = .returned v' ∧ Own w.heap.size 5 w' v' l ∧ Below w.heap.size w w' := by
  have HV : Hid (Rd w v l) := hv
  obtain ⟨hU, a, cap, rfl, h1, h2, h3, h4⟩ := hv
  cases a with
  | none =>
    have hc := h3 rfl
    subst hc
    have hl0 : l = [] := List.eq_nil_of_length_eq_zero (by omega)
    subst hl0
    have hq := eql_slice 36 5 (by kernel_rfl) w none 0 0
    go_enter Try.func46, Try.ntmps46
    go_wp2
    go_ret
    exact ⟨_, rfl, own_nil _ _ w, Below.refl _ _⟩
  | some ad =>
    have hq := eql_slice 36 5 (by kernel_rfl) w (some ad) l.length cap
    have HO : Hid (Own w.heap.size 5 (w.alloc (.cells #[] 5)) (.slice (some ⟨w.heap.size, 0, none⟩) 0 0) []) :=
      ⟨Oct.nil, rfl, .inr ⟨w.heap.size, 0, #[], rfl, Nat.le_refl _, heap_alloc_new w _, Nat.le_refl _, Nat.zero_le _, rfl, rfl⟩⟩
    have HB : Hid (Below w.heap.size w (w.alloc (.cells #[] 5))) := (show Below _ _ _ from balloc (Below.refl _ _) _)
    clear h4
    go_enter Try.func46, Try.ntmps46
    go_wp2_with (at_builtin; go_must (refine wpList_append_cells 36 5 byteTy rfl (.tmp 5) (.tmp 6) rfl w.heap.size _ [] rfl HO.out _ l rfl (HV.out.below HB.out) (by simp; omega) (by simp) ?_; intro v2 w2 hown2 hg2))
    go_ret
    exact ⟨_, rfl, by simpa using hown2, HO.out.below HB.out (Nat.le_refl _) hg2⟩
end
end Go.Proofs.Ytigfklcclfpcjaa
