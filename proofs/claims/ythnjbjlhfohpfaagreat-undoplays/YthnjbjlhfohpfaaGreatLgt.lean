/-
  The reference's log: how many operations are behind a time, and where that time's one is.
  Light: are operations few, and short?
-/
import Derived.Test.YthnjbjlhfohpfaaGreatUdN
import Derived.Test.YthnjbjlhfohpfaaGreatWirP
import Derived.Test.YthnjbjlhfohpfaaGreatTrQ
import Derived.Test.YthnjbjlhfohpfaaGreatSam
import Derived.Test.YthnjbjlhfohpfaaGreatRowG
namespace Go.Proofs.YthnjbjlhfohpfaaGreat
section
set_option linter.unusedVariables false
set_option linter.unusedSimpArgs false
set_option synthInstance.maxSize 20000
set_option maxHeartbeats 2000000
set_option maxRecDepth 20000
open Go.RowKit Go.Maps

theorem hi_more {R : List OpT} {k : Nat} {x : OpT} {a : S} (hx : R[k]? = some x) : (hiO a (R.take (k + 1))).length = (hiO a (R.take k)).length + (if ltP a x.a then 1 else 0) := by
  obtain ⟨hi, e⟩ := List.getElem?_eq_some_iff.1 hx
  rw [List.take_succ_eq_append_getElem hi, e, hi_append, List.length_append]
  congr 1
  unfold hiO
  rw [List.filter_cons]
  by_cases h : ltP a x.a <;> simp [h]
/-- The place of a time's operation; -1: there is none. -/
def PlaceB (a : S) (R : List OpT) (p : Int) : Prop := (hasO a R = false ∧ p = -1) ∨ ∃ (j : Nat) (x : OpT), R[j]? = some x ∧ x.a = a ∧ p = (j : Int)
theorem PlaceB.same {R : List OpT} {k : Nat} {x : OpT} {a : S} {p : Int} (h : PlaceB a (R.take k) p) (hx : R[k]? = some x) (hn : ¬ x.a = a) : PlaceB a (R.take (k + 1)) p := by
  obtain ⟨hi, e⟩ := List.getElem?_eq_some_iff.1 hx
  have e2 : R.take (k + 1) = R.take k ++ [x] := by rw [List.take_succ_eq_append_getElem hi, e]
  rcases h with ⟨h1, h2⟩ | ⟨j, y, h1, h2, h3⟩
  · refine .inl ⟨?_, h2⟩
    rw [e2]
    unfold hasO at h1 ⊢
    rw [List.any_append, h1]
    simp [hn]
  · refine .inr ⟨j, y, ?_, h2, h3⟩
    rw [e2, List.getElem?_append_left (List.getElem?_eq_some_iff.1 h1).1]
    exact h1
theorem PlaceB.here {R : List OpT} {k : Nat} {x : OpT} {a : S} (hx : R[k]? = some x) (hn : x.a = a) : PlaceB a (R.take (k + 1)) (k : Int) := by
  obtain ⟨hi, e⟩ := List.getElem?_eq_some_iff.1 hx
  exact .inr ⟨k, x, by rw [List.getElem?_take, if_pos (by omega)]; exact hx, hn, rfl⟩
def BehAns (w : World) (a : S) (R : List OpT) (e : Ending) (w' : World) : Prop := ∃ (n : Nat) (p : Int), e = .returned (.tuple #[.int .i64 (n : Int), .int .i64 p]) ∧ n = (hiO a R).length ∧ PlaceB a R p ∧ Below w.heap.size w w'
set_option maxHeartbeats 8000000 in
theorem behind24 {w : World} {rb : Nat} {v : Value} {R : List OpT} (hb : Blk w rb 30 [v]) (hv : RowF oc w v R) (hl : R.length ≤ 1000) (a : S) : Calls Tryz.prog 24 #[ptr rb, sv a] w (BehAns w a R) := by
  obtain ⟨av, cv, rfl⟩ := hv.len
  have hcap := hv.caps
  obtain ⟨w1, hw1⟩ : ∃ w1, w1 = w.alloc (.cells (sc a).toArray 35) := ⟨_, rfl⟩
  obtain ⟨B0, hB0⟩ : ∃ B0, B0 = w.heap.size := ⟨_, rfl⟩
  obtain ⟨i1, i2⟩ := box_new hw1 hB0
  have HB1 : Hid (Below w.heap.size w w1) := i1
  have HBa : Hid (Blk w1 B0 35 (sc a)) := i2
  have HRb : Hid (Blk w1 rb 30 [.slice av R.length cv]) := hb.below i1
  have HV : Hid (RowF oc w1 (.slice av R.length cv) R) := hv.below i1
  clear i1 i2 hb hv
  generalize hN : R.length = N at *
  have HN : Hid (R.length = N) := hN
  clear hN
  go_enter Tryz.func24, Tryz.ntmps24
  go_upto_region 1 with (refine wpList_okw rfl (exec_box24 (n := a) (.tmp 1) rfl rfl) ?_)
  rw [← hw1, ← hB0]
  clear hw1 hB0
  go_wp2
  go_loopw [6, 7, 8] (fun vn vp vi wr => ∃ (k n : Nat) (p : Int), vi = .int .i64 (k : Int) ∧ vn = .int .i64 (n : Int) ∧ vp = .int .i64 p ∧ k ≤ N ∧ n ≤ k ∧ Hid (n = (hiO a (R.take k)).length) ∧ Hid (PlaceB a (R.take k) p) ∧ Hid (Below w1.heap.size w1 wr)) (fun _ _ vi _ => N - (intOf vi).toNat)
  case atStart => exact ⟨0, 0, -1, rfl, rfl, rfl, Nat.zero_le _, Nat.le_refl _, rfl, .inl ⟨rfl, rfl⟩, Below.refl _ _⟩
  case round =>
    obtain ⟨k, n, p, rfl, rfl, rfl, hk, hnk, HNn, HP, HB⟩ := hrel
    rename World => wr
    have cL := (HRb.out.below HB.out).cell 0 _ rfl
    by_cases hlt : k < N
    · have hkI : (k : Int) < (N : Int) := by omega
      obtain ⟨x, hx⟩ : ∃ x, R[k]? = some x := ⟨_, List.getElem?_eq_getElem (by have := HN.out; omega)⟩
      obtain ⟨bx, ox, rfl, _⟩ := RowF.at oc_len HV.out hx
      have HX : Hid (R[k]? = some x) := hx
      clear hx
      go_upto_region 5 with fail
      clear cL
      have HCa : Hid (∀ z : WIn (fun w' => Below wr.heap.size wr w'), z.w.rangeAt B0 0 (sc a)) := fun z => Blk.range0 (HBa.out.below (bnext HB.out z.ok))
      have HXa : Hid (∀ z : WIn (fun w' => Below wr.heap.size wr w'), z.w.rangeAt bx (ox + k * 10 + 1) (sc x.a)) := fun z => by
        obtain ⟨b', o', e, h⟩ := RowF.at oc_len (HV.out.below (bnext HB.out z.ok)) HX.out
        cases e
        exact fun j u hj => by
          match j, hj with
          | 0, hj => exact h 1 u hj
          | 1, hj => exact h 2 u hj
          | j + 2, hj => simp [sc] at hj
      have cl : ∀ z : WIn (fun w' => Below wr.heap.size wr w'), z.w.cell? ⟨rb, 0, none⟩ = some (.slice (some ⟨bx, ox, none⟩) N cv) := fun z => (HRb.out.below (bnext HB.out z.ok)).cell 0 _ rfl
      have HK : Hid (∀ w', Calls Tryz.prog 44 #[sv a, sv x.a] w' fun e w'' => e = .returned (.bool (decide (ltP a x.a))) ∧ Below w'.heap.size w' w'') := fun w' => refless_any a x.a w'
      cases hd : decide (ltP a x.a)
      · rw [hd] at HK
        have HD : Hid ((hiO a (R.take (k + 1))).length = (hiO a (R.take k)).length) := (show _ = _ from by rw [hi_more HX.out, if_neg (of_decide_eq_false hd), Nat.add_zero])
        clear hd
        have ne : Nonempty (WIn (fun w' => Below wr.heap.size wr w')) := ⟨⟨wr.drew, below_drewn wr 1⟩⟩
        refine wp_region_ord (C := fun w' => ∃ z : WIn (fun w' => Below wr.heap.size wr w'), w' = z.w) [(false, 0), (false, 1), (false, 2), (false, 3), (false, 4), (false, 5), (false, 6), (false, 7), (false, 8), (true, 9)] (by kernel_rfl) (by kernel_rfl) ⟨⟨wr.drew, below_drewn wr 1⟩, rfl⟩ ?_
        refine ord_still rfl rfl ?_
        refine quiet_ok1 rfl (fun w' hw' => by obtain ⟨z, rfl⟩ := hw'; exact exec_load24n (n := a) (.tmp 3) rfl rfl (HCa.out z)) ?_
        go_simp
        iterate 7 (refine ord_still rfl rfl ?_; go_big_quiet_step (fail); refine wpQuiet_nil ?_)
        refine ord_still rfl rfl ?_
        refine quiet_ok1 rfl (fun w' hw' => by obtain ⟨z, rfl⟩ := hw'; exact exec_load24n (n := x.a) (.tmp 25) rfl rfl (HXa.out z)) ?_
        go_simp
        refine ord_mem rfl rfl ?_
        go_simp
        refine (HK.out _).mono ?_
        rintro r w3 ⟨rfl, hb⟩
        have HB3 : Hid (Below wr.heap.size wr w3) := bnext (below_drewn wr 1) hb
        clear hb
        refine ⟨⟨⟨w3, HB3.out⟩, rfl⟩, ?_⟩
        go_simp
        refine ord_end ?_
        clear ne
        clear cl
        go_upto_region 7 with fail
        have HCa3 : Hid (∀ z : WIn (fun w' => Below w3.heap.size w3 w'), z.w.rangeAt B0 0 (sc a)) := fun z => HCa.out ⟨z.w, bnext HB3.out z.ok⟩
        have HXa3 : Hid (∀ z : WIn (fun w' => Below w3.heap.size w3 w'), z.w.rangeAt bx (ox + k * 10 + 1) (sc x.a)) := fun z => HXa.out ⟨z.w, bnext HB3.out z.ok⟩
        have cl3 : ∀ z : WIn (fun w' => Below w3.heap.size w3 w'), z.w.cell? ⟨rb, 0, none⟩ = some (.slice (some ⟨bx, ox, none⟩) N cv) := fun z => (HRb.out.below (bnext HB.out (bnext HB3.out z.ok))).cell 0 _ rfl
        have HBw : Hid (Below w1.heap.size w1 w3.drew) := bnext HB.out (bnext HB3.out (below_drewn w3 1))
        cases hd2 : decide (x.a = a)
        · have HE : Hid (decide (x.a = a) = false) := hd2
          clear hd2
          have ne : Nonempty (WIn (fun w' => Below w3.heap.size w3 w')) := ⟨⟨w3.drew, below_drewn w3 1⟩⟩
          refine wp_region_ord (C := fun w' => ∃ z : WIn (fun w' => Below w3.heap.size w3 w'), w' = z.w) [(false, 0), (false, 1), (false, 2), (false, 3), (false, 4), (false, 5), (false, 6), (false, 7), (false, 8), (false, 9)] (by kernel_rfl) (by kernel_rfl) ⟨⟨w3.drew, below_drewn w3 1⟩, rfl⟩ ?_
          iterate 7 (refine ord_still rfl rfl ?_; go_big_quiet_step (fail); refine wpQuiet_nil ?_)
          refine ord_still rfl rfl ?_
          refine quiet_ok1 rfl (fun w' hw' => by obtain ⟨z, rfl⟩ := hw'; exact exec_load24n (n := x.a) (.tmp 36) rfl rfl (HXa3.out z)) ?_
          go_simp
          refine ord_still rfl rfl ?_
          refine quiet_ok1 rfl (fun w' hw' => by obtain ⟨z, rfl⟩ := hw'; exact exec_load24n (n := a) (.tmp 3) rfl rfl (HCa3.out z)) ?_
          go_simp
          refine ord_still rfl rfl ?_
          refine quiet_ok1 rfl (fun w' hw' => exec_eql24 (a := x.a) (b := a) (.tmp 37) (.tmp 38) rfl rfl rfl) ?_
          rw [HE.out]
          go_simp
          refine ord_end ?_
          clear ne
          clear cl3
          go_wp2
          go_roundw
          case rel => exact ⟨k + 1, n, p, by go_num, rfl, rfl, by omega, by omega, (show _ = _ from by rw [HD.out, ← HNn.out]), HP.out.same HX.out (of_decide_eq_false HE.out), HBw⟩
          case measure => simp [intOf]; omega
        · have HE : Hid (decide (x.a = a) = true) := hd2
          clear hd2
          have ne : Nonempty (WIn (fun w' => Below w3.heap.size w3 w')) := ⟨⟨w3.drew, below_drewn w3 1⟩⟩
          refine wp_region_ord (C := fun w' => ∃ z : WIn (fun w' => Below w3.heap.size w3 w'), w' = z.w) [(false, 0), (false, 1), (false, 2), (false, 3), (false, 4), (false, 5), (false, 6), (false, 7), (false, 8), (false, 9)] (by kernel_rfl) (by kernel_rfl) ⟨⟨w3.drew, below_drewn w3 1⟩, rfl⟩ ?_
          iterate 7 (refine ord_still rfl rfl ?_; go_big_quiet_step (fail); refine wpQuiet_nil ?_)
          refine ord_still rfl rfl ?_
          refine quiet_ok1 rfl (fun w' hw' => by obtain ⟨z, rfl⟩ := hw'; exact exec_load24n (n := x.a) (.tmp 36) rfl rfl (HXa3.out z)) ?_
          go_simp
          refine ord_still rfl rfl ?_
          refine quiet_ok1 rfl (fun w' hw' => by obtain ⟨z, rfl⟩ := hw'; exact exec_load24n (n := a) (.tmp 3) rfl rfl (HCa3.out z)) ?_
          go_simp
          refine ord_still rfl rfl ?_
          refine quiet_ok1 rfl (fun w' hw' => exec_eql24 (a := x.a) (b := a) (.tmp 37) (.tmp 38) rfl rfl rfl) ?_
          rw [HE.out]
          go_simp
          refine ord_end ?_
          clear ne
          clear cl3
          go_wp2
          go_roundw
          case rel => exact ⟨k + 1, n, (k : Int), by go_num, rfl, rfl, by omega, by omega, (show _ = _ from by rw [HD.out, ← HNn.out]), PlaceB.here HX.out (of_decide_eq_true HE.out), HBw⟩
          case measure => simp [intOf]; omega
      · rw [hd] at HK
        have HD : Hid ((hiO a (R.take (k + 1))).length = (hiO a (R.take k)).length + 1) := (show _ = _ from by rw [hi_more HX.out, if_pos (of_decide_eq_true hd)])
        clear hd
        have ne : Nonempty (WIn (fun w' => Below wr.heap.size wr w')) := ⟨⟨wr.drew, below_drewn wr 1⟩⟩
        refine wp_region_ord (C := fun w' => ∃ z : WIn (fun w' => Below wr.heap.size wr w'), w' = z.w) [(false, 0), (false, 1), (false, 2), (false, 3), (false, 4), (false, 5), (false, 6), (false, 7), (false, 8), (true, 9)] (by kernel_rfl) (by kernel_rfl) ⟨⟨wr.drew, below_drewn wr 1⟩, rfl⟩ ?_
        refine ord_still rfl rfl ?_
        refine quiet_ok1 rfl (fun w' hw' => by obtain ⟨z, rfl⟩ := hw'; exact exec_load24n (n := a) (.tmp 3) rfl rfl (HCa.out z)) ?_
        go_simp
        iterate 7 (refine ord_still rfl rfl ?_; go_big_quiet_step (fail); refine wpQuiet_nil ?_)
        refine ord_still rfl rfl ?_
        refine quiet_ok1 rfl (fun w' hw' => by obtain ⟨z, rfl⟩ := hw'; exact exec_load24n (n := x.a) (.tmp 25) rfl rfl (HXa.out z)) ?_
        go_simp
        refine ord_mem rfl rfl ?_
        go_simp
        refine (HK.out _).mono ?_
        rintro r w3 ⟨rfl, hb⟩
        have HB3 : Hid (Below wr.heap.size wr w3) := bnext (below_drewn wr 1) hb
        clear hb
        refine ⟨⟨⟨w3, HB3.out⟩, rfl⟩, ?_⟩
        go_simp
        refine ord_end ?_
        clear ne
        clear cl
        go_upto_region 7 with fail
        have HCa3 : Hid (∀ z : WIn (fun w' => Below w3.heap.size w3 w'), z.w.rangeAt B0 0 (sc a)) := fun z => HCa.out ⟨z.w, bnext HB3.out z.ok⟩
        have HXa3 : Hid (∀ z : WIn (fun w' => Below w3.heap.size w3 w'), z.w.rangeAt bx (ox + k * 10 + 1) (sc x.a)) := fun z => HXa.out ⟨z.w, bnext HB3.out z.ok⟩
        have cl3 : ∀ z : WIn (fun w' => Below w3.heap.size w3 w'), z.w.cell? ⟨rb, 0, none⟩ = some (.slice (some ⟨bx, ox, none⟩) N cv) := fun z => (HRb.out.below (bnext HB.out (bnext HB3.out z.ok))).cell 0 _ rfl
        have HBw : Hid (Below w1.heap.size w1 w3.drew) := bnext HB.out (bnext HB3.out (below_drewn w3 1))
        cases hd2 : decide (x.a = a)
        · have HE : Hid (decide (x.a = a) = false) := hd2
          clear hd2
          have ne : Nonempty (WIn (fun w' => Below w3.heap.size w3 w')) := ⟨⟨w3.drew, below_drewn w3 1⟩⟩
          refine wp_region_ord (C := fun w' => ∃ z : WIn (fun w' => Below w3.heap.size w3 w'), w' = z.w) [(false, 0), (false, 1), (false, 2), (false, 3), (false, 4), (false, 5), (false, 6), (false, 7), (false, 8), (false, 9)] (by kernel_rfl) (by kernel_rfl) ⟨⟨w3.drew, below_drewn w3 1⟩, rfl⟩ ?_
          iterate 7 (refine ord_still rfl rfl ?_; go_big_quiet_step (fail); refine wpQuiet_nil ?_)
          refine ord_still rfl rfl ?_
          refine quiet_ok1 rfl (fun w' hw' => by obtain ⟨z, rfl⟩ := hw'; exact exec_load24n (n := x.a) (.tmp 36) rfl rfl (HXa3.out z)) ?_
          go_simp
          refine ord_still rfl rfl ?_
          refine quiet_ok1 rfl (fun w' hw' => by obtain ⟨z, rfl⟩ := hw'; exact exec_load24n (n := a) (.tmp 3) rfl rfl (HCa3.out z)) ?_
          go_simp
          refine ord_still rfl rfl ?_
          refine quiet_ok1 rfl (fun w' hw' => exec_eql24 (a := x.a) (b := a) (.tmp 37) (.tmp 38) rfl rfl rfl) ?_
          rw [HE.out]
          go_simp
          refine ord_end ?_
          clear ne
          clear cl3
          go_wp2
          go_roundw
          case rel => exact ⟨k + 1, n + 1, p, by go_num, by go_num, rfl, by omega, by omega, (show _ = _ from by rw [HD.out, ← HNn.out]), HP.out.same HX.out (of_decide_eq_false HE.out), HBw⟩
          case measure => simp [intOf]; omega
        · have HE : Hid (decide (x.a = a) = true) := hd2
          clear hd2
          have ne : Nonempty (WIn (fun w' => Below w3.heap.size w3 w')) := ⟨⟨w3.drew, below_drewn w3 1⟩⟩
          refine wp_region_ord (C := fun w' => ∃ z : WIn (fun w' => Below w3.heap.size w3 w'), w' = z.w) [(false, 0), (false, 1), (false, 2), (false, 3), (false, 4), (false, 5), (false, 6), (false, 7), (false, 8), (false, 9)] (by kernel_rfl) (by kernel_rfl) ⟨⟨w3.drew, below_drewn w3 1⟩, rfl⟩ ?_
          iterate 7 (refine ord_still rfl rfl ?_; go_big_quiet_step (fail); refine wpQuiet_nil ?_)
          refine ord_still rfl rfl ?_
          refine quiet_ok1 rfl (fun w' hw' => by obtain ⟨z, rfl⟩ := hw'; exact exec_load24n (n := x.a) (.tmp 36) rfl rfl (HXa3.out z)) ?_
          go_simp
          refine ord_still rfl rfl ?_
          refine quiet_ok1 rfl (fun w' hw' => by obtain ⟨z, rfl⟩ := hw'; exact exec_load24n (n := a) (.tmp 3) rfl rfl (HCa3.out z)) ?_
          go_simp
          refine ord_still rfl rfl ?_
          refine quiet_ok1 rfl (fun w' hw' => exec_eql24 (a := x.a) (b := a) (.tmp 37) (.tmp 38) rfl rfl rfl) ?_
          rw [HE.out]
          go_simp
          refine ord_end ?_
          clear ne
          clear cl3
          go_wp2
          go_roundw
          case rel => exact ⟨k + 1, n + 1, (k : Int), by go_num, by go_num, rfl, by omega, by omega, (show _ = _ from by rw [HD.out, ← HNn.out]), PlaceB.here HX.out (of_decide_eq_true HE.out), HBw⟩
          case measure => simp [intOf]; omega
    · have hkI : ¬ (k : Int) < (N : Int) := by omega
      have HTL : Hid (R.take k = R) := List.take_of_length_le (by have := HN.out; omega)
      go_wp2
      go_ret2
      exact ⟨n, p, rfl, by rw [← HTL.out]; exact HNn.out, by rw [← HTL.out]; exact HP.out, bnext HB1.out HB.out⟩
end

section
set_option linter.unusedVariables false
set_option linter.unusedSimpArgs false
set_option synthInstance.maxSize 20000
set_option maxHeartbeats 2000000
set_option maxRecDepth 20000
open Go.RowKit Go.Maps

def okO (q : OpT) : Bool := decide (q.s.size ≤ 40 ∧ q.vn ≤ 500)
def lightB (l : List OpT) (n : Int) : Bool := decide ((l.length : Int) ≤ n) && l.all okO
theorem all_take_more {l : List OpT} {i : Nat} {x : OpT} (hx : l[i]? = some x) : (l.take (i + 1)).all okO = ((l.take i).all okO && okO x) := by
  obtain ⟨hi, rfl⟩ := List.getElem?_eq_some_iff.1 hx
  rw [List.take_succ_eq_append_getElem hi, List.all_append]
  simp
theorem light8 {w : World} {v : Value} {l : List OpT} {n : Int} (h : RowF oc w v l) (hl : l.length ≤ 9223372036854775807) : Calls Tryz.prog 19 #[v, .int .i64 n] w fun e w' => e = .returned (.bool (lightB l n)) ∧ w' = w := by
  obtain ⟨a, cap, rfl⟩ := h.len
  have HR : Hid (RowF oc w (.slice a l.length cap) l) := h
  have hc := h.caps
  have HQ : Hid (lightB l n = (decide ((l.length : Int) ≤ n) && l.all okO)) := (rfl : lightB l n = _)
  clear h
  obtain ⟨N, hN⟩ : ∃ N, N = l.length := ⟨_, rfl⟩
  have HN : Hid (N = l.length) := hN
  rw [← hN] at hc hl ⊢
  obtain ⟨hc1, hc2, hc3⟩ := hc
  clear hc1
  by_cases h1 : n < (N : Int)
  · have HF : Hid (lightB l n = false) := by
      show _ = _
      rw [HQ.out, decide_eq_false (by rw [← HN.out]; omega)]; rfl
    clear hN
    go_enter Tryz.func19, Tryz.ntmps19
    go_wp2
    go_ret
    exact ⟨by rw [HF.out]; rfl, rfl⟩
  · have h1' : (N : Int) ≤ n := by omega
    have HF : Hid (lightB l n = l.all okO) := by
      show _ = _
      rw [HQ.out, decide_eq_true (by rw [← HN.out]; omega)]; simp
    clear hN HQ
    go_enter Tryz.func19, Tryz.ntmps19
    go_wp2
    go_loopw [5] (fun vi wr => ∃ i : Nat, vi = .int .i64 (i : Int) ∧ i ≤ N ∧ Hid ((l.take i).all okO = true) ∧ Hid (wr = w)) (fun vi _ => N - (intOf vi).toNat)
    case atStart => exact ⟨0, rfl, Nat.zero_le _, rfl, rfl⟩
    case round =>
      obtain ⟨i, rfl, hi, HA, HW⟩ := hrel
      have hw := HW.out
      subst hw
      rename World => wq
      by_cases hlt : i < N
      · have hlt' : (i : Int) < (N : Int) := by omega
        obtain ⟨x, hx⟩ : ∃ x, l[i]? = some x := ⟨_, List.getElem?_eq_getElem (by rw [← HN.out]; exact hlt)⟩
        obtain ⟨b, off, rfl, hcell⟩ := RowF.at oc_len HR.out hx
        have HM := all_take_more hx
        have e8 := hcell 8 _ rfl
        have e9 := hcell 9 _ rfl
        have HX : Hid (okO x = decide (x.s.size ≤ 40 ∧ x.vn ≤ 500)) := (rfl : okO x = _)
        by_cases h8 : 40 < x.s.size
        · have h8' : (40 : Int) < (x.s.size : Int) := by omega
          have HF2 : Hid (lightB l n = false) := by
            show _ = _
            rw [HF.out]
            cases hA : l.all okO
            · rfl
            · have := List.all_eq_true.1 hA x (List.mem_of_getElem? hx)
              rw [HX.out] at this
              have := of_decide_eq_true this
              omega
          clear HM hx hcell
          go_wp2
          go_ret
          exact ⟨by rw [HF2.out]; rfl, rfl⟩
        · have h8' : ¬ (40 : Int) < (x.s.size : Int) := by omega
          by_cases h9 : 500 < x.vn
          · have h9' : (500 : Int) < (x.vn : Int) := by omega
            have HF2 : Hid (lightB l n = false) := by
              show _ = _
              rw [HF.out]
              cases hA : l.all okO
              · rfl
              · have := List.all_eq_true.1 hA x (List.mem_of_getElem? hx)
                rw [HX.out] at this
                have := of_decide_eq_true this
                omega
            clear HM hx hcell
            go_wp2
            go_ret
            exact ⟨by rw [HF2.out]; rfl, rfl⟩
          · have h9' : ¬ (500 : Int) < (x.vn : Int) := by omega
            have HA2 : Hid ((l.take (i + 1)).all okO = true) := by
              show _ = _
              rw [HM, HA.out, HX.out, decide_eq_true (by omega)]; rfl
            clear HM hx hcell
            go_wp2
            go_roundw
            case rel => exact ⟨i + 1, by go_num, by omega, HA2, by first | rfl | trivial⟩
            case measure => simp [intOf] <;> omega
      · obtain rfl : i = N := by omega
        have hlt' : ¬ (i : Int) < (i : Int) := by omega
        have HF2 : Hid (lightB l n = true) := by
          show _ = _
          rw [HF.out]
          have := HA.out
          rw [HN.out, List.take_length] at this
          exact this
        go_wp2
        go_ret
        exact ⟨by rw [HF2.out]; rfl, rfl⟩
end
end Go.Proofs.YthnjbjlhfohpfaaGreat
