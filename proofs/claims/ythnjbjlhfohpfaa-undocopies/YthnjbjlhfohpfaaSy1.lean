/-
  symMerge of the library's stable sort, at operations, where one of both runs has one operation.
-/
import Derived.Test.YthnjbjlhfohpfaaIns
namespace Go.Proofs.Ythnjbjlhfohpfaa
set_option linter.unusedVariables false
set_option linter.unusedSimpArgs false
set_option synthInstance.maxSize 20000
set_option maxHeartbeats 2000000
set_option maxRecDepth 20000
open Go.RowKit Go.Maps

/-- What a merge of x and y comes to. -/
structure MrgS (x y z : List OpT) : Prop where
  srt : SrtO z
  keep : Keep (x ++ y) z
  len : z.length = x.length + y.length
/-- d on its way behind those that it is not ahead of. -/
theorem mrg_left {d : OpT} {ya yb : List OpT} (hy : SrtO (ya ++ yb)) (h1 : ∀ q ∈ ya, LtO q d) (h2 : ∀ q ∈ yb, LeO d q) : MrgS [d] (ya ++ yb) (ya ++ d :: yb) := by
  obtain ⟨a1, a2, a3⟩ := srt_append.1 hy
  refine ⟨srt_append.2 ⟨a1, List.pairwise_cons.2 ⟨h2, a2⟩, fun p hp q hq => ?_⟩, ?_, by simp; omega⟩
  · rcases List.mem_cons.1 hq with rfl | hq
    · exact lt_le (h1 p hp)
    · exact a3 p hp q hq
  · have t : Keep ([d] ++ ya) (ya ++ [d]) := Keep.turn fun a ha b hb k => by
      simp at ha
      subst ha
      exact lt_ne (h1 b hb) k.symm
    have := t.append (Keep.refl yb)
    simpa using this
theorem mrg_right {d : OpT} {xa xb : List OpT} (hx : SrtO (xa ++ xb)) (h1 : ∀ q ∈ xa, LeO q d) (h2 : ∀ q ∈ xb, LtO d q) : MrgS (xa ++ xb) [d] (xa ++ d :: xb) := by
  obtain ⟨a1, a2, a3⟩ := srt_append.1 hx
  refine ⟨srt_append.2 ⟨a1, List.pairwise_cons.2 ⟨fun q hq => lt_le (h2 q hq), a2⟩, fun p hp q hq => ?_⟩, ?_, by simp; omega⟩
  · rcases List.mem_cons.1 hq with rfl | hq
    · exact h1 p hp
    · exact a3 p hp q hq
  · have t : Keep (xb ++ [d]) ([d] ++ xb) := Keep.turn fun a ha b hb k => by
      simp at hb
      subst hb
      exact lt_ne (h2 a ha) k.symm
    have := (Keep.refl xa).append t
    simpa using this
/-- The search in y: all ahead of i are ahead of d, none from j on. -/
structure Seek1 (d : OpT) (y : List OpT) (m i j : Nat) : Prop where
  lo : ∀ t q, y[t]? = some q → m + t < i → LtO q d
  hi : ∀ t q, y[t]? = some q → j ≤ m + t → LeO d q
structure Seek2 (d : OpT) (x : List OpT) (a i j : Nat) : Prop where
  lo : ∀ t q, x[t]? = some q → a + t < i → LeO q d
  hi : ∀ t q, x[t]? = some q → j ≤ a + t → LtO d q
theorem sym91_1 {w : World} {g N cap a m b : Nat} {p y s : List OpT} {d : OpT} (hr : Row w g N cap (p ++ (d :: (y ++ s)))) (ha : a = p.length) (hm : m = a + 1) (hb : b = m + y.length) (hy : SrtO y) (hN : N ≤ 1000000) :
    Calls Try.prog 97 #[.slice (some ⟨g, 0, none⟩) N cap, .int .i64 (a : Int), .int .i64 (m : Int), .int .i64 (b : Int), .func (.func 68) #[] #[]] w fun e w' => e = .returned (.tuple #[]) ∧ ∃ z, MrgS [d] y z ∧ Row w' g N cap (p ++ (z ++ s)) ∧ w.grownBy w' (some g) := by
  have hlen := hr.1
  have hbN : b ≤ N := by simp at hlen; omega
  have hbN' : (b : Int) ≤ (N : Int) := by omega
  have hN' : (N : Int) ≤ 1000000 := by omega
  have hmb : m ≤ b := by omega
  have hma : (m : Int) - (a : Int) = 1 := by omega
  have haN : (a : Int) < (N : Int) := by simp at hlen; omega
  have HR : Hid (Row w g N cap (p ++ (d :: (y ++ s)))) := hr
  have HA : Hid (a = p.length ∧ m = a + 1 ∧ b = m + y.length) := ⟨ha, hm, hb⟩
  have HS : Hid (Seek1 d y m m b) := ⟨fun t q _ h => by omega, fun t q h1 h2 => by have := (List.getElem?_eq_some_iff.1 h1).1; omega⟩
  have HY : Hid (SrtO y) := hy
  have HDa : Hid ((p ++ (d :: (y ++ s)))[a]? = some d) := by show _ = _; rw [ha]; exact get_mid _ _ _
  have ham : a < m := by omega
  clear hr ha hm hb hlen hy
  go_enter Try.func97, Try.ntmps97
  go_wp2
  go_loopw [10, 11] (fun vi vj wr => ∃ (i j : Nat), vi = .int .i64 (i : Int) ∧ vj = .int .i64 (j : Int) ∧ m ≤ i ∧ i ≤ j ∧ j ≤ b ∧ Hid (Seek1 d y m i j) ∧ Hid (Below w.heap.size w wr)) (fun vi vj _ => (intOf vj).toNat - (intOf vi).toNat)
  case atStart => exact ⟨m, b, rfl, rfl, Nat.le_refl _, hmb, Nat.le_refl _, HS, (show Below _ _ _ from Below.refl _ _)⟩
  case round =>
    obtain ⟨i, j, rfl, rfl, hmi, hij, hjb, HK1, HB⟩ := hrel
    by_cases hlt : i < j
    · have hlt' : (i : Int) < (j : Int) := by omega
      obtain ⟨h, hh⟩ : ∃ h : Nat, ((i : Int) + (j : Int)) / 2 = (h : Int) := ⟨(i + j) / 2, by omega⟩
      have h1 : i ≤ h := by omega
      have h2 : h < j := by omega
      have h3 : (h : Int) < (N : Int) := by omega
      have hyt : h - m < y.length := by have := HA.out.2.2; omega
      obtain ⟨e, he⟩ : ∃ e, y[h - m]? = some e := ⟨_, List.getElem?_eq_getElem hyt⟩
      have heR : (p ++ (d :: (y ++ s)))[h]? = some e := by
        have k1 := HA.out.1; have k2 := HA.out.2.1
        rw [List.getElem?_append_right (by omega), show h - p.length = (h - m) + 1 by omega, List.getElem?_cons_succ, List.getElem?_append_left hyt]
        exact he
      have HCL : Hid (∀ z : WIn (fun w' => Below wr.heap.size wr w'), z.w.rangeAt g (h * 10) (oc e) ∧ z.w.rangeAt g (a * 10) (oc d)) := fun z => by
        have R := (HR.out.below HB.out).below z.ok
        exact ⟨R.load heR, R.load HDa.out⟩
      have HK : Hid (∀ w' : World, Calls Try.prog 68 #[ov e, ov d] w' fun r w'' => r = .returned (.int .i64 (cmpS e.a d.a)) ∧ Below w'.heap.size w' w'') := fun w' => byAt50 e d w'
      have hcm := cmpS_neg e.a d.a
      generalize hrr : cmpS e.a d.a = rr at HK hcm
      have HE : Hid (y[h - m]? = some e) := he
      have ne : Nonempty (WIn (fun w' => Below wr.heap.size wr w')) := ⟨⟨wr, Below.refl _ _⟩⟩
      clear hrr heR he hyt
      by_cases hl : LtO e d
      · have hneg : rr < 0 := hcm.2 hl
        have HS2 : Hid (Seek1 d y m (h + 1) j) := ⟨fun t q k1 k2 => le_lt_trans (srt_last HY.out k1 HE.out (by omega)) hl, HK1.out.hi⟩
        clear hcm
        go_wp2_with fail
        refine wp_region_tree (C := fun w' => ∃ z : WIn (fun w' => Below wr.heap.size wr w'), w' = z.w) (.still 0 (.still 1 (.still 2 (.still 3 (.still 4 (.still 5 (.still 6 (.still 7 (.still 8 (.one 9 (.still 10 .done))))))))))) (by kernel_rfl) (by kernel_rfl) ⟨⟨wr.drew, below_drewn wr 1⟩, rfl⟩ ?_
        iterate 4 (refine tree_still rfl rfl ?_; go_big_quiet_step (fail); refine wpQuiet_nil ?_)
        refine tree_still rfl rfl ?_
        refine quiet_ok1 rfl (fun w' hw' => by obtain ⟨z, rfl⟩ := hw'; exact exec_load26 (q := e) (.tmp 43) rfl rfl (HCL.out z).1) ?_
        go_simp
        iterate 3 (refine tree_still rfl rfl ?_; go_big_quiet_step (fail); refine wpQuiet_nil ?_)
        refine tree_still rfl rfl ?_
        refine quiet_ok1 rfl (fun w' hw' => by obtain ⟨z, rfl⟩ := hw'; exact exec_load26 (q := d) (.tmp 47) rfl rfl (HCL.out z).2) ?_
        go_simp
        refine tree_one rfl rfl ?_
        go_simp
        refine (HK.out _).mono ?_
        rintro r w3 ⟨rfl, hb3⟩
        have HB3 : Hid (Below wr.heap.size wr w3) := bnext (below_drewn wr 1) hb3
        clear hb3
        refine ⟨⟨⟨w3, HB3.out⟩, rfl⟩, ?_⟩
        go_simp
        iterate 1 (refine tree_still rfl rfl ?_; go_big_quiet_step (fail); refine wpQuiet_nil ?_)
        refine tree_done ?_
        clear ne HCL HK
        go_wp2
        go_roundw
        case rel => exact ⟨h + 1, j, by go_num, rfl, by omega, by omega, hjb, HS2, (show Below _ _ _ from bnext HB.out HB3.out)⟩
        case measure => simp [intOf] <;> omega
      · have hneg : ¬ rr < 0 := fun k => hl (hcm.1 k)
        have HS2 : Hid (Seek1 d y m i h) := ⟨HK1.out.lo, fun t q k1 k2 => le_trans' hl (srt_last HY.out HE.out k1 (by omega))⟩
        clear hcm
        go_wp2_with fail
        refine wp_region_tree (C := fun w' => ∃ z : WIn (fun w' => Below wr.heap.size wr w'), w' = z.w) (.still 0 (.still 1 (.still 2 (.still 3 (.still 4 (.still 5 (.still 6 (.still 7 (.still 8 (.one 9 (.still 10 .done))))))))))) (by kernel_rfl) (by kernel_rfl) ⟨⟨wr.drew, below_drewn wr 1⟩, rfl⟩ ?_
        iterate 4 (refine tree_still rfl rfl ?_; go_big_quiet_step (fail); refine wpQuiet_nil ?_)
        refine tree_still rfl rfl ?_
        refine quiet_ok1 rfl (fun w' hw' => by obtain ⟨z, rfl⟩ := hw'; exact exec_load26 (q := e) (.tmp 43) rfl rfl (HCL.out z).1) ?_
        go_simp
        iterate 3 (refine tree_still rfl rfl ?_; go_big_quiet_step (fail); refine wpQuiet_nil ?_)
        refine tree_still rfl rfl ?_
        refine quiet_ok1 rfl (fun w' hw' => by obtain ⟨z, rfl⟩ := hw'; exact exec_load26 (q := d) (.tmp 47) rfl rfl (HCL.out z).2) ?_
        go_simp
        refine tree_one rfl rfl ?_
        go_simp
        refine (HK.out _).mono ?_
        rintro r w3 ⟨rfl, hb3⟩
        have HB3 : Hid (Below wr.heap.size wr w3) := bnext (below_drewn wr 1) hb3
        clear hb3
        refine ⟨⟨⟨w3, HB3.out⟩, rfl⟩, ?_⟩
        go_simp
        iterate 1 (refine tree_still rfl rfl ?_; go_big_quiet_step (fail); refine wpQuiet_nil ?_)
        refine tree_done ?_
        clear ne HCL HK
        go_wp2
        go_roundw
        case rel => exact ⟨i, h, rfl, rfl, hmi, by omega, by omega, HS2, (show Below _ _ _ from bnext HB.out HB3.out)⟩
        case measure => simp [intOf] <;> omega
    · obtain rfl : i = j := by omega
      have hlt' : ¬ (i : Int) < (i : Int) := by omega
      have hsplit : y = y.take (i - m) ++ y.drop (i - m) := (List.take_append_drop _ _).symm
      have htl : (y.take (i - m)).length = i - m := by rw [List.length_take]; have := HA.out.2.2; omega
      have HM : Hid (MrgS [d] y (y.take (i - m) ++ d :: y.drop (i - m))) := by
        show MrgS _ _ _
        have h0 := HY.out
        rw [hsplit] at h0
        have := mrg_left (d := d) h0 (fun q hq => by
          obtain ⟨t, ht⟩ := List.mem_iff_getElem?.1 hq
          rw [List.getElem?_take] at ht
          split at ht
          · exact HK1.out.lo t q ht (by omega)
          · cases ht) (fun q hq => by
          obtain ⟨t, ht⟩ := List.mem_iff_getElem?.1 hq
          rw [List.getElem?_drop] at ht
          exact HK1.out.hi _ q ht (by omega))
        rw [← hsplit] at this
        exact this
      have HR1 : Hid (Row wr g N cap (p ++ (d :: (y.take (i - m) ++ (y.drop (i - m) ++ s))))) := by
        show Row _ _ _ _ _
        have := HR.out.below HB.out
        rw [← List.append_assoc, List.take_append_drop]
        exact this
      have HG1 : Hid (w.grownBy wr (some g)) := (show World.grownBy _ _ _ from ⟨HB.out.os, HB.out.tape, HB.out.output, HB.out.size, fun k hk _ => HB.out.block k hk⟩)
      obtain ⟨ya, hya⟩ : ∃ ya, ya = y.take (i - m) := ⟨_, rfl⟩
      obtain ⟨yb, hyb⟩ : ∃ yb, yb = y.drop (i - m) := ⟨_, rfl⟩
      rw [← hya] at htl HM HR1
      rw [← hyb] at HM HR1
      have HT : Hid (ya.length = i - m) := htl
      clear hya hyb htl hsplit HK1 HS
      go_wp2
      go_loopw [13] (fun vk wr2 => ∃ (k : Nat) (y1 y2 : List OpT), vk = .int .i64 (k : Int) ∧ a ≤ k ∧ k + 1 ≤ i ∧ Hid (ya = y1 ++ y2 ∧ a + y1.length = k) ∧ Hid (Row wr2 g N cap (p ++ (y1 ++ (d :: (y2 ++ (yb ++ s)))))) ∧ Hid (w.grownBy wr2 (some g))) (fun vk _ => i - (intOf vk).toNat)
      case atStart => exact ⟨a, [], ya, rfl, Nat.le_refl _, by omega, ⟨rfl, rfl⟩, HR1, HG1⟩
      case round =>
        obtain ⟨k, y1, y2, rfl, hak, hki, HP, HR2, HG2⟩ := hrel
        rename World => wq
        by_cases hk : k + 1 < i
        · have hk' : (k : Int) < (i : Int) - 1 := by omega
          have hkN : (k : Int) + 1 < (N : Int) := by omega
          have hkN0 : (k : Int) < (N : Int) := by omega
          obtain ⟨e, y3, rfl⟩ : ∃ e y3, y2 = e :: y3 := by
            cases y2 with
            | nil =>
              have h1 := HP.out; have h2 := HT.out; have h3 := HA.out.2.1
              rw [h1.1] at h2
              simp at h2
              omega
            | cons e y3 => exact ⟨e, y3, rfl⟩
          have hz0 : p.length + y1.length = k := by have h1 := HP.out.2; have h2 := HA.out.1; omega
          obtain ⟨wd, hwd⟩ : ∃ wd, wd = wq.drew := ⟨_, rfl⟩
          have HDR : Hid (wd = wq.drew) := hwd
          have R3 : Row wd g N cap ((p ++ y1) ++ d :: e :: (y3 ++ (yb ++ s))) := by
            have : Row wq.drew g N cap _ := HR2.out
            rw [hwd]
            simpa using this
          have hd : ((p ++ y1) ++ d :: e :: (y3 ++ (yb ++ s)))[k]? = some d := by
            rw [← hz0, ← List.length_append]; exact get_mid _ _ _
          have he : ((p ++ y1) ++ d :: e :: (y3 ++ (yb ++ s)))[k + 1]? = some e := by
            have := get_mid ((p ++ y1) ++ [d]) (y3 ++ (yb ++ s)) e
            rw [show ((p ++ y1) ++ [d]).length = k + 1 by simp; omega] at this
            rw [← this]
            simp
          have G3 : w.grownBy wd (some g) := by rw [hwd]; exact grown_drew HG2.out
          obtain ⟨w1, w2, hw1, hw2, R2, G2, T1, T2⟩ := R3.xchg G3 (i := k) (j := k + 1) (by omega) (by omega) d e
          have HW1 : Hid (w1 = wd.setCells g (k * 10) (oc e)) := hw1
          have HW2 : Hid (w2 = w1.setCells g ((k + 1) * 10) (oc d)) := hw2
          have HLA : Hid (wd.rangeAt g ((k + 1) * 10) (oc e)) := R3.load he
          have HLB : Hid (wd.rangeAt g (k * 10) (oc d)) := R3.load hd
          have HT1 : Hid (wd.there g (k * 10) 10) := T1
          have HT2 : Hid (w1.there g ((k + 1) * 10) 10) := T2
          have HREnd : Hid (Row w2 g N cap (p ++ ((y1 ++ [e]) ++ (d :: (y3 ++ (yb ++ s)))))) := by
            show Row _ _ _ _ _
            rw [swap_next' (p ++ y1) (y3 ++ (yb ++ s)) d e k (by simp; omega)] at R2
            simpa using R2
          have HGEnd : Hid (w.grownBy w2 (some g)) := G2
          have HPE : Hid (ya = (y1 ++ [e]) ++ y3 ∧ a + (y1 ++ [e]).length = k + 1) := ⟨by have := HP.out.1; simpa using this, by have := HP.out.2; rw [List.length_append, List.length_singleton]; omega⟩
          clear hwd hw1 hw2 R2 G2 R3 G3 T1 T2 hd he
          go_wp2_with fail
          have ne : Nonempty (WIn (fun _ => True)) := ⟨⟨wq, trivial⟩⟩
          refine wp_region_tree (C := fun w' => ∃ z : WIn (fun _ => True), w' = z.w) (.still 0 (.still 1 (.still 2 (.still 3 (.still 4 (.still 5 (.still 6 (.still 7 (.still 8 (.still 10 (.still 11 (.still 12 (.two 9 (.one 13 (.still 14 (.one 15 (.still 16 (.one 17 .done))))) 13 (.one 9 (.still 14 (.one 15 (.still 16 (.one 17 .done)))))))))))))))))) (by kernel_rfl) (by kernel_rfl) ⟨⟨_, trivial⟩, rfl⟩ ?_
          rw [← HDR.out]
          iterate 12 (refine tree_still rfl rfl ?_; go_big_quiet_step (fail); refine wpQuiet_nil ?_)
          refine tree_two rfl rfl rfl rfl ?_ ?_
          · refine wp_ok (exec_load26 (q := e) (.tmp 69) rfl rfl HLA.out) ?_
            refine ⟨⟨⟨_, trivial⟩, rfl⟩, ?_⟩
            go_simp
            refine tree_one rfl rfl ?_
            refine wp_ok (exec_load26 (q := d) (.tmp 73) rfl rfl HLB.out) ?_
            refine ⟨⟨⟨_, trivial⟩, rfl⟩, ?_⟩
            go_simp
            refine tree_still rfl rfl ?_; go_big_quiet_step (fail); refine wpQuiet_nil ?_
            refine tree_one rfl rfl ?_
            refine wp_skip (exec_store26 (q := e) (.tmp 75) (.tmp 70) rfl rfl rfl HT1.out) ?_
            rw [← HW1.out]
            refine ⟨⟨⟨_, trivial⟩, rfl⟩, ?_⟩
            go_simp
            refine tree_still rfl rfl ?_; go_big_quiet_step (fail); refine wpQuiet_nil ?_
            refine tree_one rfl rfl ?_
            refine wp_skip (exec_store26 (q := d) (.tmp 76) (.tmp 74) rfl rfl rfl HT2.out) ?_
            rw [← HW2.out]
            refine ⟨⟨⟨_, trivial⟩, rfl⟩, ?_⟩
            go_simp
            refine tree_done ?_
            clear ne
            go_wp2
            go_roundw
            case rel => exact ⟨k + 1, y1 ++ [e], y3, by go_num, by omega, by omega, HPE, HREnd, HGEnd⟩
            case measure => simp [intOf] <;> omega
          · refine wp_ok (exec_load26 (q := d) (.tmp 73) rfl rfl HLB.out) ?_
            refine ⟨⟨⟨_, trivial⟩, rfl⟩, ?_⟩
            go_simp
            refine tree_one rfl rfl ?_
            refine wp_ok (exec_load26 (q := e) (.tmp 69) rfl rfl HLA.out) ?_
            refine ⟨⟨⟨_, trivial⟩, rfl⟩, ?_⟩
            go_simp
            refine tree_still rfl rfl ?_; go_big_quiet_step (fail); refine wpQuiet_nil ?_
            refine tree_one rfl rfl ?_
            refine wp_skip (exec_store26 (q := e) (.tmp 75) (.tmp 70) rfl rfl rfl HT1.out) ?_
            rw [← HW1.out]
            refine ⟨⟨⟨_, trivial⟩, rfl⟩, ?_⟩
            go_simp
            refine tree_still rfl rfl ?_; go_big_quiet_step (fail); refine wpQuiet_nil ?_
            refine tree_one rfl rfl ?_
            refine wp_skip (exec_store26 (q := d) (.tmp 76) (.tmp 74) rfl rfl rfl HT2.out) ?_
            rw [← HW2.out]
            refine ⟨⟨⟨_, trivial⟩, rfl⟩, ?_⟩
            go_simp
            refine tree_done ?_
            clear ne
            go_wp2
            go_roundw
            case rel => exact ⟨k + 1, y1 ++ [e], y3, by go_num, by omega, by omega, HPE, HREnd, HGEnd⟩
            case measure => simp [intOf] <;> omega
        · have hk' : ¬ (k : Int) < (i : Int) - 1 := by omega
          have hy2 : y2 = [] := by
            have h1 := HP.out; have h2 := HT.out; have h3 := HA.out.2.1
            rw [h1.1] at h2
            simp at h2
            exact List.eq_nil_of_length_eq_zero (by omega)
          subst hy2
          have hyy : y1 = ya := by have := HP.out.1; rw [List.append_nil] at this; exact this.symm
          subst hyy
          go_wp2
          refine bodyPost_ret (results_none rfl _ _ _) rfl ⟨rfl, y1 ++ d :: yb, HM.out, ?_, HG2.out⟩
          have := HR2.out
          simpa using this
end Go.Proofs.Ythnjbjlhfohpfaa
