/-
  symMerge of the library's stable sort, at operations, where the run behind has one operation.
-/
import Derived.Test.YthnjbjlhfohpfaaSy1
namespace Go.Proofs.Ythnjbjlhfohpfaa
set_option linter.unusedVariables false
set_option linter.unusedSimpArgs false
set_option synthInstance.maxSize 20000
set_option maxHeartbeats 2000000
set_option maxRecDepth 20000
open Go.RowKit Go.Maps

theorem sym91_2 {w : World} {g N cap a m b : Nat} {p x s : List OpT} {d : OpT} (hr : Row w g N cap (p ++ (x ++ (d :: s)))) (ha : a = p.length) (hm : m = a + x.length) (hb : b = m + 1) (hx : SrtO x) (hx2 : 2 ≤ x.length) (hN : N ≤ 1000000) :
    Calls Try.prog 97 #[.slice (some ⟨g, 0, none⟩) N cap, .int .i64 (a : Int), .int .i64 (m : Int), .int .i64 (b : Int), .func (.func 68) #[] #[]] w fun e w' => e = .returned (.tuple #[]) ∧ ∃ z, MrgS x [d] z ∧ Row w' g N cap (p ++ (z ++ s)) ∧ w.grownBy w' (some g) := by
  have hlen := hr.1
  have hbN : b ≤ N := by simp at hlen; omega
  have hbN' : (b : Int) ≤ (N : Int) := by omega
  have hN' : (N : Int) ≤ 1000000 := by omega
  have hma : ¬ ((m : Int) - (a : Int) = 1) := by omega
  have hmab : (((m : Int) - (a : Int)) == 1) = false := by simp; omega
  have hbm : (b : Int) - (m : Int) = 1 := by omega
  have hmN : (m : Int) < (N : Int) := by omega
  have HR : Hid (Row w g N cap (p ++ (x ++ (d :: s)))) := hr
  have HA : Hid (a = p.length ∧ m = a + x.length ∧ b = m + 1) := ⟨ha, hm, hb⟩
  have HS : Hid (Seek2 d x a a m) := ⟨fun t q _ h => by omega, fun t q h1 h2 => by have := (List.getElem?_eq_some_iff.1 h1).1; omega⟩
  have HX : Hid (SrtO x) := hx
  have HDm : Hid ((p ++ (x ++ (d :: s)))[m]? = some d) := by
    show _ = _
    have := get_mid (p ++ x) s d
    rw [show (p ++ x).length = m by simp; omega] at this
    rw [← this]
    simp
  have ham : a ≤ m := by omega
  have hmb : m < b := by omega
  clear hr ha hm hb hlen hx hx2
  go_enter Try.func97, Try.ntmps97
  go_wp2
  go_loopw [14, 15] (fun vi vj wr => ∃ (i j : Nat), vi = .int .i64 (i : Int) ∧ vj = .int .i64 (j : Int) ∧ a ≤ i ∧ i ≤ j ∧ j ≤ m ∧ Hid (Seek2 d x a i j) ∧ Hid (Below w.heap.size w wr)) (fun vi vj _ => (intOf vj).toNat - (intOf vi).toNat)
  case atStart => exact ⟨a, m, rfl, rfl, Nat.le_refl _, ham, Nat.le_refl _, HS, (show Below _ _ _ from Below.refl _ _)⟩
  case round =>
    obtain ⟨i, j, rfl, rfl, hmi, hij, hjb, HK1, HB⟩ := hrel
    by_cases hlt : i < j
    · have hlt' : (i : Int) < (j : Int) := by omega
      obtain ⟨h, hh⟩ : ∃ h : Nat, ((i : Int) + (j : Int)) / 2 = (h : Int) := ⟨(i + j) / 2, by omega⟩
      have h1 : i ≤ h := by omega
      have h2 : h < j := by omega
      have h3 : (h : Int) < (N : Int) := by omega
      have hyt : h - a < x.length := by have := HA.out.2.1; omega
      obtain ⟨e, he⟩ : ∃ e, x[h - a]? = some e := ⟨_, List.getElem?_eq_getElem hyt⟩
      have heR : (p ++ (x ++ (d :: s)))[h]? = some e := by
        have k1 := HA.out.1
        rw [List.getElem?_append_right (by omega), show h - p.length = h - a by omega, List.getElem?_append_left hyt]
        exact he
      have HCL : Hid (∀ z : WIn (fun w' => Below wr.heap.size wr w'), z.w.rangeAt g (m * 10) (oc d) ∧ z.w.rangeAt g (h * 10) (oc e)) := fun z => by
        have R := (HR.out.below HB.out).below z.ok
        exact ⟨R.load HDm.out, R.load heR⟩
      have HK : Hid (∀ w' : World, Calls Try.prog 68 #[ov d, ov e] w' fun r w'' => r = .returned (.int .i64 (cmpS d.a e.a)) ∧ Below w'.heap.size w' w'') := fun w' => byAt50 d e w'
      have hcm := cmpS_neg d.a e.a
      generalize hrr : cmpS d.a e.a = rr at HK hcm
      have HE : Hid (x[h - a]? = some e) := he
      have ne : Nonempty (WIn (fun w' => Below wr.heap.size wr w')) := ⟨⟨wr, Below.refl _ _⟩⟩
      clear hrr heR he hyt
      by_cases hl : LtO d e
      · have hneg : rr < 0 := hcm.2 hl
        have HS2 : Hid (Seek2 d x a i h) := ⟨HK1.out.lo, fun t q k1 k2 => lt_le_trans hl (srt_last HX.out HE.out k1 (by omega))⟩
        clear hcm
        go_wp2_with fail
        refine wp_region_tree (C := fun w' => ∃ z : WIn (fun w' => Below wr.heap.size wr w'), w' = z.w) (.still 0 (.still 1 (.still 2 (.still 3 (.still 4 (.still 5 (.still 6 (.still 7 (.still 8 (.one 9 (.still 10 (.still 11 .done)))))))))))) (by kernel_rfl) (by kernel_rfl) ⟨⟨wr.drew, below_drewn wr 1⟩, rfl⟩ ?_
        iterate 4 (refine tree_still rfl rfl ?_; go_big_quiet_step (fail); refine wpQuiet_nil ?_)
        refine tree_still rfl rfl ?_
        refine quiet_ok1 rfl (fun w' hw' => by obtain ⟨z, rfl⟩ := hw'; exact exec_load26 (q := d) (.tmp 95) rfl rfl (HCL.out z).1) ?_
        go_simp
        iterate 3 (refine tree_still rfl rfl ?_; go_big_quiet_step (fail); refine wpQuiet_nil ?_)
        refine tree_still rfl rfl ?_
        refine quiet_ok1 rfl (fun w' hw' => by obtain ⟨z, rfl⟩ := hw'; exact exec_load26 (q := e) (.tmp 99) rfl rfl (HCL.out z).2) ?_
        go_simp
        refine tree_one rfl rfl ?_
        go_simp
        refine (HK.out _).mono ?_
        rintro r w3 ⟨rfl, hb3⟩
        have HB3 : Hid (Below wr.heap.size wr w3) := bnext (below_drewn wr 1) hb3
        clear hb3
        refine ⟨⟨⟨w3, HB3.out⟩, rfl⟩, ?_⟩
        go_simp
        iterate 2 (refine tree_still rfl rfl ?_; go_big_quiet_step (fail); refine wpQuiet_nil ?_)
        refine tree_done ?_
        clear ne HCL HK
        go_wp2
        go_roundw
        case rel => exact ⟨i, h, rfl, rfl, hmi, by omega, by omega, HS2, (show Below _ _ _ from bnext HB.out HB3.out)⟩
        case measure => simp [intOf] <;> omega
      · have hneg : ¬ rr < 0 := fun k => hl (hcm.1 k)
        have hdd : decide (rr < 0) = false := decide_eq_false hneg
        have HS2 : Hid (Seek2 d x a (h + 1) j) := ⟨fun t q k1 k2 => le_trans' (srt_last HX.out k1 HE.out (by omega)) hl, HK1.out.hi⟩
        clear hcm
        go_wp2_with fail
        refine wp_region_tree (C := fun w' => ∃ z : WIn (fun w' => Below wr.heap.size wr w'), w' = z.w) (.still 0 (.still 1 (.still 2 (.still 3 (.still 4 (.still 5 (.still 6 (.still 7 (.still 8 (.one 9 (.still 10 (.still 11 .done)))))))))))) (by kernel_rfl) (by kernel_rfl) ⟨⟨wr.drew, below_drewn wr 1⟩, rfl⟩ ?_
        iterate 4 (refine tree_still rfl rfl ?_; go_big_quiet_step (fail); refine wpQuiet_nil ?_)
        refine tree_still rfl rfl ?_
        refine quiet_ok1 rfl (fun w' hw' => by obtain ⟨z, rfl⟩ := hw'; exact exec_load26 (q := d) (.tmp 95) rfl rfl (HCL.out z).1) ?_
        go_simp
        iterate 3 (refine tree_still rfl rfl ?_; go_big_quiet_step (fail); refine wpQuiet_nil ?_)
        refine tree_still rfl rfl ?_
        refine quiet_ok1 rfl (fun w' hw' => by obtain ⟨z, rfl⟩ := hw'; exact exec_load26 (q := e) (.tmp 99) rfl rfl (HCL.out z).2) ?_
        go_simp
        refine tree_one rfl rfl ?_
        go_simp
        refine (HK.out _).mono ?_
        rintro r w3 ⟨rfl, hb3⟩
        have HB3 : Hid (Below wr.heap.size wr w3) := bnext (below_drewn wr 1) hb3
        clear hb3
        refine ⟨⟨⟨w3, HB3.out⟩, rfl⟩, ?_⟩
        go_simp
        iterate 2 (refine tree_still rfl rfl ?_; go_big_quiet_step (fail); refine wpQuiet_nil ?_)
        refine tree_done ?_
        clear ne HCL HK
        go_wp2
        go_roundw
        case rel => exact ⟨h + 1, j, by go_num, rfl, by omega, by omega, hjb, HS2, (show Below _ _ _ from bnext HB.out HB3.out)⟩
        case measure => simp [intOf] <;> omega
    · obtain rfl : i = j := by omega
      have hlt' : ¬ (i : Int) < (i : Int) := by omega
      have hsplit : x = x.take (i - a) ++ x.drop (i - a) := (List.take_append_drop _ _).symm
      have htl : (x.take (i - a)).length = i - a := by rw [List.length_take]; have := HA.out.2.1; omega
      have htx : (x.drop (i - a)).length = m - i := by rw [List.length_drop]; have := HA.out.2.1; omega
      have HM : Hid (MrgS x [d] (x.take (i - a) ++ d :: x.drop (i - a))) := by
        show MrgS _ _ _
        have h0 := HX.out
        rw [hsplit] at h0
        have := mrg_right (d := d) h0 (fun q hq => by
          obtain ⟨t, ht⟩ := List.mem_iff_getElem?.1 hq
          rw [List.getElem?_take] at ht
          split at ht
          · exact HK1.out.lo t q ht (by omega)
          · cases ht) (fun q hq => by
          obtain ⟨t, ht⟩ := List.mem_iff_getElem?.1 hq
          rw [List.getElem?_drop] at ht
          exact HK1.out.hi _ q ht (by omega))
        rw [← hsplit] at this
        exact this
      have HR1 : Hid (Row wr g N cap (p ++ (x.take (i - a) ++ (x.drop (i - a) ++ (d :: s))))) := by
        show Row _ _ _ _ _
        have := HR.out.below HB.out
        rw [← List.append_assoc (x.take (i - a)), List.take_append_drop]
        exact this
      have HG1 : Hid (w.grownBy wr (some g)) := (show World.grownBy _ _ _ from ⟨HB.out.os, HB.out.tape, HB.out.output, HB.out.size, fun k hk _ => HB.out.block k hk⟩)
      obtain ⟨ya, hya⟩ : ∃ ya, ya = x.take (i - a) := ⟨_, rfl⟩
      obtain ⟨yb, hyb⟩ : ∃ yb, yb = x.drop (i - a) := ⟨_, rfl⟩
      rw [← hya] at htl HM HR1
      rw [← hyb] at htx HM HR1
      have HT : Hid (ya.length = i - a ∧ yb.length = m - i) := ⟨htl, htx⟩
      clear hya hyb htl htx hsplit HK1 HS
      go_wp2
      go_loopw [17] (fun vk wr2 => ∃ (k : Nat) (y1 y2 : List OpT), vk = .int .i64 (k : Int) ∧ i ≤ k ∧ k ≤ m ∧ Hid (yb = y1 ++ y2 ∧ i + y1.length = k) ∧ Hid (Row wr2 g N cap (p ++ (ya ++ (y1 ++ (d :: (y2 ++ s)))))) ∧ Hid (w.grownBy wr2 (some g))) (fun vk _ => (intOf vk).toNat)
      case atStart =>
        refine ⟨m, yb, [], rfl, by omega, Nat.le_refl _, ⟨by simp, by have := HT.out.2; omega⟩, ?_, HG1⟩
        show Row _ _ _ _ _
        exact HR1.out
      case round =>
        obtain ⟨k, y1, y2, rfl, hik, hkm, HP, HR2, HG2⟩ := hrel
        rename World => wq
        by_cases hk : i < k
        · obtain ⟨kp, rfl⟩ : ∃ kp, k = kp + 1 := ⟨k - 1, by omega⟩
          have hk' : (i : Int) < (kp : Int) + 1 := by omega
          have hkN : (kp : Int) + 1 < (N : Int) := by omega
          have hkN0 : (kp : Int) < (N : Int) := by omega
          have hy1 : y1 ≠ [] := fun h => by
            have := HP.out.2
            rw [h] at this
            simp at this
            omega
          obtain ⟨y3, e, rfl⟩ : ∃ y3 e, y1 = y3 ++ [e] := ⟨y1.dropLast, y1.getLast hy1, (List.dropLast_concat_getLast hy1).symm⟩
          have hz0 : p.length + ya.length + y3.length = kp := by have h1 := HP.out.2; have h2 := HA.out.1; have h3 := HT.out.1; rw [List.length_append, List.length_singleton] at h1; omega
          obtain ⟨wd, hwd⟩ : ∃ wd, wd = wq.drew := ⟨_, rfl⟩
          have HDR : Hid (wd = wq.drew) := hwd
          have R3 : Row wd g N cap ((p ++ ya ++ y3) ++ e :: d :: (y2 ++ s)) := by
            have : Row wq.drew g N cap _ := HR2.out
            rw [hwd]
            simpa using this
          have he : ((p ++ ya ++ y3) ++ e :: d :: (y2 ++ s))[kp]? = some e := by
            have := get_mid (p ++ ya ++ y3) (d :: (y2 ++ s)) e
            rw [show (p ++ ya ++ y3).length = kp by simp; omega] at this
            exact this
          have hd : ((p ++ ya ++ y3) ++ e :: d :: (y2 ++ s))[kp + 1]? = some d := by
            have := get_mid ((p ++ ya ++ y3) ++ [e]) (y2 ++ s) d
            rw [show ((p ++ ya ++ y3) ++ [e]).length = kp + 1 by simp; omega] at this
            rw [← this]
            simp
          have G3 : w.grownBy wd (some g) := by rw [hwd]; exact grown_drew HG2.out
          obtain ⟨w1, w2, hw1, hw2, R2, G2, T1, T2⟩ := R3.xchg G3 (i := kp + 1) (j := kp) (by omega) (by omega) d e
          have HW1 : Hid (w1 = wd.setCells g ((kp + 1) * 10) (oc e)) := hw1
          have HW2 : Hid (w2 = w1.setCells g (kp * 10) (oc d)) := hw2
          have HLA : Hid (wd.rangeAt g (kp * 10) (oc e)) := R3.load he
          have HLB : Hid (wd.rangeAt g ((kp + 1) * 10) (oc d)) := R3.load hd
          have HT1 : Hid (wd.there g ((kp + 1) * 10) 10) := T1
          have HT2 : Hid (w1.there g (kp * 10) 10) := T2
          have HREnd : Hid (Row w2 g N cap (p ++ (ya ++ (y3 ++ (d :: ((e :: y2) ++ s)))))) := by
            show Row _ _ _ _ _
            rw [swap_next (p ++ ya ++ y3) (y2 ++ s) e d kp (by simp; omega)] at R2
            simpa using R2
          have HGEnd : Hid (w.grownBy w2 (some g)) := G2
          have HPE : Hid (yb = y3 ++ (e :: y2) ∧ i + y3.length = kp) := ⟨by have := HP.out.1; simpa using this, by have := HP.out.2; rw [List.length_append, List.length_singleton] at this; omega⟩
          clear hwd hw1 hw2 R2 G2 R3 G3 T1 T2 hd he
          go_wp2_with fail
          have ne : Nonempty (WIn (fun _ => True)) := ⟨⟨wq, trivial⟩⟩
          refine wp_region_tree (C := fun w' => ∃ z : WIn (fun _ => True), w' = z.w) (.still 0 (.still 1 (.still 2 (.still 3 (.still 4 (.still 5 (.still 6 (.still 7 (.still 8 (.still 10 (.still 11 (.still 12 (.two 9 (.one 13 (.still 14 (.one 15 (.still 16 (.one 17 .done))))) 13 (.one 9 (.still 14 (.one 15 (.still 16 (.one 17 .done)))))))))))))))))) (by kernel_rfl) (by kernel_rfl) ⟨⟨_, trivial⟩, rfl⟩ ?_
          rw [← HDR.out]
          iterate 12 (refine tree_still rfl rfl ?_; go_big_quiet_step (fail); refine wpQuiet_nil ?_)
          refine tree_two rfl rfl rfl rfl ?_ ?_
          · refine wp_ok (exec_load26 (q := e) (.tmp 121) rfl rfl HLA.out) ?_
            refine ⟨⟨⟨_, trivial⟩, rfl⟩, ?_⟩
            go_simp
            refine tree_one rfl rfl ?_
            refine wp_ok (exec_load26 (q := d) (.tmp 125) rfl rfl HLB.out) ?_
            refine ⟨⟨⟨_, trivial⟩, rfl⟩, ?_⟩
            go_simp
            refine tree_still rfl rfl ?_; go_big_quiet_step (fail); refine wpQuiet_nil ?_
            refine tree_one rfl rfl ?_
            refine wp_skip (exec_store26 (q := e) (.tmp 127) (.tmp 122) rfl rfl rfl HT1.out) ?_
            rw [← HW1.out]
            refine ⟨⟨⟨_, trivial⟩, rfl⟩, ?_⟩
            go_simp
            refine tree_still rfl rfl ?_; go_big_quiet_step (fail); refine wpQuiet_nil ?_
            refine tree_one rfl rfl ?_
            refine wp_skip (exec_store26 (q := d) (.tmp 128) (.tmp 126) rfl rfl rfl HT2.out) ?_
            rw [← HW2.out]
            refine ⟨⟨⟨_, trivial⟩, rfl⟩, ?_⟩
            go_simp
            refine tree_done ?_
            clear ne
            go_wp2
            go_roundw
            case rel => exact ⟨kp, y3, e :: y2, by go_num, by omega, by omega, HPE, HREnd, HGEnd⟩
            case measure => simp [intOf] <;> omega
          · refine wp_ok (exec_load26 (q := d) (.tmp 125) rfl rfl HLB.out) ?_
            refine ⟨⟨⟨_, trivial⟩, rfl⟩, ?_⟩
            go_simp
            refine tree_one rfl rfl ?_
            refine wp_ok (exec_load26 (q := e) (.tmp 121) rfl rfl HLA.out) ?_
            refine ⟨⟨⟨_, trivial⟩, rfl⟩, ?_⟩
            go_simp
            refine tree_still rfl rfl ?_; go_big_quiet_step (fail); refine wpQuiet_nil ?_
            refine tree_one rfl rfl ?_
            refine wp_skip (exec_store26 (q := e) (.tmp 127) (.tmp 122) rfl rfl rfl HT1.out) ?_
            rw [← HW1.out]
            refine ⟨⟨⟨_, trivial⟩, rfl⟩, ?_⟩
            go_simp
            refine tree_still rfl rfl ?_; go_big_quiet_step (fail); refine wpQuiet_nil ?_
            refine tree_one rfl rfl ?_
            refine wp_skip (exec_store26 (q := d) (.tmp 128) (.tmp 126) rfl rfl rfl HT2.out) ?_
            rw [← HW2.out]
            refine ⟨⟨⟨_, trivial⟩, rfl⟩, ?_⟩
            go_simp
            refine tree_done ?_
            clear ne
            go_wp2
            go_roundw
            case rel => exact ⟨kp, y3, e :: y2, by go_num, by omega, by omega, HPE, HREnd, HGEnd⟩
            case measure => simp [intOf] <;> omega
        · have hk' : ¬ (i : Int) < (k : Int) := by omega
          have hy1 : y1 = [] := by
            have h1 := HP.out
            exact List.eq_nil_of_length_eq_zero (by omega)
          subst hy1
          have hyy : y2 = yb := by have := HP.out.1; rw [List.nil_append] at this; exact this.symm
          subst hyy
          go_wp2
          refine bodyPost_ret (results_none rfl _ _ _) rfl ⟨rfl, ya ++ d :: y2, HM.out, ?_, HG2.out⟩
          have := HR2.out
          simpa using this
end Go.Proofs.Ythnjbjlhfohpfaa
