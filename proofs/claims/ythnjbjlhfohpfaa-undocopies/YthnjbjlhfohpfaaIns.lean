/-
  insertionSort of the library's stable sort, at operations.
-/
import Derived.Test.YthnjbjlhfohpfaaRot
namespace Go.Proofs.Ythnjbjlhfohpfaa
set_option linter.unusedVariables false
set_option linter.unusedSimpArgs false
set_option synthInstance.maxSize 20000
set_option maxHeartbeats 2000000
set_option maxRecDepth 20000
open Go.RowKit Go.Maps

/-- Of a list that is put in order: what is in order (z), then what stands as it came. -/
structure InsS (x z y : List OpT) : Prop where
  srt : SrtO z
  keep : Keep x (z ++ y)
  len : z.length + y.length = x.length
/-- One of them on its way down: e stands behind z1, ahead of z2, which it is ahead of. -/
structure DownS (x z1 : List OpT) (e : OpT) (z2 y : List OpT) : Prop where
  srt : SrtO (z1 ++ z2)
  less : ∀ q ∈ z2, LtO e q
  keep : Keep x (z1 ++ e :: z2 ++ y)
  len : z1.length + 1 + z2.length + y.length = x.length
theorem DownS.start {x z y : List OpT} {e : OpT} (h : InsS x z (e :: y)) : DownS x z e [] y := by
  refine ⟨by simpa using h.srt, (fun q hq => by cases hq), ?_, ?_⟩
  · have := h.keep
    simpa using this
  · have := h.len
    simp at this ⊢
    omega
theorem DownS.less' {x z1 z2 y : List OpT} {e d : OpT} (h : DownS x (z1 ++ [d]) e z2 y) (hl : LtO e d) : DownS x z1 e (d :: z2) y := by
  refine ⟨by simpa using h.srt, fun q hq => ?_, ?_, ?_⟩
  · rcases List.mem_cons.1 hq with rfl | hq
    · exact hl
    · exact h.less q hq
  · refine h.keep.trans ?_
    have t : Keep ([d] ++ [e]) ([e] ++ [d]) := Keep.turn (fun a ha b hb => by
      simp at ha hb
      subst ha hb
      exact fun k => lt_ne hl k.symm)
    have := ((Keep.refl z1).append t).append (Keep.refl (z2 ++ y))
    simpa using this
  · have := h.len
    simp at this ⊢
    omega
theorem DownS.stop {x z1 z2 y : List OpT} {e : OpT} (h : DownS x z1 e z2 y) (hs : ∀ q ∈ z1, LeO q e) : InsS x (z1 ++ e :: z2) y := by
  obtain ⟨a1, a2, a3⟩ := srt_append.1 h.srt
  refine ⟨srt_append.2 ⟨a1, List.pairwise_cons.2 ⟨fun q hq => lt_le (h.less q hq), a2⟩, fun p hp q hq => ?_⟩, h.keep, ?_⟩
  · rcases List.mem_cons.1 hq with rfl | hq
    · exact hs p hp
    · exact a3 p hp q hq
  · have := h.len
    simp at this ⊢
    omega
theorem DownS.top {x z1 z2 y : List OpT} {e d : OpT} (h : DownS x (z1 ++ [d]) e z2 y) (hl : ¬ LtO e d) : ∀ q ∈ z1 ++ [d], LeO q e := fun q hq => by
  have a1 := (srt_append.1 h.srt).1
  rcases List.mem_append.1 hq with hq | hq
  · have := (srt_append.1 a1).2.2 q hq d (by simp)
    exact le_trans' this hl
  · simp at hq
    subst hq
    exact hl
theorem insertion90 {w : World} {g N cap a b : Nat} {p x s : List OpT} (hr : Row w g N cap (p ++ (x ++ s))) (ha : a = p.length) (hb : b = a + x.length) (hN : N ≤ 1000000) :
    Calls Try.prog 96 #[.slice (some ⟨g, 0, none⟩) N cap, .int .i64 (a : Int), .int .i64 (b : Int), .func (.func 68) #[] #[]] w fun e w' => e = .returned (.tuple #[]) ∧ ∃ z, InsS x z [] ∧ Row w' g N cap (p ++ (z ++ s)) ∧ w.grownBy w' (some g) := by
  have hlen := hr.1
  have hbN : b ≤ N := by simp at hlen; omega
  have hbN' : (b : Int) ≤ (N : Int) := by omega
  have hN' : (N : Int) ≤ 1000000 := by omega
  have HR : Hid (Row w g N cap (p ++ (x ++ s))) := hr
  have HA : Hid (a = p.length ∧ b = a + x.length) := ⟨ha, hb⟩
  by_cases hx : x = []
  · subst hx
    have h0 : ¬ ((a : Int) + 1 < (b : Int)) := by simp at hb; omega
    have haz : (a : Int) ≤ 1000000 := by omega
    clear hr ha hb hlen
    go_enter Try.func96, Try.ntmps96
    go_wp2
    go_loopw [8] (fun vi wr => vi = .int .i64 ((a : Int) + 1) ∧ Hid (wr = w)) (fun _ _ => 0)
    case atStart => exact ⟨rfl, rfl⟩
    case round =>
      obtain ⟨rfl, HW⟩ := hrel
      have hw := HW.out
      subst hw
      go_wp2
      go_end0
      exact ⟨rfl, [], ⟨List.Pairwise.nil, Keep.refl _, rfl⟩, HR.out, grown_refl _ _⟩
  · obtain ⟨x0, x1, hx01⟩ : ∃ x0 x1, x = x0 :: x1 := by
      cases x with
      | nil => exact absurd rfl hx
      | cons x0 x1 => exact ⟨x0, x1, rfl⟩
    have hab : a < b := by rw [hb, hx01]; simp
    have haz : (a : Int) ≤ 1000000 := by omega
    have HI0 : Hid (InsS x [x0] x1 ∧ p ++ (x ++ s) = p ++ ([x0] ++ (x1 ++ s))) := ⟨⟨List.pairwise_singleton _ _, by rw [hx01]; exact Keep.refl _, by rw [hx01]; simp; omega⟩, by rw [hx01]; simp⟩
    clear hr ha hb hlen hx hx01
    go_enter Try.func96, Try.ntmps96
    go_wp2
    go_loopw [8] (fun vi wr => ∃ (i : Nat) (z y : List OpT), vi = .int .i64 (i : Int) ∧ a < i ∧ i ≤ b ∧ Hid (a + z.length = i) ∧ Hid (InsS x z y) ∧ Hid (Row wr g N cap (p ++ (z ++ (y ++ s)))) ∧ Hid (w.grownBy wr (some g))) (fun vi _ => b - (intOf vi).toNat)
    case atStart =>
      refine ⟨a + 1, [x0], x1, by go_num, by omega, by omega, rfl, HI0.out.1, ?_, grown_refl _ _⟩
      show Row _ _ _ _ _
      rw [← HI0.out.2]
      exact HR.out
    case round =>
      obtain ⟨i, z, y, rfl, hai, hib, HL, HI, HR1, HG1⟩ := hrel
      by_cases hlt : i < b
      · have hlt' : (i : Int) < (b : Int) := by omega
        obtain ⟨e, y2, rfl⟩ : ∃ e y2, y = e :: y2 := by
          cases y with
          | nil =>
            have h1 := HI.out.len; have h2 := HL.out; have h3 := HA.out.2
            simp at h1
            omega
          | cons e y2 => exact ⟨e, y2, rfl⟩
        go_wp2
        go_loopw [9] (fun vj wr2 => ∃ (j : Nat) (z1 z2 : List OpT), vj = .int .i64 (j : Int) ∧ a ≤ j ∧ j ≤ i ∧ Hid (a + z1.length = j) ∧ Hid (z1.length + z2.length = z.length) ∧ Hid (DownS x z1 e z2 y2) ∧ Hid (Row wr2 g N cap (p ++ (z1 ++ (e :: (z2 ++ (y2 ++ s)))))) ∧ Hid (w.grownBy wr2 (some g))) (fun vj _ => (intOf vj).toNat)
        case atStart => exact ⟨i, z, [], rfl, by omega, Nat.le_refl _, HL, rfl, DownS.start HI.out, by simpa using HR1, HG1⟩
        case round =>
          obtain ⟨j, z1, z2, rfl, haj, hji, HL1, HL2, HD, HR2, HG2⟩ := hrel
          rename World => wq
          have haj' : (0 : Int) ≤ (j : Int) := by omega
          by_cases hz : z1 = []
          · subst hz
            have hja : j = a := by have := HL1.out; simp at this; omega
            subst hja
            have hjaz : decide ((j : Int) > (j : Int)) = false := decide_eq_false (by omega)
            have HEnd : Hid (InsS x ([] ++ e :: z2) y2) := HD.out.stop (fun q hq => by cases hq)
            have HL3 : Hid (j + ([] ++ e :: z2 : List OpT).length = i + 1) := by
              show _ = _
              have h1 := HL2.out; have h2 := HL.out
              simp at h1 ⊢
              omega
            go_wp2_with fail
            go_quiet (fail)
            go_wp2
            go_roundw
            case rel =>
              refine ⟨i + 1, [] ++ e :: z2, y2, by go_num, by omega, by omega, HL3, HEnd, ?_, ?_⟩
              · show Row _ _ _ _ _
                have : Row (wq.drewN nq) g N cap _ := HR2.out
                simpa using this
              · exact grown_drewn HG2.out nq
            case measure => simp [intOf]; omega
          · obtain ⟨z0, d, rfl⟩ : ∃ z0 d, z1 = z0 ++ [d] := ⟨z1.dropLast, z1.getLast hz, (List.dropLast_concat_getLast hz).symm⟩
            obtain ⟨jp, rfl⟩ : ∃ jp, j = jp + 1 := ⟨j - 1, by have := HL1.out; simp at this; omega⟩
            have hajp : a ≤ jp := by have := HL1.out; simp at this; omega
            have hja : (a : Int) < (jp : Int) + 1 := by omega
            have hjaz : decide (((jp : Int) + 1) > (a : Int)) = true := decide_eq_true (by omega)
            have hjN : (jp : Int) + 1 < (N : Int) := by omega
            have hjN0 : (jp : Int) < (N : Int) := by omega
            have hz0 : p.length + z0.length = jp := by have h1 := HL1.out; have h2 := HA.out.1; simp at h1; omega
            have elist : p ++ (z0 ++ [d] ++ (e :: (z2 ++ (y2 ++ s)))) = (p ++ z0) ++ d :: e :: (z2 ++ (y2 ++ s)) := by simp
            have hRow : Row wq g N cap ((p ++ z0) ++ d :: e :: (z2 ++ (y2 ++ s))) := by
              have := HR2.out
              rw [elist] at this
              exact this
            have hd : ((p ++ z0) ++ d :: e :: (z2 ++ (y2 ++ s)))[jp]? = some d := by
              rw [← hz0, ← List.length_append]; exact get_mid _ _ _
            have he : ((p ++ z0) ++ d :: e :: (z2 ++ (y2 ++ s)))[jp + 1]? = some e := by
              have := get_mid ((p ++ z0) ++ [d]) (z2 ++ (y2 ++ s)) e
              rw [show ((p ++ z0) ++ [d]).length = jp + 1 by simp; omega] at this
              rw [← this]
              simp
            have hC : ∀ w' : World, Below wq.heap.size wq w' → w'.rangeAt g (jp * 10) (oc d) ∧ w'.rangeAt g ((jp + 1) * 10) (oc e) := fun w' hb => ⟨(hRow.below hb).load hd, (hRow.below hb).load he⟩
            have HCL : Hid (∀ z : WIn (fun w' => Below wq.heap.size wq w'), z.w.rangeAt g (jp * 10) (oc d) ∧ z.w.rangeAt g ((jp + 1) * 10) (oc e)) := fun z => hC z.w z.ok
            have HK : Hid (∀ w' : World, Calls Try.prog 68 #[ov e, ov d] w' fun r w'' => r = .returned (.int .i64 (cmpS e.a d.a)) ∧ Below w'.heap.size w' w'') := fun w' => byAt50 e d w'
            have hcm := cmpS_neg e.a d.a
            have HRow : Hid (Row wq g N cap ((p ++ z0) ++ d :: e :: (z2 ++ (y2 ++ s)))) := hRow
            generalize hrr : cmpS e.a d.a = rr at HK hcm
            have ne : Nonempty (WIn (fun w' => Below wq.heap.size wq w')) := ⟨⟨wq, Below.refl _ _⟩⟩
            clear hrr hC hRow elist
            by_cases hl : LtO e d
            · have hneg : rr < 0 := hcm.2 hl
              have HD2 : Hid (DownS x z0 e (d :: z2) y2) := HD.out.less' hl
              clear hcm
              go_wp2_with fail
              refine wp_region_tree (C := fun w' => ∃ z : WIn (fun w' => Below wq.heap.size wq w'), w' = z.w) (.still 0 (.still 1 (.still 2 (.still 3 (.still 4 (.still 5 (.still 6 (.still 7 (.still 8 (.still 9 (.still 10 (.still 11 (.still 12 (.still 13 (.one 14 (.still 15 (.still 16 .done))))))))))))))))) (by kernel_rfl) (by kernel_rfl) ⟨⟨wq.drew, below_drewn wq 1⟩, rfl⟩ ?_
              iterate 8 (refine tree_still rfl rfl ?_; go_big_quiet_step (fail); refine wpQuiet_nil ?_)
              refine tree_still rfl rfl ?_
              refine quiet_ok1 rfl (fun w' hw' => by obtain ⟨z, rfl⟩ := hw'; exact exec_load26 (q := e) (.tmp 25) rfl rfl (HCL.out z).2) ?_
              go_simp
              iterate 4 (refine tree_still rfl rfl ?_; go_big_quiet_step (fail); refine wpQuiet_nil ?_)
              refine tree_still rfl rfl ?_
              refine quiet_ok1 rfl (fun w' hw' => by obtain ⟨z, rfl⟩ := hw'; exact exec_load26 (q := d) (.tmp 30) rfl rfl (HCL.out z).1) ?_
              go_simp
              refine tree_one rfl rfl ?_
              go_simp
              refine (HK.out _).mono ?_
              rintro r w3 ⟨rfl, hb3⟩
              have HB3 : Hid (Below wq.heap.size wq w3) := bnext (below_drewn wq 1) hb3
              clear hb3
              refine ⟨⟨⟨w3, HB3.out⟩, rfl⟩, ?_⟩
              go_simp
              iterate 2 (refine tree_still rfl rfl ?_; go_big_quiet_step (fail); refine wpQuiet_nil ?_)
              refine tree_done ?_
              clear ne HCL HK
              obtain ⟨wd, hwd⟩ : ∃ wd, wd = w3.drew := ⟨_, rfl⟩
              have HDR : Hid (wd = w3.drew) := hwd
              have R3 : Row wd g N cap ((p ++ z0) ++ d :: e :: (z2 ++ (y2 ++ s))) := by rw [hwd]; exact (HRow.out.below HB3.out).drew
              have G3 : w.grownBy wd (some g) := by rw [hwd]; exact grown_drew (grown_trans HG2.out (below_grown HB3.out) (fun k hk => by cases hk))
              obtain ⟨w1, w2, hw1, hw2, R2, G2, T1, T2⟩ := R3.xchg G3 (i := jp + 1) (j := jp) (by omega) (by omega) e d
              have HW1 : Hid (w1 = wd.setCells g ((jp + 1) * 10) (oc d)) := hw1
              have HW2 : Hid (w2 = w1.setCells g (jp * 10) (oc e)) := hw2
              have HLA : Hid (wd.rangeAt g (jp * 10) (oc d)) := R3.load hd
              have HLB : Hid (wd.rangeAt g ((jp + 1) * 10) (oc e)) := R3.load he
              have HT1 : Hid (wd.there g ((jp + 1) * 10) 10) := T1
              have HT2 : Hid (w1.there g (jp * 10) 10) := T2
              have HREnd : Hid (Row w2 g N cap (p ++ (z0 ++ (e :: (d :: z2 ++ (y2 ++ s)))))) := by
                show Row _ _ _ _ _
                rw [swap_next (p ++ z0) (z2 ++ (y2 ++ s)) d e jp (by simp; omega)] at R2
                simpa using R2
              have HGEnd : Hid (w.grownBy w2 (some g)) := G2
              have HLE : Hid (a + z0.length = jp) := by show _ = _; have := HA.out.1; omega
              have HLE2 : Hid (z0.length + (d :: z2).length = z.length) := by show _ = _; have h1 := HL2.out; rw [List.length_append, List.length_singleton] at h1; rw [List.length_cons]; omega
              clear hwd hw1 hw2 R2 G2 R3 G3 T1 T2 hd he
              go_wp2_with fail
              have ne : Nonempty (WIn (fun _ => True)) := ⟨⟨w3, trivial⟩⟩
              refine wp_region_tree (C := fun w' => ∃ z : WIn (fun _ => True), w' = z.w) (.still 0 (.still 1 (.still 2 (.still 3 (.still 4 (.still 5 (.still 6 (.still 7 (.still 8 (.still 10 (.still 11 (.still 12 (.two 9 (.one 13 (.still 14 (.one 15 (.still 16 (.one 17 .done))))) 13 (.one 9 (.still 14 (.one 15 (.still 16 (.one 17 .done)))))))))))))))))) (by kernel_rfl) (by kernel_rfl) ⟨⟨_, trivial⟩, rfl⟩ ?_
              rw [← HDR.out]
              iterate 12 (refine tree_still rfl rfl ?_; go_big_quiet_step (fail); refine wpQuiet_nil ?_)
              refine tree_two rfl rfl rfl rfl ?_ ?_
              · refine wp_ok (exec_load26 (q := d) (.tmp 45) rfl rfl HLA.out) ?_
                refine ⟨⟨⟨_, trivial⟩, rfl⟩, ?_⟩
                go_simp
                refine tree_one rfl rfl ?_
                refine wp_ok (exec_load26 (q := e) (.tmp 49) rfl rfl HLB.out) ?_
                refine ⟨⟨⟨_, trivial⟩, rfl⟩, ?_⟩
                go_simp
                refine tree_still rfl rfl ?_; go_big_quiet_step (fail); refine wpQuiet_nil ?_
                refine tree_one rfl rfl ?_
                refine wp_skip (exec_store26 (q := d) (.tmp 51) (.tmp 46) rfl rfl rfl HT1.out) ?_
                rw [← HW1.out]
                refine ⟨⟨⟨_, trivial⟩, rfl⟩, ?_⟩
                go_simp
                refine tree_still rfl rfl ?_; go_big_quiet_step (fail); refine wpQuiet_nil ?_
                refine tree_one rfl rfl ?_
                refine wp_skip (exec_store26 (q := e) (.tmp 52) (.tmp 50) rfl rfl rfl HT2.out) ?_
                rw [← HW2.out]
                refine ⟨⟨⟨_, trivial⟩, rfl⟩, ?_⟩
                go_simp
                refine tree_done ?_
                clear ne
                go_wp2
                go_roundw
                case rel => exact ⟨jp, z0, d :: z2, by go_num, hajp, by omega, HLE, HLE2, HD2, HREnd, HGEnd⟩
                case measure => simp [intOf] <;> omega
              · refine wp_ok (exec_load26 (q := e) (.tmp 49) rfl rfl HLB.out) ?_
                refine ⟨⟨⟨_, trivial⟩, rfl⟩, ?_⟩
                go_simp
                refine tree_one rfl rfl ?_
                refine wp_ok (exec_load26 (q := d) (.tmp 45) rfl rfl HLA.out) ?_
                refine ⟨⟨⟨_, trivial⟩, rfl⟩, ?_⟩
                go_simp
                refine tree_still rfl rfl ?_; go_big_quiet_step (fail); refine wpQuiet_nil ?_
                refine tree_one rfl rfl ?_
                refine wp_skip (exec_store26 (q := d) (.tmp 51) (.tmp 46) rfl rfl rfl HT1.out) ?_
                rw [← HW1.out]
                refine ⟨⟨⟨_, trivial⟩, rfl⟩, ?_⟩
                go_simp
                refine tree_still rfl rfl ?_; go_big_quiet_step (fail); refine wpQuiet_nil ?_
                refine tree_one rfl rfl ?_
                refine wp_skip (exec_store26 (q := e) (.tmp 52) (.tmp 50) rfl rfl rfl HT2.out) ?_
                rw [← HW2.out]
                refine ⟨⟨⟨_, trivial⟩, rfl⟩, ?_⟩
                go_simp
                refine tree_done ?_
                clear ne
                go_wp2
                go_roundw
                case rel => exact ⟨jp, z0, d :: z2, by go_num, hajp, by omega, HLE, HLE2, HD2, HREnd, HGEnd⟩
                case measure => simp [intOf] <;> omega
            · have hneg : ¬ rr < 0 := fun h => hl (hcm.1 h)
              have HEnd : Hid (InsS x ((z0 ++ [d]) ++ e :: z2) y2) := HD.out.stop (HD.out.top hl)
              have HL3 : Hid (a + ((z0 ++ [d]) ++ e :: z2 : List OpT).length = i + 1) := by
                show _ = _
                have h1 := HL2.out; have h2 := HL.out
                simp at h1 ⊢
                omega
              clear hcm
              go_wp2_with fail
              refine wp_region_tree (C := fun w' => ∃ z : WIn (fun w' => Below wq.heap.size wq w'), w' = z.w) (.still 0 (.still 1 (.still 2 (.still 3 (.still 4 (.still 5 (.still 6 (.still 7 (.still 8 (.still 9 (.still 10 (.still 11 (.still 12 (.still 13 (.one 14 (.still 15 (.still 16 .done))))))))))))))))) (by kernel_rfl) (by kernel_rfl) ⟨⟨wq.drew, below_drewn wq 1⟩, rfl⟩ ?_
              iterate 8 (refine tree_still rfl rfl ?_; go_big_quiet_step (fail); refine wpQuiet_nil ?_)
              refine tree_still rfl rfl ?_
              refine quiet_ok1 rfl (fun w' hw' => by obtain ⟨z, rfl⟩ := hw'; exact exec_load26 (q := e) (.tmp 25) rfl rfl (HCL.out z).2) ?_
              go_simp
              iterate 4 (refine tree_still rfl rfl ?_; go_big_quiet_step (fail); refine wpQuiet_nil ?_)
              refine tree_still rfl rfl ?_
              refine quiet_ok1 rfl (fun w' hw' => by obtain ⟨z, rfl⟩ := hw'; exact exec_load26 (q := d) (.tmp 30) rfl rfl (HCL.out z).1) ?_
              go_simp
              refine tree_one rfl rfl ?_
              go_simp
              refine (HK.out _).mono ?_
              rintro r w3 ⟨rfl, hb3⟩
              have HB3 : Hid (Below wq.heap.size wq w3) := bnext (below_drewn wq 1) hb3
              clear hb3
              refine ⟨⟨⟨w3, HB3.out⟩, rfl⟩, ?_⟩
              go_simp
              iterate 2 (refine tree_still rfl rfl ?_; go_big_quiet_step (fail); refine wpQuiet_nil ?_)
              refine tree_done ?_
              clear ne HCL HK
              go_wp2
              go_roundw
              case rel =>
                refine ⟨i + 1, (z0 ++ [d]) ++ e :: z2, y2, by go_num, by omega, by omega, HL3, HEnd, ?_, ?_⟩
                · show Row _ _ _ _ _
                  have : Row w3 g N cap _ := HRow.out.below HB3.out
                  simpa using this
                · exact grown_trans HG2.out (below_grown HB3.out) (fun k hk => by cases hk)
              case measure => simp [intOf]; omega
      · obtain rfl : i = b := by omega
        have hlt' : ¬ (i : Int) < (i : Int) := by omega
        have hy : y = [] := by
          have h1 := HI.out.len; have h2 := HL.out; have h3 := HA.out.2
          exact List.eq_nil_of_length_eq_zero (by omega)
        subst hy
        go_wp2
        go_end0
        exact ⟨rfl, z, HI.out, HR1.out, HG1.out⟩
end Go.Proofs.Ythnjbjlhfohpfaa
