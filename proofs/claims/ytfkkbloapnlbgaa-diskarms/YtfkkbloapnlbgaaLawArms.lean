/-
  An armed disk takes just so many writes more: the walk of DiskArms.
-/
import Derived.Test.YtfkkbloapnlbgaaLawD
namespace Go.Proofs.Ytfkkbloapnlbgaa
set_option linter.unusedVariables false
set_option linter.unusedSimpArgs false
set_option synthInstance.maxSize 20000
set_option maxHeartbeats 4000000
set_option maxRecDepth 20000
open Go.RowKit Go.Maps

/-- What an armed disk is behind c writes that were OK. -/
structure ArmI (D : Dk) (n c : Int) : Prop where
  armed : D.armed = true
  len : D.now.length = 6
  wr : D.writes = c
  left : D.down = false → D.left = n - c
  c0 : 0 ≤ c
  cn : c ≤ n
theorem armI_zero (n : Int) (hn : 0 ≤ n) : ArmI { newD 6 with armed := true, left := n } n 0 := ⟨rfl, rfl, rfl, fun _ => by simp, by omega, hn⟩
theorem write_down {D : Dk} {i : Int} {l : List Int} (h : D.down = true) : D.write i l = (19, D) := by
  unfold Dk.write Dk.reach
  simp [h]
theorem write_range {D : Dk} {i : Int} {l : List Int} (h : D.down = false) (hi : i < 0 ∨ (D.now.length : Int) ≤ i) : D.write i l = (2, D) := by
  unfold Dk.write Dk.reach
  simp [h, hi]
theorem write_short {D : Dk} {i : Int} {l : List Int} (h : D.down = false) (hi : ¬ (i < 0 ∨ (D.now.length : Int) ≤ i)) (hl : l.length ≠ 64) : D.write i l = (1, D) := by
  unfold Dk.write Dk.reach
  simp [h, hi, hl]
theorem write_fall {D : Dk} {i : Int} {l : List Int} (h : D.down = false) (hi : ¬ (i < 0 ∨ (D.now.length : Int) ≤ i)) (hl : l.length = 64) (ha : D.armed = true) (h0 : D.left = 0) : D.write i l = (19, D.fall i.toNat) := by
  unfold Dk.write Dk.reach
  simp [h, hi, hl, ha, h0]
theorem write_put {D : Dk} {i : Int} {l : List Int} (h : D.down = false) (hi : ¬ (i < 0 ∨ (D.now.length : Int) ≤ i)) (hl : l.length = 64) (h0 : ¬ (D.armed = true ∧ D.left = 0)) : D.write i l = (0, D.put i.toNat (mkS l)) := by
  unfold Dk.write Dk.reach
  rw [if_neg (by simp [h, hi]), if_neg (by simp [hl]), if_neg h0]
theorem ArmI.fall {D : Dk} {n c : Int} (h : ArmI D n c) (i : Nat) : ArmI (D.fall i) n c := ⟨h.armed, h.len, h.wr, (fun e => by cases e), h.c0, h.cn⟩
theorem ArmI.put {D : Dk} {n c : Int} (h : ArmI D n c) (hd : D.down = false) (hc : c < n) (i : Nat) (s : Sec) : ArmI (D.put i s) n (c + 1) := by
  refine ⟨h.armed, by simp [Dk.put, h.len], by simp [Dk.put, h.wr], fun _ => ?_, by have := h.c0; omega, by omega⟩
  have := h.left hd
  simp only [Dk.put]
  rw [if_pos h.armed]
  omega
/-- The state at a round's head. -/
def ArmW (w wr : World) (b k : Nat) (n c : Int) : Prop := ∃ o' D, DIs wr o' 5 b D ∧ DOk D k ∧ ArmI D n c ∧ Mv [5] w (fun _ => 0) wr o'
theorem mv5_below {w w' : World} {o' : Nat → Nat} (m : Mv [5] w (fun _ => 0) w' o') : Below w.heap.size w w' := m.below (Nat.le_refl _) (fun k hk => by simp)

theorem arms_walk (n : Int) (v : Value) (l : List (OpD × Value)) (w : World) (hI : I64 n) (hrd : RowF oc w v l) (hE : OpsOk w l) :
    Calls Try.prog 6 #[.int .i64 n, v] w fun e w' => e = .returned (.bool true) ∧ Below w.heap.size w w' := by
  obtain ⟨a, cap, rfl⟩ := hrd.len
  have hcap := hrd.caps.2
  have HAl : Hid (∀ w', Calls Try.prog 8 #[] w' fun r w2 => r = .returned (.bool true) ∧ Below w'.heap.size w' w2) := fun w' => alive_any w'
  have HLi : Hid (Calls Try.prog 7 #[.slice a l.length cap] w fun r w2 => r = .returned (.bool (lightB l)) ∧ w2 = w) := light_any hrd hE
  by_cases c1 : n < 0
  · clear hrd hE HLi
    go_enter Try.func6, Try.ntmps6
    go_wp2_with (go_at_call 8; go_must (refine (HAl.out w).mono ?_; rintro r w2 ⟨rfl, hb2⟩))
    go_ret
    exact ⟨rfl, hb2⟩
  by_cases c2 : 50 < n
  · clear hrd hE HLi
    go_enter Try.func6, Try.ntmps6
    go_wp2_with (go_at_call 8; go_must (refine (HAl.out w).mono ?_; rintro r w2 ⟨rfl, hb2⟩))
    go_ret
    exact ⟨rfl, hb2⟩
  cases hli : lightB l
  · rw [hli] at HLi
    clear hrd hE hli
    go_enter Try.func6, Try.ntmps6
    go_wp2_with (first
      | (go_at_call 7; go_must (refine HLi.out.mono ?_; rintro r w2 ⟨rfl, hw2⟩; replace hw2 := hw2.symm; subst hw2))
      | (go_at_call 8; go_must (refine (HAl.out w).mono ?_; rintro r w2 ⟨rfl, hb2⟩)))
    go_ret
    exact ⟨rfl, hb2⟩
  rw [hli] at HLi
  have hfew := (light_few hli).1
  have HN : Hid (Calls Try.prog 9 #[.int .i64 6] w fun r w' => r = .returned (.tuple #[ptr (w.heap.size + 2), .int .i64 0]) ∧ DIs w' (newTo (fun _ => 0) w 5) 5 (w.heap.size + 2) (newD 6) ∧ Below w.heap.size w w') := dnew_any w (fun _ => 0) 5 6 (by omega) (by omega) (by omega)
  have HAr : Hid (∀ (w1 : World), DIs w1 (newTo (fun _ => 0) w 5) 5 (w.heap.size + 2) (newD 6) → Below w.heap.size w w1 → Calls Try.prog 20 #[ptr (w.heap.size + 2), .int .i64 n] w1 fun r w2 => r = .returned (.int .i64 0) ∧ ArmW w w2 (w.heap.size + 2) 0 n 0) := fun w1 h hb => by
    obtain ⟨gv, nv, pv, d⟩ := h
    refine (arm_any d n).mono ?_
    have e : (newD 6).arm n = (0, { newD 6 with armed := true, left := n }) := by
      unfold Dk.arm
      rw [if_neg (by simp [newD]), if_neg c1]
    have hok := (newD_ok 6 (by omega) (by omega)).arm (n := n) (by omega)
    rw [e] at hok ⊢
    rintro r w2 ⟨rfl, o2, d2, m2⟩
    exact ⟨rfl, o2, _, d2, hok, armI_zero n (by omega), (Mv.of_below 5 hb).trans m2⟩
  have HV : Hid (RowF oc w (.slice a l.length cap) l) := hrd
  have HE : Hid (OpsOk w l) := hE
  clear hrd hE hli
  go_enter Try.func6, Try.ntmps6
  go_wp2_with (first
    | (go_at_call 7; go_must (refine HLi.out.mono ?_; rintro r w2 ⟨rfl, hw2⟩; replace hw2 := hw2.symm; subst hw2))
    | (go_at_call 9; go_must (refine HN.out.mono ?_; rintro r w1 ⟨rfl, hB1, hb1⟩; have HB1 : Hid (DIs w1 (newTo (fun _ => 0) w 5) 5 (w.heap.size + 2) (newD 6)) := hB1; have Hb1 : Hid (Below w.heap.size w w1) := hb1; clear hB1 hb1))
    | (go_at_call 20; go_must (refine (HAr.out w1 HB1.out Hb1.out).mono ?_; rintro r w2 ⟨rfl, h2⟩; have HS : Hid (ArmW w w2 (w.heap.size + 2) 0 n 0) := h2; clear h2)))
  go_loopw [7, 8] (fun g i wr => ∃ (k : Nat) (c : Int), g = .int .i64 c ∧ i = .int .i64 k ∧ k ≤ l.length ∧ 0 ≤ c ∧ c ≤ 50 ∧ Hid (ArmW w wr (w.heap.size + 2) k n c)) (fun _ i _ => l.length - (intOf i).toNat)
  case atStart => exact ⟨0, 0, rfl, rfl, by omega, by omega, by omega, HS⟩
  case round =>
    obtain ⟨k, c, rfl, rfl, hk, hc0, hc50, HI⟩ := hrel
    clear HLi HN HAr HB1 Hb1 HS
    by_cases hkl : k < l.length
    · obtain ⟨o', D, hD, hOk, hA, hM⟩ := HI.out
      have hcn := hA.cn
      have hbw : Below w.heap.size w wr := mv5_below hM
      obtain ⟨q, hq⟩ : ∃ q, l[k]? = some q := ⟨_, List.getElem?_eq_getElem hkl⟩
      obtain ⟨g, off, ea, hr⟩ := HV.out.at oc_len hq
      subst ea
      have hqo := HE.out q (List.mem_of_getElem? hq)
      have hr' : ∀ w' : World, Below w.heap.size w w' → w'.rangeAt g (off + k * 5) (oc q) := fun w' hb => rangeAt_blocks hr (fun hlt => hb.block g hlt)
      have x0 := hr' wr hbw 0 _ rfl
      have e1 := fun z : WIn (Below w.heap.size w) => hr' z.w z.ok 1 _ rfl
      have e2 := fun z : WIn (Below w.heap.size w) => hr' z.w z.ok 2 _ rfl
      have e3 := fun z : WIn (Below w.heap.size w) => hr' z.w z.ok 3 _ rfl
      have hqn := hqo.n
      have hqy := hqo.y
      have hk3 : (k : Int) < (l.length : Int) := by omega
      clear hr hr' hqo hq
      obtain ⟨⟨qk, qn, qy, qs, qks⟩, qv⟩ := q
      dsimp only at *
      simp only [Nat.add_zero] at x0
      by_cases hk0 : qk = 0
      · subst hk0
        have HSec : Hid (∀ w', Calls Try.prog 18 #[.int .u8 qy, .bool qs] w' fun r w2 => ∃ v, r = .returned v ∧ Own w'.heap.size 5 w2 v (secL qy qs) ∧ Below w'.heap.size w' w2) := fun w' => sector_any w' qy qs hqy
        have HDn : Hid (Calls Try.prog 14 #[ptr (w.heap.size + 2)] wr fun r w2 => r = .returned (.bool D.down) ∧ w2 = wr) := by
          obtain ⟨gv, nv, pv, d⟩ := hD
          exact down_any d
        have HBd : Hid (Below w.heap.size w wr.drew) := (show Below _ _ _ from ⟨hbw.os, hbw.tape, hbw.output, hbw.size, hbw.block⟩)
        have HBn : Hid (∀ w3, Below wr.drew.heap.size wr.drew w3 → Below w.heap.size w w3) := fun w3 h => HBd.out.trans (h.mono HBd.out.size)
        have hlen := hA.len
        cases hdn : D.down
        · rw [hdn] at HDn
          by_cases hn0 : qn < 0
          · skip
            have HWr : Hid (∀ (w3 : World) (v : Value), Below wr.drew.heap.size wr.drew w3 → Rd w3 v (secL qy qs) → Calls Try.prog 17 #[ptr (w.heap.size + 2), .int .i64 qn, v] w3 fun r w4 => r = .returned (.int .i64 2) ∧ ArmW w w4 (w.heap.size + 2) (k + 1) n (c)) := fun w3 v hb hr => by
              have m3 : Mv [5] wr o' w3 (newTo o' wr 0) := mv_undrew (Mv.of_below 0 hb)
              obtain ⟨gv, nv, pv, d⟩ := hD.mv (mv_undrew (Mv.of_below (I := []) 0 hb)) (by simp)
              refine (write_any d hOk (by omega) qn hr).mono ?_
              rintro r w4 ⟨rfl, o4, d4, m4⟩
              have hok4 := hOk.write (i := qn) (l := secL qy qs)
              rw [write_range hdn (.inl hn0)] at d4 hok4 ⊢
              exact ⟨rfl, o4, _, d4, hok4, hA, (hM.trans m3).trans m4⟩
            clear hD hOk hA hM hbw HI hlen
            go_upto_region 12 with (go_at_call 14; go_must (refine HDn.out.mono ?_; rintro r w2 ⟨rfl, hw2⟩; replace hw2 := hw2.symm; subst hw2))
            have ne : Nonempty (WIn (Below w.heap.size w)) := ⟨⟨w, Below.refl _ _⟩⟩
            refine wp_region_tree (C := fun w' => ∃ z : WIn (Below w.heap.size w), w' = z.w) (.still 0 (.still 1 (.still 2 (.still 3 (.still 4 (.still 5 (.still 6 (.still 7 (.still 8 (.still 9 (.still 10 (.still 11 (.still 12 (.still 13 (.still 14 (.still 15 (.one 16 (.one 17 (.still 18 .done))))))))))))))))))) (by kernel_rfl) (by kernel_rfl) ⟨⟨wr.drew, HBd.out⟩, rfl⟩ ?_
            generalize wr.drew = wd at *
            iterate 16 (refine tree_still rfl rfl ?_; go_big_quiet_step (fail); refine wpQuiet_nil ?_)
            refine tree_one rfl rfl ?_
            go_simp
            refine (HSec.out wd).mono ?_
            rintro r w3 ⟨v3, rfl, hO3, hb3⟩
            obtain ⟨a3, q3, hv3⟩ := hO3.rd.len
            subst hv3
            have HWr3 := HWr.out w3 _ (hb3) hO3.rd
            have HB3 : Hid (Below w.heap.size w w3) := HBn.out w3 hb3
            clear hO3 hb3
            refine ⟨⟨⟨_, HB3.out⟩, rfl⟩, ?_⟩
            refine tree_one rfl rfl ?_
            go_simp
            refine HWr3.mono ?_
            rintro r w4 ⟨rfl, h4⟩
            have HS4 : Hid (ArmW w w4 (w.heap.size + 2) (k + 1) n (c)) := h4
            have HB4 : Hid (Below w.heap.size w w4) := by obtain ⟨o4, D4, _, _, _, m4⟩ := h4; exact mv5_below m4
            clear h4 HWr3
            refine ⟨⟨⟨_, HB4.out⟩, rfl⟩, ?_⟩
            refine tree_still rfl rfl ?_
            go_big_quiet_step (fail)
            refine wpQuiet_nil ?_
            refine tree_done ?_
            have x1 := e1 ⟨w4, HB4.out⟩
            have x3 := e3 ⟨w4, HB4.out⟩
            clear e1 e2 e3 ne
            go_wp2
            all_goals
              go_roundw
              case rel => exact ⟨k + 1, c, by go_num, by go_num, by omega, by omega, by omega, HS4⟩
              case measure => simp [intOf]; omega
          · by_cases hn6 : 6 ≤ qn
            · skip
              have HWr : Hid (∀ (w3 : World) (v : Value), Below wr.drew.heap.size wr.drew w3 → Rd w3 v (secL qy qs) → Calls Try.prog 17 #[ptr (w.heap.size + 2), .int .i64 qn, v] w3 fun r w4 => r = .returned (.int .i64 2) ∧ ArmW w w4 (w.heap.size + 2) (k + 1) n (c)) := fun w3 v hb hr => by
                have m3 : Mv [5] wr o' w3 (newTo o' wr 0) := mv_undrew (Mv.of_below 0 hb)
                obtain ⟨gv, nv, pv, d⟩ := hD.mv (mv_undrew (Mv.of_below (I := []) 0 hb)) (by simp)
                refine (write_any d hOk (by omega) qn hr).mono ?_
                rintro r w4 ⟨rfl, o4, d4, m4⟩
                have hok4 := hOk.write (i := qn) (l := secL qy qs)
                rw [write_range hdn (.inr (by rw [hlen]; omega))] at d4 hok4 ⊢
                exact ⟨rfl, o4, _, d4, hok4, hA, (hM.trans m3).trans m4⟩
              clear hD hOk hA hM hbw HI hlen
              go_upto_region 12 with (go_at_call 14; go_must (refine HDn.out.mono ?_; rintro r w2 ⟨rfl, hw2⟩; replace hw2 := hw2.symm; subst hw2))
              have ne : Nonempty (WIn (Below w.heap.size w)) := ⟨⟨w, Below.refl _ _⟩⟩
              refine wp_region_tree (C := fun w' => ∃ z : WIn (Below w.heap.size w), w' = z.w) (.still 0 (.still 1 (.still 2 (.still 3 (.still 4 (.still 5 (.still 6 (.still 7 (.still 8 (.still 9 (.still 10 (.still 11 (.still 12 (.still 13 (.still 14 (.still 15 (.one 16 (.one 17 (.still 18 .done))))))))))))))))))) (by kernel_rfl) (by kernel_rfl) ⟨⟨wr.drew, HBd.out⟩, rfl⟩ ?_
              generalize wr.drew = wd at *
              iterate 16 (refine tree_still rfl rfl ?_; go_big_quiet_step (fail); refine wpQuiet_nil ?_)
              refine tree_one rfl rfl ?_
              go_simp
              refine (HSec.out wd).mono ?_
              rintro r w3 ⟨v3, rfl, hO3, hb3⟩
              obtain ⟨a3, q3, hv3⟩ := hO3.rd.len
              subst hv3
              have HWr3 := HWr.out w3 _ (hb3) hO3.rd
              have HB3 : Hid (Below w.heap.size w w3) := HBn.out w3 hb3
              clear hO3 hb3
              refine ⟨⟨⟨_, HB3.out⟩, rfl⟩, ?_⟩
              refine tree_one rfl rfl ?_
              go_simp
              refine HWr3.mono ?_
              rintro r w4 ⟨rfl, h4⟩
              have HS4 : Hid (ArmW w w4 (w.heap.size + 2) (k + 1) n (c)) := h4
              have HB4 : Hid (Below w.heap.size w w4) := by obtain ⟨o4, D4, _, _, _, m4⟩ := h4; exact mv5_below m4
              clear h4 HWr3
              refine ⟨⟨⟨_, HB4.out⟩, rfl⟩, ?_⟩
              refine tree_still rfl rfl ?_
              go_big_quiet_step (fail)
              refine wpQuiet_nil ?_
              refine tree_done ?_
              have x1 := e1 ⟨w4, HB4.out⟩
              have x3 := e3 ⟨w4, HB4.out⟩
              clear e1 e2 e3 ne
              go_wp2
              all_goals
                go_roundw
                case rel => exact ⟨k + 1, c, by go_num, by go_num, by omega, by omega, by omega, HS4⟩
                case measure => simp [intOf]; omega
            · cases qs
              · by_cases hcn2 : c < n
                · skip
                  have HWr : Hid (∀ (w3 : World) (v : Value), Below wr.drew.heap.size wr.drew w3 → Rd w3 v (secL qy false) → Calls Try.prog 17 #[ptr (w.heap.size + 2), .int .i64 qn, v] w3 fun r w4 => r = .returned (.int .i64 0) ∧ ArmW w w4 (w.heap.size + 2) (k + 1) n (c + 1)) := fun w3 v hb hr => by
                    have m3 : Mv [5] wr o' w3 (newTo o' wr 0) := mv_undrew (Mv.of_below 0 hb)
                    obtain ⟨gv, nv, pv, d⟩ := hD.mv (mv_undrew (Mv.of_below (I := []) 0 hb)) (by simp)
                    refine (write_any d hOk (by omega) qn hr).mono ?_
                    rintro r w4 ⟨rfl, o4, d4, m4⟩
                    have hok4 := hOk.write (i := qn) (l := secL qy false)
                    rw [write_put hdn (by rw [hlen]; omega) (secL_len _ _) (fun h => by have := hA.left hdn; omega)] at d4 hok4 ⊢
                    exact ⟨rfl, o4, _, d4, hok4, hA.put hdn hcn2 _ _, (hM.trans m3).trans m4⟩
                  clear hD hOk hA hM hbw HI hlen
                  go_upto_region 12 with (go_at_call 14; go_must (refine HDn.out.mono ?_; rintro r w2 ⟨rfl, hw2⟩; replace hw2 := hw2.symm; subst hw2))
                  have ne : Nonempty (WIn (Below w.heap.size w)) := ⟨⟨w, Below.refl _ _⟩⟩
                  refine wp_region_tree (C := fun w' => ∃ z : WIn (Below w.heap.size w), w' = z.w) (.still 0 (.still 1 (.still 2 (.still 3 (.still 4 (.still 5 (.still 6 (.still 7 (.still 8 (.still 9 (.still 10 (.still 11 (.still 12 (.still 13 (.still 14 (.still 15 (.one 16 (.one 17 (.still 18 .done))))))))))))))))))) (by kernel_rfl) (by kernel_rfl) ⟨⟨wr.drew, HBd.out⟩, rfl⟩ ?_
                  generalize wr.drew = wd at *
                  iterate 16 (refine tree_still rfl rfl ?_; go_big_quiet_step (fail); refine wpQuiet_nil ?_)
                  refine tree_one rfl rfl ?_
                  go_simp
                  refine (HSec.out wd).mono ?_
                  rintro r w3 ⟨v3, rfl, hO3, hb3⟩
                  obtain ⟨a3, q3, hv3⟩ := hO3.rd.len
                  subst hv3
                  have HWr3 := HWr.out w3 _ (hb3) hO3.rd
                  have HB3 : Hid (Below w.heap.size w w3) := HBn.out w3 hb3
                  clear hO3 hb3
                  refine ⟨⟨⟨_, HB3.out⟩, rfl⟩, ?_⟩
                  refine tree_one rfl rfl ?_
                  go_simp
                  refine HWr3.mono ?_
                  rintro r w4 ⟨rfl, h4⟩
                  have HS4 : Hid (ArmW w w4 (w.heap.size + 2) (k + 1) n (c + 1)) := h4
                  have HB4 : Hid (Below w.heap.size w w4) := by obtain ⟨o4, D4, _, _, _, m4⟩ := h4; exact mv5_below m4
                  clear h4 HWr3
                  refine ⟨⟨⟨_, HB4.out⟩, rfl⟩, ?_⟩
                  refine tree_still rfl rfl ?_
                  go_big_quiet_step (fail)
                  refine wpQuiet_nil ?_
                  refine tree_done ?_
                  have x1 := e1 ⟨w4, HB4.out⟩
                  have x3 := e3 ⟨w4, HB4.out⟩
                  clear e1 e2 e3 ne
                  go_wp2
                  all_goals
                    go_roundw
                    case rel => exact ⟨k + 1, c + 1, by go_num, by go_num, by omega, by omega, by omega, HS4⟩
                    case measure => simp [intOf]; omega
                · skip
                  have HWr : Hid (∀ (w3 : World) (v : Value), Below wr.drew.heap.size wr.drew w3 → Rd w3 v (secL qy false) → Calls Try.prog 17 #[ptr (w.heap.size + 2), .int .i64 qn, v] w3 fun r w4 => r = .returned (.int .i64 19) ∧ ArmW w w4 (w.heap.size + 2) (k + 1) n (c)) := fun w3 v hb hr => by
                    have m3 : Mv [5] wr o' w3 (newTo o' wr 0) := mv_undrew (Mv.of_below 0 hb)
                    obtain ⟨gv, nv, pv, d⟩ := hD.mv (mv_undrew (Mv.of_below (I := []) 0 hb)) (by simp)
                    refine (write_any d hOk (by omega) qn hr).mono ?_
                    rintro r w4 ⟨rfl, o4, d4, m4⟩
                    have hok4 := hOk.write (i := qn) (l := secL qy false)
                    rw [write_fall hdn (by rw [hlen]; omega) (secL_len _ _) hA.armed (by have := hA.left hdn; omega)] at d4 hok4 ⊢
                    exact ⟨rfl, o4, _, d4, hok4, hA.fall _, (hM.trans m3).trans m4⟩
                  clear hD hOk hA hM hbw HI hlen
                  go_upto_region 12 with (go_at_call 14; go_must (refine HDn.out.mono ?_; rintro r w2 ⟨rfl, hw2⟩; replace hw2 := hw2.symm; subst hw2))
                  have ne : Nonempty (WIn (Below w.heap.size w)) := ⟨⟨w, Below.refl _ _⟩⟩
                  refine wp_region_tree (C := fun w' => ∃ z : WIn (Below w.heap.size w), w' = z.w) (.still 0 (.still 1 (.still 2 (.still 3 (.still 4 (.still 5 (.still 6 (.still 7 (.still 8 (.still 9 (.still 10 (.still 11 (.still 12 (.still 13 (.still 14 (.still 15 (.one 16 (.one 17 (.still 18 .done))))))))))))))))))) (by kernel_rfl) (by kernel_rfl) ⟨⟨wr.drew, HBd.out⟩, rfl⟩ ?_
                  generalize wr.drew = wd at *
                  iterate 16 (refine tree_still rfl rfl ?_; go_big_quiet_step (fail); refine wpQuiet_nil ?_)
                  refine tree_one rfl rfl ?_
                  go_simp
                  refine (HSec.out wd).mono ?_
                  rintro r w3 ⟨v3, rfl, hO3, hb3⟩
                  obtain ⟨a3, q3, hv3⟩ := hO3.rd.len
                  subst hv3
                  have HWr3 := HWr.out w3 _ (hb3) hO3.rd
                  have HB3 : Hid (Below w.heap.size w w3) := HBn.out w3 hb3
                  clear hO3 hb3
                  refine ⟨⟨⟨_, HB3.out⟩, rfl⟩, ?_⟩
                  refine tree_one rfl rfl ?_
                  go_simp
                  refine HWr3.mono ?_
                  rintro r w4 ⟨rfl, h4⟩
                  have HS4 : Hid (ArmW w w4 (w.heap.size + 2) (k + 1) n (c)) := h4
                  have HB4 : Hid (Below w.heap.size w w4) := by obtain ⟨o4, D4, _, _, _, m4⟩ := h4; exact mv5_below m4
                  clear h4 HWr3
                  refine ⟨⟨⟨_, HB4.out⟩, rfl⟩, ?_⟩
                  refine tree_still rfl rfl ?_
                  go_big_quiet_step (fail)
                  refine wpQuiet_nil ?_
                  refine tree_done ?_
                  have x1 := e1 ⟨w4, HB4.out⟩
                  have x3 := e3 ⟨w4, HB4.out⟩
                  clear e1 e2 e3 ne
                  go_wp2
                  all_goals
                    go_roundw
                    case rel => exact ⟨k + 1, c, by go_num, by go_num, by omega, by omega, by omega, HS4⟩
                    case measure => simp [intOf]; omega
              · skip
                have HWr : Hid (∀ (w3 : World) (v : Value), Below wr.drew.heap.size wr.drew w3 → Rd w3 v (secL qy true) → Calls Try.prog 17 #[ptr (w.heap.size + 2), .int .i64 qn, v] w3 fun r w4 => r = .returned (.int .i64 1) ∧ ArmW w w4 (w.heap.size + 2) (k + 1) n (c)) := fun w3 v hb hr => by
                  have m3 : Mv [5] wr o' w3 (newTo o' wr 0) := mv_undrew (Mv.of_below 0 hb)
                  obtain ⟨gv, nv, pv, d⟩ := hD.mv (mv_undrew (Mv.of_below (I := []) 0 hb)) (by simp)
                  refine (write_any d hOk (by omega) qn hr).mono ?_
                  rintro r w4 ⟨rfl, o4, d4, m4⟩
                  have hok4 := hOk.write (i := qn) (l := secL qy true)
                  rw [write_short hdn (by rw [hlen]; omega) (by rw [secL_len]; decide)] at d4 hok4 ⊢
                  exact ⟨rfl, o4, _, d4, hok4, hA, (hM.trans m3).trans m4⟩
                clear hD hOk hA hM hbw HI hlen
                go_upto_region 12 with (go_at_call 14; go_must (refine HDn.out.mono ?_; rintro r w2 ⟨rfl, hw2⟩; replace hw2 := hw2.symm; subst hw2))
                have ne : Nonempty (WIn (Below w.heap.size w)) := ⟨⟨w, Below.refl _ _⟩⟩
                refine wp_region_tree (C := fun w' => ∃ z : WIn (Below w.heap.size w), w' = z.w) (.still 0 (.still 1 (.still 2 (.still 3 (.still 4 (.still 5 (.still 6 (.still 7 (.still 8 (.still 9 (.still 10 (.still 11 (.still 12 (.still 13 (.still 14 (.still 15 (.one 16 (.one 17 (.still 18 .done))))))))))))))))))) (by kernel_rfl) (by kernel_rfl) ⟨⟨wr.drew, HBd.out⟩, rfl⟩ ?_
                generalize wr.drew = wd at *
                iterate 16 (refine tree_still rfl rfl ?_; go_big_quiet_step (fail); refine wpQuiet_nil ?_)
                refine tree_one rfl rfl ?_
                go_simp
                refine (HSec.out wd).mono ?_
                rintro r w3 ⟨v3, rfl, hO3, hb3⟩
                obtain ⟨a3, q3, hv3⟩ := hO3.rd.len
                subst hv3
                have HWr3 := HWr.out w3 _ (hb3) hO3.rd
                have HB3 : Hid (Below w.heap.size w w3) := HBn.out w3 hb3
                clear hO3 hb3
                refine ⟨⟨⟨_, HB3.out⟩, rfl⟩, ?_⟩
                refine tree_one rfl rfl ?_
                go_simp
                refine HWr3.mono ?_
                rintro r w4 ⟨rfl, h4⟩
                have HS4 : Hid (ArmW w w4 (w.heap.size + 2) (k + 1) n (c)) := h4
                have HB4 : Hid (Below w.heap.size w w4) := by obtain ⟨o4, D4, _, _, _, m4⟩ := h4; exact mv5_below m4
                clear h4 HWr3
                refine ⟨⟨⟨_, HB4.out⟩, rfl⟩, ?_⟩
                refine tree_still rfl rfl ?_
                go_big_quiet_step (fail)
                refine wpQuiet_nil ?_
                refine tree_done ?_
                have x1 := e1 ⟨w4, HB4.out⟩
                have x3 := e3 ⟨w4, HB4.out⟩
                clear e1 e2 e3 ne
                go_wp2
                all_goals
                  go_roundw
                  case rel => exact ⟨k + 1, c, by go_num, by go_num, by omega, by omega, by omega, HS4⟩
                  case measure => simp [intOf]; omega
        · rw [hdn] at HDn
          have HWr : Hid (∀ (w3 : World) (v : Value), Below wr.drew.heap.size wr.drew w3 → Rd w3 v (secL qy qs) → Calls Try.prog 17 #[ptr (w.heap.size + 2), .int .i64 qn, v] w3 fun r w4 => r = .returned (.int .i64 19) ∧ ArmW w w4 (w.heap.size + 2) (k + 1) n (c)) := fun w3 v hb hr => by
            have m3 : Mv [5] wr o' w3 (newTo o' wr 0) := mv_undrew (Mv.of_below 0 hb)
            obtain ⟨gv, nv, pv, d⟩ := hD.mv (mv_undrew (Mv.of_below (I := []) 0 hb)) (by simp)
            refine (write_any d hOk (by omega) qn hr).mono ?_
            rintro r w4 ⟨rfl, o4, d4, m4⟩
            have hok4 := hOk.write (i := qn) (l := secL qy qs)
            rw [write_down hdn] at d4 hok4 ⊢
            exact ⟨rfl, o4, _, d4, hok4, hA, (hM.trans m3).trans m4⟩
          clear hD hOk hA hM hbw HI hlen
          go_upto_region 12 with (go_at_call 14; go_must (refine HDn.out.mono ?_; rintro r w2 ⟨rfl, hw2⟩; replace hw2 := hw2.symm; subst hw2))
          have ne : Nonempty (WIn (Below w.heap.size w)) := ⟨⟨w, Below.refl _ _⟩⟩
          refine wp_region_tree (C := fun w' => ∃ z : WIn (Below w.heap.size w), w' = z.w) (.still 0 (.still 1 (.still 2 (.still 3 (.still 4 (.still 5 (.still 6 (.still 7 (.still 8 (.still 9 (.still 10 (.still 11 (.still 12 (.still 13 (.still 14 (.still 15 (.one 16 (.one 17 (.still 18 .done))))))))))))))))))) (by kernel_rfl) (by kernel_rfl) ⟨⟨wr.drew, HBd.out⟩, rfl⟩ ?_
          generalize wr.drew = wd at *
          iterate 16 (refine tree_still rfl rfl ?_; go_big_quiet_step (fail); refine wpQuiet_nil ?_)
          refine tree_one rfl rfl ?_
          go_simp
          refine (HSec.out wd).mono ?_
          rintro r w3 ⟨v3, rfl, hO3, hb3⟩
          obtain ⟨a3, q3, hv3⟩ := hO3.rd.len
          subst hv3
          have HWr3 := HWr.out w3 _ (hb3) hO3.rd
          have HB3 : Hid (Below w.heap.size w w3) := HBn.out w3 hb3
          clear hO3 hb3
          refine ⟨⟨⟨_, HB3.out⟩, rfl⟩, ?_⟩
          refine tree_one rfl rfl ?_
          go_simp
          refine HWr3.mono ?_
          rintro r w4 ⟨rfl, h4⟩
          have HS4 : Hid (ArmW w w4 (w.heap.size + 2) (k + 1) n (c)) := h4
          have HB4 : Hid (Below w.heap.size w w4) := by obtain ⟨o4, D4, _, _, _, m4⟩ := h4; exact mv5_below m4
          clear h4 HWr3
          refine ⟨⟨⟨_, HB4.out⟩, rfl⟩, ?_⟩
          refine tree_still rfl rfl ?_
          go_big_quiet_step (fail)
          refine wpQuiet_nil ?_
          refine tree_done ?_
          have x1 := e1 ⟨w4, HB4.out⟩
          have x3 := e3 ⟨w4, HB4.out⟩
          clear e1 e2 e3 ne
          go_wp2
          all_goals
            go_roundw
            case rel => exact ⟨k + 1, c, by go_num, by go_num, by omega, by omega, by omega, HS4⟩
            case measure => simp [intOf]; omega
      · have HS2 : Hid (ArmW w wr (w.heap.size + 2) (k + 1) n c) := ⟨o', D, hD, hOk.mono (by omega), hA, hM⟩
        have hkn : (qk != 0) = true := by simpa using hk0
        clear e1 e2 e3 hD hOk hA hM hbw HI hk0
        go_wp2
        go_roundw
        case rel => exact ⟨k + 1, c, rfl, by go_num, by omega, by omega, by omega, HS2⟩
        case measure => simp [intOf]; omega
    · obtain rfl : k = l.length := by omega
      obtain ⟨o', D, ⟨gv, nv, pv, d⟩, hOk, hA, hM⟩ := HI.out
      have HBw : Hid (Below w.heap.size w wr) := mv5_below hM
      have HWs : Hid (Calls Try.prog 16 #[ptr (w.heap.size + 2)] wr fun r w2 => r = .returned (.int .i64 c) ∧ w2 = wr) := by
        have := writes_any d
        rw [hA.wr] at this
        exact this
      clear d hOk hA hM HI HE HV
      have t1 : Hid True := trivial
      go_wp2_with (first
        | (go_at_call 22; go_must (refine (read_nil _ _).mono ?_; rintro r w6 ⟨rfl, hw6⟩; replace hw6 := hw6.symm; subst hw6))
        | (replace t1 := t1; go_at_call 16; go_must (refine HWs.out.mono ?_; rintro r w6 ⟨rfl, hw6⟩; replace hw6 := hw6.symm; subst hw6; clear t1))
        | (go_at_call 16; go_must (refine (writes_nil _).mono ?_; rintro r w6 ⟨rfl, hw6⟩; replace hw6 := hw6.symm; subst hw6))
        | (go_at_call 17; go_must (refine (write_nil _ _ _).mono ?_; rintro r w6 ⟨rfl, hw6⟩; replace hw6 := hw6.symm; subst hw6))
        | (go_at_call 19; go_must (refine (sync_nil _).mono ?_; rintro r w6 ⟨rfl, hw6⟩; replace hw6 := hw6.symm; subst hw6))
        | (go_at_call 20; go_must (refine (arm_nil _ _).mono ?_; rintro r w6 ⟨rfl, hw6⟩; replace hw6 := hw6.symm; subst hw6))
        | (go_at_call 21; go_must (refine (restart_nil _ _).mono ?_; rintro r w6 ⟨rfl, hw6⟩; replace hw6 := hw6.symm; subst hw6))
        | (go_at_call 14; go_must (refine (down_nil _).mono ?_; rintro r w6 ⟨rfl, hw6⟩; replace hw6 := hw6.symm; subst hw6))
        | (go_at_call 15; go_must (refine (pending_nil _).mono ?_; rintro r w6 ⟨rfl, hw6⟩; replace hw6 := hw6.symm; subst hw6))
        | (go_at_call 11; go_must (refine (sectors_nil _).mono ?_; rintro r w6 ⟨rfl, hw6⟩; replace hw6 := hw6.symm; subst hw6))
        | (go_at_call 12; go_must (refine (copy_nil _).mono ?_; rintro r w6 ⟨rfl, hw6⟩; replace hw6 := hw6.symm; subst hw6))
        | (go_at_call 8; go_must (refine (HAl.out _).mono ?_; rintro r w7 ⟨rfl, hb7⟩)))
      go_ret
      exact ⟨rfl, bnext HBw.out hb7⟩
end Go.Proofs.Ytfkkbloapnlbgaa
