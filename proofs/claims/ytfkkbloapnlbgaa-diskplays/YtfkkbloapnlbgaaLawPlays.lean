/-
  Both disks answer alike, whatever the script: the walk of DiskPlays.
-/
import Derived.Test.YtfkkbloapnlbgaaRelD
namespace Go.Proofs.Ytfkkbloapnlbgaa
set_option linter.unusedVariables false
set_option linter.unusedSimpArgs false
set_option synthInstance.maxSize 20000
set_option maxHeartbeats 4000000
set_option maxRecDepth 20000
open Go.RowKit Go.Maps

/-- Both disks at a round's head. -/
def PlW (w wr : World) (b rb nn k : Nat) : Prop := ∃ o' D R, DR wr o' 5 b 8 rb D R ∧ DOk D k ∧ ROk R k ∧ Rel D R ∧ D.now.length = nn ∧ Mv [5, 8] w (fun _ => 0) wr o'
theorem mv58_below {w w' : World} {o' : Nat → Nat} (m : Mv [5, 8] w (fun _ => 0) w' o') : Below w.heap.size w w' := m.below (Nat.le_refl _) (fun k hk => by simp)
theorem PlW.bel {w wr : World} {b rb nn k : Nat} (h : PlW w wr b rb nn k) : Below w.heap.size w wr := by
  obtain ⟨o', D, R, _, _, _, _, _, m⟩ := h
  exact mv58_below m
theorem PlW.copy {w wr : World} {b rb nn k : Nat} (h : PlW w wr b rb nn k) (hk : k ≤ 2000) : Calls Try.prog 12 #[ptr b] wr fun r w3 => r = .returned (ptr wr.heap.size) ∧ PlW w w3 wr.heap.size rb nn k := by
  obtain ⟨o', D, R, ⟨⟨gv, nv, pv, d⟩, hR⟩, hok, hrok, hrel, hn, m⟩ := h
  refine (copy_any d hok hk 5).mono ?_
  rintro r w3 ⟨rfl, d3, b3⟩
  exact ⟨rfl, _, D, R, ⟨d3, hR.mv (Mv.of_below (I := []) 5 b3) (by simp) (by simp)⟩, hok, hrok, hrel, hn, m.trans (Mv.of_below 5 b3)⟩
/-- What is asked of both behind a step. -/
structure Looks (w4 : World) (b rb nn : Nat) (dn : Bool) (pl : Nat) (wc : Int) (ap : Option Addr) (cp : Nat) : Prop where
  kd : Calls Try.prog 14 #[ptr b] w4 fun r w5 => r = .returned (.bool dn) ∧ w5 = w4
  kp : Calls Try.prog 15 #[ptr b] w4 fun r w5 => r = .returned (.int .i64 (pl : Int)) ∧ w5 = w4
  kw : Calls Try.prog 16 #[ptr b] w4 fun r w5 => r = .returned (.int .i64 wc) ∧ w5 = w4
  ks : Calls Try.prog 11 #[ptr b] w4 fun r w5 => r = .returned (.int .i64 (nn : Int)) ∧ w5 = w4
  c4 : w4.cell? ⟨rb, 4, none⟩ = some (.bool dn)
  c2 : w4.cell? ⟨rb, 2, none⟩ = some (.slice ap pl cp)
  c6 : w4.cell? ⟨rb, 6, none⟩ = some (.int .i64 wc)
  le : pl ≤ cp ∧ cp ≤ 9223372036854775807
theorem looks_any {w : World} {o : Nat → Nat} {b rb nn : Nat} {D : Dk} {R : Rk} (h : DR w o 5 b 8 rb D R) (hr : Rel D R) (hn : D.now.length = nn) : ∃ dn pl wc ap cp, Looks w b rb nn dn pl wc ap cp := by
  obtain ⟨⟨gv, nv, pv, d⟩, gv2, pv2, gs, ps, r⟩ := h
  obtain ⟨ap, cp, hvv, hle⟩ := slice_of_own r.p
  refine ⟨D.down, D.pend.length, D.writes, ap, cp, down_any d, pending_any d, writes_any d, ?_, ?_, ?_, ?_, ?_⟩
  · have := sectors_any d
    rw [hn] at this
    exact this
  · rw [r.c4, hr.dn]
  · rw [r.c2, hvv, hr.plen, ← r.pl]
  · rw [r.c6, hr.cnt]
  · rw [hr.plen, ← r.pl]
    exact hle
theorem plays_step {w wr : World} {b rb nn k : Nat} (h : PlW w wr b rb nn k) (hk : k ≤ 1000) {q : OpD} {kv : Value} (hq : OpOk w (q, kv)) : Calls Try.prog 13 #[ptr b, ptr rb, .agg #[.int .i64 q.k, .int .i64 q.n, .int .u8 q.y, .bool q.s, kv]] wr.drew fun r w4 => r = .returned (.bool true) ∧ PlW w w4 b rb nn (k + 1) ∧ ∃ dn pl wc ap cp, Looks w4 b rb nn dn pl wc ap cp := by
  obtain ⟨o', D, R, hDR, hok, hrok, hrel, hn, m⟩ := h
  have hs := hrel.step hok q hq.y
  have md : Mv [5, 8] w (fun _ => 0) wr.drew o' := m.trans (mv_drewn _ _)
  refine (step_any (w := wr.drew) (o := o') (jd := 5) (b := b) (jr := 8) (rb := rb) (D := D) (R := R) (N := k) (M := k) (q := q) (kv := kv) ⟨hDR.1.mv (mv_drewn (I := []) _ _) (by simp), hDR.2.mv (mv_drewn (I := []) _ _) (by simp) (by simp)⟩ (by omega) (by omega) (by omega) hok (by omega) hrok (by omega) hq.y (fun w' o2 m2 => ?_)).mono ?_
  · have hb := mv58_below (md.trans m2)
    exact hq.ks.blocks (fun j _ hlt => hb.block j hlt)
  · rintro r w4 ⟨rfl, o4, h4, m4⟩
    have hn4 : (stepD D q).now.length = nn := by
      have e1 := hs.2.n
      rw [stepR_n, hrel.n] at e1
      have : (D.now.length : Int) = ((stepD D q).now.length : Int) := e1
      omega
    exact ⟨by rw [hs.1], ⟨o4, _, _, h4, stepD_ok hok q hq.n.2, stepR_ok hrok q hq.n.2, hs.2, hn4, md.trans m4⟩, looks_any h4 hs.2 hn4⟩

theorem plays_walk (n : Int) (v : Value) (l : List (OpD × Value)) (w : World) (hI : I64 n) (hrd : RowF oc w v l) (hE : OpsOk w l) :
    Calls Try.prog 3 #[.int .i64 n, v] w fun e w' => e = .returned (.bool true) ∧ Below w.heap.size w w' := by
  obtain ⟨a, cap, rfl⟩ := hrd.len
  have hcap := hrd.caps.2
  have HAl : Hid (∀ w', Calls Try.prog 8 #[] w' fun r w2 => r = .returned (.bool true) ∧ Below w'.heap.size w' w2) := fun w' => alive_any w'
  have HLi : Hid (Calls Try.prog 7 #[.slice a l.length cap] w fun r w2 => r = .returned (.bool (lightB l)) ∧ w2 = w) := light_any hrd hE
  cases hli : lightB l
  · rw [hli] at HLi
    clear hrd hE hli
    go_enter Try.func3, Try.ntmps3
    go_wp2_with (first
      | (go_at_call 7; go_must (refine HLi.out.mono ?_; rintro r w2 ⟨rfl, hw2⟩; replace hw2 := hw2.symm; subst hw2))
      | (go_at_call 8; go_must (refine (HAl.out w).mono ?_; rintro r w2 ⟨rfl, hb2⟩)))
    go_ret
    exact ⟨rfl, hb2⟩
  rw [hli] at HLi
  have hfew := (light_few hli).1
  by_cases hn : n < 1 ∨ 400 < n
  · have HN : Hid (Calls Try.prog 9 #[.int .i64 n] w fun r w' => r = .returned (.tuple #[.pointer none, .int .i64 1]) ∧ w' = w) := dnew_bad w n hn
    have HR : Hid (Calls Try.prog 10 #[.int .i64 n] w fun r w' => r = .returned (.tuple #[.pointer none, .int .i64 1]) ∧ w' = w) := rnew_bad w n hn
    clear hrd hE hli hn
    go_enter Try.func3, Try.ntmps3
    go_wp2_with (first
      | (go_at_call 7; go_must (refine HLi.out.mono ?_; rintro r w2 ⟨rfl, hw2⟩; replace hw2 := hw2.symm; subst hw2))
      | (go_at_call 9; go_must (refine HN.out.mono ?_; rintro r w2 ⟨rfl, hw2⟩; replace hw2 := hw2.symm; subst hw2))
      | (go_at_call 10; go_must (refine HR.out.mono ?_; rintro r w2 ⟨rfl, hw2⟩; replace hw2 := hw2.symm; subst hw2))
      | (go_at_call 11; go_must (refine (sectors_nil _).mono ?_; rintro r w2 ⟨rfl, hw2⟩; replace hw2 := hw2.symm; subst hw2))
      | (go_at_call 8; go_must (refine (HAl.out w).mono ?_; rintro r w2 ⟨rfl, hb2⟩)))
    go_ret
    exact ⟨rfl, hb2⟩
  obtain ⟨nn, rfl⟩ := Int.eq_ofNat_of_zero_le (by omega : 0 ≤ n)
  have hn1 : 1 ≤ nn := by omega
  have hn2 : nn ≤ 400 := by omega
  have HN : Hid (Calls Try.prog 9 #[.int .i64 (nn : Int)] w fun r w' => r = .returned (.tuple #[ptr (w.heap.size + 2), .int .i64 0]) ∧ DIs w' (newTo (fun _ => 0) w 5) 5 (w.heap.size + 2) (newD nn) ∧ Below w.heap.size w w') := dnew_any w (fun _ => 0) 5 nn hn1 hn2 (by omega)
  have HR : Hid (∀ w1, DIs w1 (newTo (fun _ => 0) w 5) 5 (w.heap.size + 2) (newD nn) → Below w.heap.size w w1 → Calls Try.prog 10 #[.int .i64 (nn : Int)] w1 fun r w' => r = .returned (.tuple #[ptr w1.heap.size, .int .i64 0]) ∧ PlW w w' (w.heap.size + 2) w1.heap.size nn 0) := fun w1 hd hb => (rnew_any w1 (newTo (fun _ => 0) w 5) 8 (nn : Int) (by omega) (by omega)).mono fun r w2 ⟨e, hr, hb2⟩ =>
    ⟨e, _, _, _, ⟨hd.mv (Mv.of_below (I := []) 8 hb2) (by simp), hr⟩, newD_ok nn hn2 hn1, newR_ok _, rel_new nn, by simp [newD], ((Mv.of_below (I := [5]) 5 hb).widen (by simp)).trans (Mv.of_below 8 hb2)⟩
  have HV : Hid (RowF oc w (.slice a l.length cap) l) := hrd
  have HE : Hid (OpsOk w l) := hE
  clear hrd hE hli hn hI
  go_enter Try.func3, Try.ntmps3
  go_wp2_with (first
    | (go_at_call 7; go_must (refine HLi.out.mono ?_; rintro r w2 ⟨rfl, hw2⟩; replace hw2 := hw2.symm; subst hw2))
    | (go_at_call 9; go_must (refine HN.out.mono ?_; rintro r w1 ⟨rfl, hB1, hb1⟩; have HB1 : Hid (DIs w1 (newTo (fun _ => 0) w 5) 5 (w.heap.size + 2) (newD nn)) := hB1; have Hb1 : Hid (Below w.heap.size w w1) := hb1; clear hB1 hb1))
    | (go_at_call 10; go_must (refine (HR.out w1 HB1.out Hb1.out).mono ?_; rintro r w2 ⟨rfl, h2⟩; have HS : Hid (PlW w w2 (w.heap.size + 2) w1.heap.size nn 0) := h2; clear h2)))
  generalize w1.heap.size = rb at *
  go_loopw [5, 9] (fun dv i wr => ∃ (k b : Nat), dv = ptr b ∧ i = .int .i64 k ∧ k ≤ l.length ∧ Hid (PlW w wr b rb nn k)) (fun _ i _ => l.length - (intOf i).toNat)
  case atStart => exact ⟨0, w.heap.size + 2, rfl, rfl, by omega, HS⟩
  case round =>
    obtain ⟨k, b, rfl, rfl, hk, HI⟩ := hrel
    clear HLi HN HR HB1 Hb1 HS
    by_cases hkl : k < l.length
    · have hbw := HI.out.bel
      obtain ⟨q, hq⟩ : ∃ q, l[k]? = some q := ⟨_, List.getElem?_eq_getElem hkl⟩
      obtain ⟨g, off, ea, hr⟩ := HV.out.at oc_len hq
      subst ea
      have hqo := HE.out q (List.mem_of_getElem? hq)
      have hr' : ∀ w' : World, Below w.heap.size w w' → w'.rangeAt g (off + k * 5) (oc q) := fun w' hb => rangeAt_blocks hr (fun hlt => hb.block g hlt)
      obtain ⟨q, kv⟩ := q
      obtain ⟨ak, ck, hkv⟩ := hqo.ks.len
      dsimp only at hkv
      subst hkv
      have e0 := fun z : WIn (Below w.heap.size w) => hr' z.w z.ok 0 _ rfl
      have e1 := fun z : WIn (Below w.heap.size w) => hr' z.w z.ok 1 _ rfl
      have e2 := fun z : WIn (Below w.heap.size w) => hr' z.w z.ok 2 _ rfl
      have e3 := fun z : WIn (Below w.heap.size w) => hr' z.w z.ok 3 _ rfl
      have e4 := fun z : WIn (Below w.heap.size w) => hr' z.w z.ok 4 _ rfl
      have hk3 : (k : Int) < (l.length : Int) := by omega
      simp only [Nat.add_zero] at e0
      have x0 := e0 ⟨wr, hbw⟩
      dsimp only at x0 e0 e1 e2 e3 e4
      have HStep : Hid (∀ (w3 : World) (b3 : Nat), PlW w w3 b3 rb nn k → Calls Try.prog 13 #[ptr b3, ptr rb, .agg #[.int .i64 q.k, .int .i64 q.n, .int .u8 q.y, .bool q.s, .slice ak q.ks.length ck]] w3.drew fun r w4 => r = .returned (.bool true) ∧ PlW w w4 b3 rb nn (k + 1) ∧ ∃ dn pl wc ap cp, Looks w4 b3 rb nn dn pl wc ap cp) := fun w3 b3 h => plays_step h (by omega) hqo
      clear hr hr' hq
      by_cases h5 : q.k = 5
      · have HCp : Hid (Calls Try.prog 12 #[ptr b] wr fun r w3 => r = .returned (ptr wr.heap.size) ∧ PlW w w3 wr.heap.size rb nn k) := HI.out.copy (by omega)
        rw [h5] at x0
        clear hqo
        go_upto_region 14 with (go_at_call 12; go_must (refine HCp.out.mono ?_; rintro r w3 ⟨rfl, h3⟩; have HP3 : Hid (PlW w w3 wr.heap.size rb nn k) := h3; clear h3))
        have HSt : Hid (Calls Try.prog 13 #[ptr wr.heap.size, ptr rb, .agg #[.int .i64 q.k, .int .i64 q.n, .int .u8 q.y, .bool q.s, .slice ak q.ks.length ck]] w3.drew fun r w4 => r = .returned (.bool true) ∧ PlW w w4 wr.heap.size rb nn (k + 1) ∧ ∃ dn pl wc ap cp, Looks w4 wr.heap.size rb nn dn pl wc ap cp) := HStep.out w3 _ HP3.out
        have HBd : Hid (Below w.heap.size w w3.drew) := (show Below _ _ _ from ⟨HP3.out.bel.os, HP3.out.bel.tape, HP3.out.bel.output, HP3.out.bel.size, HP3.out.bel.block⟩)
        clear HStep HCp x0 HP3 HI hbw h5
        generalize wr.heap.size = nb at *
        obtain ⟨qk, qn, qy, qs, qks⟩ := q
        dsimp only at *
        generalize qks.length = LQ at *
        have ne : Nonempty (WIn (Below w.heap.size w)) := ⟨⟨w, Below.refl _ _⟩⟩
        refine wp_region_tree (C := fun w' => ∃ z : WIn (Below w.heap.size w), w' = z.w) (.still 0 (.still 1 (.still 2 (.still 3 (.still 4 (.still 5 (.one 6 (.still 7 (.still 8 (.still 9 (.still 11 (.still 12 (.still 13 (.two 10 (.one 14 (.still 15 (.still 16 (.still 17 (.still 18 (.still 20 (.still 21 (.still 22 (.two 19 (.one 23 (.still 24 (.still 25 (.still 26 (.still 27 (.still 28 (.still 30 (.still 31 (.still 32 (.two 29 (.one 33 (.still 34 (.still 35 (.still 36 (.still 37 (.still 39 (.one 38 (.still 40 (.still 41 .done))))))))) 33 (.one 29 (.still 34 (.still 35 (.still 36 (.still 37 (.still 39 (.one 38 (.still 40 (.still 41 .done))))))))))))))))))) 23 (.still 24 (.one 19 (.still 25 (.still 26 (.still 27 (.still 28 (.still 30 (.still 31 (.still 32 (.two 29 (.one 33 (.still 34 (.still 35 (.still 36 (.still 37 (.still 39 (.one 38 (.still 40 (.still 41 .done))))))))) 33 (.one 29 (.still 34 (.still 35 (.still 36 (.still 37 (.still 39 (.one 38 (.still 40 (.still 41 .done)))))))))))))))))))))))))))) 14 (.one 10 (.still 15 (.still 16 (.still 17 (.still 18 (.still 20 (.still 21 (.still 22 (.two 19 (.one 23 (.still 24 (.still 25 (.still 26 (.still 27 (.still 28 (.still 30 (.still 31 (.still 32 (.two 29 (.one 33 (.still 34 (.still 35 (.still 36 (.still 37 (.still 39 (.one 38 (.still 40 (.still 41 .done))))))))) 33 (.one 29 (.still 34 (.still 35 (.still 36 (.still 37 (.still 39 (.one 38 (.still 40 (.still 41 .done))))))))))))))))))) 23 (.still 24 (.one 19 (.still 25 (.still 26 (.still 27 (.still 28 (.still 30 (.still 31 (.still 32 (.two 29 (.one 33 (.still 34 (.still 35 (.still 36 (.still 37 (.still 39 (.one 38 (.still 40 (.still 41 .done))))))))) 33 (.one 29 (.still 34 (.still 35 (.still 36 (.still 37 (.still 39 (.one 38 (.still 40 (.still 41 .done)))))))))))))))))))))))))))))))))))))))))) (by kernel_rfl) (by kernel_rfl) ⟨⟨w3.drew, HBd.out⟩, rfl⟩ ?_
        generalize w3.drew = wd at *
        iterate 6 (refine tree_still rfl rfl ?_; go_big_quiet_step (fail); refine wpQuiet_nil ?_)
        refine tree_one rfl rfl ?_
        go_simp
        refine HSt.out.mono ?_
        rintro r w4 ⟨rfl, hP4, dn, pl, wc, ap, cp, hL⟩
        have HP4 : Hid (PlW w w4 nb rb nn (k + 1)) := hP4
        have HC4 : Hid (Below w.heap.size w w4) := hP4.bel
        have HL : Hid (Looks w4 nb rb nn dn pl wc ap cp) := hL
        have g4 := hL.c4
        have g2 := hL.c2
        have g6 := hL.c6
        have gle := hL.le
        have zz : (dn != dn) = false := by cases dn <;> rfl
        clear hP4 hL e0 e1 e2 e3 e4
        refine ⟨⟨⟨_, HC4.out⟩, rfl⟩, ?_⟩
        iterate 6 (refine tree_still rfl rfl ?_; go_big_quiet_step (fail); refine wpQuiet_nil ?_)
        refine tree_two rfl rfl rfl rfl ?_ ?_
        · go_simp
          refine (HL.out.kd).mono ?_
          rintro r w5 ⟨rfl, hw5⟩
          replace hw5 := hw5.symm
          subst hw5
          refine ⟨⟨⟨_, HC4.out⟩, rfl⟩, ?_⟩
          refine tree_one rfl rfl ?_
          go_simp
          refine ⟨⟨⟨_, HC4.out⟩, rfl⟩, ?_⟩
          iterate 7 (refine tree_still rfl rfl ?_; go_big_quiet_step (fail); refine wpQuiet_nil ?_)
          refine tree_two rfl rfl rfl rfl ?_ ?_
          · go_simp
            refine (HL.out.kp).mono ?_
            rintro r w5 ⟨rfl, hw5⟩
            replace hw5 := hw5.symm
            subst hw5
            refine ⟨⟨⟨_, HC4.out⟩, rfl⟩, ?_⟩
            refine tree_one rfl rfl ?_
            go_simp
            refine ⟨⟨⟨_, HC4.out⟩, rfl⟩, ?_⟩
            iterate 1 (refine tree_still rfl rfl ?_; go_big_quiet_step (fail); refine wpQuiet_nil ?_)
            iterate 7 (refine tree_still rfl rfl ?_; go_big_quiet_step (fail); refine wpQuiet_nil ?_)
            refine tree_two rfl rfl rfl rfl ?_ ?_
            · go_simp
              refine (HL.out.kw).mono ?_
              rintro r w5 ⟨rfl, hw5⟩
              replace hw5 := hw5.symm
              subst hw5
              refine ⟨⟨⟨_, HC4.out⟩, rfl⟩, ?_⟩
              refine tree_one rfl rfl ?_
              go_simp
              refine ⟨⟨⟨_, HC4.out⟩, rfl⟩, ?_⟩
              iterate 5 (refine tree_still rfl rfl ?_; go_big_quiet_step (fail); refine wpQuiet_nil ?_)
              refine tree_one rfl rfl ?_
              go_simp
              refine (HL.out.ks).mono ?_
              rintro r w5 ⟨rfl, hw5⟩
              replace hw5 := hw5.symm
              subst hw5
              refine ⟨⟨⟨_, HC4.out⟩, rfl⟩, ?_⟩
              iterate 2 (refine tree_still rfl rfl ?_; go_big_quiet_step (fail); refine wpQuiet_nil ?_)
              refine tree_done ?_
              clear g4 g2 g6 ne
              go_wp2
              go_roundw
              case rel => exact ⟨k + 1, nb, rfl, by go_num, by omega, HP4⟩
              case measure => simp [intOf]; omega
            · go_simp
              refine ⟨⟨⟨_, HC4.out⟩, rfl⟩, ?_⟩
              refine tree_one rfl rfl ?_
              go_simp
              refine (HL.out.kw).mono ?_
              rintro r w5 ⟨rfl, hw5⟩
              replace hw5 := hw5.symm
              subst hw5
              refine ⟨⟨⟨_, HC4.out⟩, rfl⟩, ?_⟩
              iterate 5 (refine tree_still rfl rfl ?_; go_big_quiet_step (fail); refine wpQuiet_nil ?_)
              refine tree_one rfl rfl ?_
              go_simp
              refine (HL.out.ks).mono ?_
              rintro r w5 ⟨rfl, hw5⟩
              replace hw5 := hw5.symm
              subst hw5
              refine ⟨⟨⟨_, HC4.out⟩, rfl⟩, ?_⟩
              iterate 2 (refine tree_still rfl rfl ?_; go_big_quiet_step (fail); refine wpQuiet_nil ?_)
              refine tree_done ?_
              clear g4 g2 g6 ne
              go_wp2
              go_roundw
              case rel => exact ⟨k + 1, nb, rfl, by go_num, by omega, HP4⟩
              case measure => simp [intOf]; omega
          · go_simp
            refine ⟨⟨⟨_, HC4.out⟩, rfl⟩, ?_⟩
            iterate 1 (refine tree_still rfl rfl ?_; go_big_quiet_step (fail); refine wpQuiet_nil ?_)
            refine tree_one rfl rfl ?_
            go_simp
            refine (HL.out.kp).mono ?_
            rintro r w5 ⟨rfl, hw5⟩
            replace hw5 := hw5.symm
            subst hw5
            refine ⟨⟨⟨_, HC4.out⟩, rfl⟩, ?_⟩
            iterate 7 (refine tree_still rfl rfl ?_; go_big_quiet_step (fail); refine wpQuiet_nil ?_)
            refine tree_two rfl rfl rfl rfl ?_ ?_
            · go_simp
              refine (HL.out.kw).mono ?_
              rintro r w5 ⟨rfl, hw5⟩
              replace hw5 := hw5.symm
              subst hw5
              refine ⟨⟨⟨_, HC4.out⟩, rfl⟩, ?_⟩
              refine tree_one rfl rfl ?_
              go_simp
              refine ⟨⟨⟨_, HC4.out⟩, rfl⟩, ?_⟩
              iterate 5 (refine tree_still rfl rfl ?_; go_big_quiet_step (fail); refine wpQuiet_nil ?_)
              refine tree_one rfl rfl ?_
              go_simp
              refine (HL.out.ks).mono ?_
              rintro r w5 ⟨rfl, hw5⟩
              replace hw5 := hw5.symm
              subst hw5
              refine ⟨⟨⟨_, HC4.out⟩, rfl⟩, ?_⟩
              iterate 2 (refine tree_still rfl rfl ?_; go_big_quiet_step (fail); refine wpQuiet_nil ?_)
              refine tree_done ?_
              clear g4 g2 g6 ne
              go_wp2
              go_roundw
              case rel => exact ⟨k + 1, nb, rfl, by go_num, by omega, HP4⟩
              case measure => simp [intOf]; omega
            · go_simp
              refine ⟨⟨⟨_, HC4.out⟩, rfl⟩, ?_⟩
              refine tree_one rfl rfl ?_
              go_simp
              refine (HL.out.kw).mono ?_
              rintro r w5 ⟨rfl, hw5⟩
              replace hw5 := hw5.symm
              subst hw5
              refine ⟨⟨⟨_, HC4.out⟩, rfl⟩, ?_⟩
              iterate 5 (refine tree_still rfl rfl ?_; go_big_quiet_step (fail); refine wpQuiet_nil ?_)
              refine tree_one rfl rfl ?_
              go_simp
              refine (HL.out.ks).mono ?_
              rintro r w5 ⟨rfl, hw5⟩
              replace hw5 := hw5.symm
              subst hw5
              refine ⟨⟨⟨_, HC4.out⟩, rfl⟩, ?_⟩
              iterate 2 (refine tree_still rfl rfl ?_; go_big_quiet_step (fail); refine wpQuiet_nil ?_)
              refine tree_done ?_
              clear g4 g2 g6 ne
              go_wp2
              go_roundw
              case rel => exact ⟨k + 1, nb, rfl, by go_num, by omega, HP4⟩
              case measure => simp [intOf]; omega
        · go_simp
          refine ⟨⟨⟨_, HC4.out⟩, rfl⟩, ?_⟩
          refine tree_one rfl rfl ?_
          go_simp
          refine (HL.out.kd).mono ?_
          rintro r w5 ⟨rfl, hw5⟩
          replace hw5 := hw5.symm
          subst hw5
          refine ⟨⟨⟨_, HC4.out⟩, rfl⟩, ?_⟩
          iterate 7 (refine tree_still rfl rfl ?_; go_big_quiet_step (fail); refine wpQuiet_nil ?_)
          refine tree_two rfl rfl rfl rfl ?_ ?_
          · go_simp
            refine (HL.out.kp).mono ?_
            rintro r w5 ⟨rfl, hw5⟩
            replace hw5 := hw5.symm
            subst hw5
            refine ⟨⟨⟨_, HC4.out⟩, rfl⟩, ?_⟩
            refine tree_one rfl rfl ?_
            go_simp
            refine ⟨⟨⟨_, HC4.out⟩, rfl⟩, ?_⟩
            iterate 1 (refine tree_still rfl rfl ?_; go_big_quiet_step (fail); refine wpQuiet_nil ?_)
            iterate 7 (refine tree_still rfl rfl ?_; go_big_quiet_step (fail); refine wpQuiet_nil ?_)
            refine tree_two rfl rfl rfl rfl ?_ ?_
            · go_simp
              refine (HL.out.kw).mono ?_
              rintro r w5 ⟨rfl, hw5⟩
              replace hw5 := hw5.symm
              subst hw5
              refine ⟨⟨⟨_, HC4.out⟩, rfl⟩, ?_⟩
              refine tree_one rfl rfl ?_
              go_simp
              refine ⟨⟨⟨_, HC4.out⟩, rfl⟩, ?_⟩
              iterate 5 (refine tree_still rfl rfl ?_; go_big_quiet_step (fail); refine wpQuiet_nil ?_)
              refine tree_one rfl rfl ?_
              go_simp
              refine (HL.out.ks).mono ?_
              rintro r w5 ⟨rfl, hw5⟩
              replace hw5 := hw5.symm
              subst hw5
              refine ⟨⟨⟨_, HC4.out⟩, rfl⟩, ?_⟩
              iterate 2 (refine tree_still rfl rfl ?_; go_big_quiet_step (fail); refine wpQuiet_nil ?_)
              refine tree_done ?_
              clear g4 g2 g6 ne
              go_wp2
              go_roundw
              case rel => exact ⟨k + 1, nb, rfl, by go_num, by omega, HP4⟩
              case measure => simp [intOf]; omega
            · go_simp
              refine ⟨⟨⟨_, HC4.out⟩, rfl⟩, ?_⟩
              refine tree_one rfl rfl ?_
              go_simp
              refine (HL.out.kw).mono ?_
              rintro r w5 ⟨rfl, hw5⟩
              replace hw5 := hw5.symm
              subst hw5
              refine ⟨⟨⟨_, HC4.out⟩, rfl⟩, ?_⟩
              iterate 5 (refine tree_still rfl rfl ?_; go_big_quiet_step (fail); refine wpQuiet_nil ?_)
              refine tree_one rfl rfl ?_
              go_simp
              refine (HL.out.ks).mono ?_
              rintro r w5 ⟨rfl, hw5⟩
              replace hw5 := hw5.symm
              subst hw5
              refine ⟨⟨⟨_, HC4.out⟩, rfl⟩, ?_⟩
              iterate 2 (refine tree_still rfl rfl ?_; go_big_quiet_step (fail); refine wpQuiet_nil ?_)
              refine tree_done ?_
              clear g4 g2 g6 ne
              go_wp2
              go_roundw
              case rel => exact ⟨k + 1, nb, rfl, by go_num, by omega, HP4⟩
              case measure => simp [intOf]; omega
          · go_simp
            refine ⟨⟨⟨_, HC4.out⟩, rfl⟩, ?_⟩
            iterate 1 (refine tree_still rfl rfl ?_; go_big_quiet_step (fail); refine wpQuiet_nil ?_)
            refine tree_one rfl rfl ?_
            go_simp
            refine (HL.out.kp).mono ?_
            rintro r w5 ⟨rfl, hw5⟩
            replace hw5 := hw5.symm
            subst hw5
            refine ⟨⟨⟨_, HC4.out⟩, rfl⟩, ?_⟩
            iterate 7 (refine tree_still rfl rfl ?_; go_big_quiet_step (fail); refine wpQuiet_nil ?_)
            refine tree_two rfl rfl rfl rfl ?_ ?_
            · go_simp
              refine (HL.out.kw).mono ?_
              rintro r w5 ⟨rfl, hw5⟩
              replace hw5 := hw5.symm
              subst hw5
              refine ⟨⟨⟨_, HC4.out⟩, rfl⟩, ?_⟩
              refine tree_one rfl rfl ?_
              go_simp
              refine ⟨⟨⟨_, HC4.out⟩, rfl⟩, ?_⟩
              iterate 5 (refine tree_still rfl rfl ?_; go_big_quiet_step (fail); refine wpQuiet_nil ?_)
              refine tree_one rfl rfl ?_
              go_simp
              refine (HL.out.ks).mono ?_
              rintro r w5 ⟨rfl, hw5⟩
              replace hw5 := hw5.symm
              subst hw5
              refine ⟨⟨⟨_, HC4.out⟩, rfl⟩, ?_⟩
              iterate 2 (refine tree_still rfl rfl ?_; go_big_quiet_step (fail); refine wpQuiet_nil ?_)
              refine tree_done ?_
              clear g4 g2 g6 ne
              go_wp2
              go_roundw
              case rel => exact ⟨k + 1, nb, rfl, by go_num, by omega, HP4⟩
              case measure => simp [intOf]; omega
            · go_simp
              refine ⟨⟨⟨_, HC4.out⟩, rfl⟩, ?_⟩
              refine tree_one rfl rfl ?_
              go_simp
              refine (HL.out.kw).mono ?_
              rintro r w5 ⟨rfl, hw5⟩
              replace hw5 := hw5.symm
              subst hw5
              refine ⟨⟨⟨_, HC4.out⟩, rfl⟩, ?_⟩
              iterate 5 (refine tree_still rfl rfl ?_; go_big_quiet_step (fail); refine wpQuiet_nil ?_)
              refine tree_one rfl rfl ?_
              go_simp
              refine (HL.out.ks).mono ?_
              rintro r w5 ⟨rfl, hw5⟩
              replace hw5 := hw5.symm
              subst hw5
              refine ⟨⟨⟨_, HC4.out⟩, rfl⟩, ?_⟩
              iterate 2 (refine tree_still rfl rfl ?_; go_big_quiet_step (fail); refine wpQuiet_nil ?_)
              refine tree_done ?_
              clear g4 g2 g6 ne
              go_wp2
              go_roundw
              case rel => exact ⟨k + 1, nb, rfl, by go_num, by omega, HP4⟩
              case measure => simp [intOf]; omega
      · have hkn : (q.k == 5) = false := by simpa using h5
        have HSt : Hid (Calls Try.prog 13 #[ptr b, ptr rb, .agg #[.int .i64 q.k, .int .i64 q.n, .int .u8 q.y, .bool q.s, .slice ak q.ks.length ck]] wr.drew fun r w4 => r = .returned (.bool true) ∧ PlW w w4 b rb nn (k + 1) ∧ ∃ dn pl wc ap cp, Looks w4 b rb nn dn pl wc ap cp) := HStep.out wr _ HI.out
        have HBd : Hid (Below w.heap.size w wr.drew) := (show Below _ _ _ from ⟨hbw.os, hbw.tape, hbw.output, hbw.size, hbw.block⟩)
        clear HStep HI hbw h5 hqo
        obtain ⟨qk, qn, qy, qs, qks⟩ := q
        dsimp only at *
        generalize qks.length = LQ at *
        go_upto_region 14 with fail
        clear x0
        have ne : Nonempty (WIn (Below w.heap.size w)) := ⟨⟨w, Below.refl _ _⟩⟩
        refine wp_region_tree (C := fun w' => ∃ z : WIn (Below w.heap.size w), w' = z.w) (.still 0 (.still 1 (.still 2 (.still 3 (.still 4 (.still 5 (.one 6 (.still 7 (.still 8 (.still 9 (.still 11 (.still 12 (.still 13 (.two 10 (.one 14 (.still 15 (.still 16 (.still 17 (.still 18 (.still 20 (.still 21 (.still 22 (.two 19 (.one 23 (.still 24 (.still 25 (.still 26 (.still 27 (.still 28 (.still 30 (.still 31 (.still 32 (.two 29 (.one 33 (.still 34 (.still 35 (.still 36 (.still 37 (.still 39 (.one 38 (.still 40 (.still 41 .done))))))))) 33 (.one 29 (.still 34 (.still 35 (.still 36 (.still 37 (.still 39 (.one 38 (.still 40 (.still 41 .done))))))))))))))))))) 23 (.still 24 (.one 19 (.still 25 (.still 26 (.still 27 (.still 28 (.still 30 (.still 31 (.still 32 (.two 29 (.one 33 (.still 34 (.still 35 (.still 36 (.still 37 (.still 39 (.one 38 (.still 40 (.still 41 .done))))))))) 33 (.one 29 (.still 34 (.still 35 (.still 36 (.still 37 (.still 39 (.one 38 (.still 40 (.still 41 .done)))))))))))))))))))))))))))) 14 (.one 10 (.still 15 (.still 16 (.still 17 (.still 18 (.still 20 (.still 21 (.still 22 (.two 19 (.one 23 (.still 24 (.still 25 (.still 26 (.still 27 (.still 28 (.still 30 (.still 31 (.still 32 (.two 29 (.one 33 (.still 34 (.still 35 (.still 36 (.still 37 (.still 39 (.one 38 (.still 40 (.still 41 .done))))))))) 33 (.one 29 (.still 34 (.still 35 (.still 36 (.still 37 (.still 39 (.one 38 (.still 40 (.still 41 .done))))))))))))))))))) 23 (.still 24 (.one 19 (.still 25 (.still 26 (.still 27 (.still 28 (.still 30 (.still 31 (.still 32 (.two 29 (.one 33 (.still 34 (.still 35 (.still 36 (.still 37 (.still 39 (.one 38 (.still 40 (.still 41 .done))))))))) 33 (.one 29 (.still 34 (.still 35 (.still 36 (.still 37 (.still 39 (.one 38 (.still 40 (.still 41 .done)))))))))))))))))))))))))))))))))))))))))) (by kernel_rfl) (by kernel_rfl) ⟨⟨wr.drew, HBd.out⟩, rfl⟩ ?_
        generalize wr.drew = wd at *
        iterate 6 (refine tree_still rfl rfl ?_; go_big_quiet_step (fail); refine wpQuiet_nil ?_)
        refine tree_one rfl rfl ?_
        go_simp
        refine HSt.out.mono ?_
        rintro r w4 ⟨rfl, hP4, dn, pl, wc, ap, cp, hL⟩
        have HP4 : Hid (PlW w w4 b rb nn (k + 1)) := hP4
        have HC4 : Hid (Below w.heap.size w w4) := hP4.bel
        have HL : Hid (Looks w4 b rb nn dn pl wc ap cp) := hL
        have g4 := hL.c4
        have g2 := hL.c2
        have g6 := hL.c6
        have gle := hL.le
        have zz : (dn != dn) = false := by cases dn <;> rfl
        clear hP4 hL e0 e1 e2 e3 e4
        refine ⟨⟨⟨_, HC4.out⟩, rfl⟩, ?_⟩
        iterate 6 (refine tree_still rfl rfl ?_; go_big_quiet_step (fail); refine wpQuiet_nil ?_)
        refine tree_two rfl rfl rfl rfl ?_ ?_
        · go_simp
          refine (HL.out.kd).mono ?_
          rintro r w5 ⟨rfl, hw5⟩
          replace hw5 := hw5.symm
          subst hw5
          refine ⟨⟨⟨_, HC4.out⟩, rfl⟩, ?_⟩
          refine tree_one rfl rfl ?_
          go_simp
          refine ⟨⟨⟨_, HC4.out⟩, rfl⟩, ?_⟩
          iterate 7 (refine tree_still rfl rfl ?_; go_big_quiet_step (fail); refine wpQuiet_nil ?_)
          refine tree_two rfl rfl rfl rfl ?_ ?_
          · go_simp
            refine (HL.out.kp).mono ?_
            rintro r w5 ⟨rfl, hw5⟩
            replace hw5 := hw5.symm
            subst hw5
            refine ⟨⟨⟨_, HC4.out⟩, rfl⟩, ?_⟩
            refine tree_one rfl rfl ?_
            go_simp
            refine ⟨⟨⟨_, HC4.out⟩, rfl⟩, ?_⟩
            iterate 1 (refine tree_still rfl rfl ?_; go_big_quiet_step (fail); refine wpQuiet_nil ?_)
            iterate 7 (refine tree_still rfl rfl ?_; go_big_quiet_step (fail); refine wpQuiet_nil ?_)
            refine tree_two rfl rfl rfl rfl ?_ ?_
            · go_simp
              refine (HL.out.kw).mono ?_
              rintro r w5 ⟨rfl, hw5⟩
              replace hw5 := hw5.symm
              subst hw5
              refine ⟨⟨⟨_, HC4.out⟩, rfl⟩, ?_⟩
              refine tree_one rfl rfl ?_
              go_simp
              refine ⟨⟨⟨_, HC4.out⟩, rfl⟩, ?_⟩
              iterate 5 (refine tree_still rfl rfl ?_; go_big_quiet_step (fail); refine wpQuiet_nil ?_)
              refine tree_one rfl rfl ?_
              go_simp
              refine (HL.out.ks).mono ?_
              rintro r w5 ⟨rfl, hw5⟩
              replace hw5 := hw5.symm
              subst hw5
              refine ⟨⟨⟨_, HC4.out⟩, rfl⟩, ?_⟩
              iterate 2 (refine tree_still rfl rfl ?_; go_big_quiet_step (fail); refine wpQuiet_nil ?_)
              refine tree_done ?_
              clear g4 g2 g6 ne
              go_wp2
              go_roundw
              case rel => exact ⟨k + 1, b, rfl, by go_num, by omega, HP4⟩
              case measure => simp [intOf]; omega
            · go_simp
              refine ⟨⟨⟨_, HC4.out⟩, rfl⟩, ?_⟩
              refine tree_one rfl rfl ?_
              go_simp
              refine (HL.out.kw).mono ?_
              rintro r w5 ⟨rfl, hw5⟩
              replace hw5 := hw5.symm
              subst hw5
              refine ⟨⟨⟨_, HC4.out⟩, rfl⟩, ?_⟩
              iterate 5 (refine tree_still rfl rfl ?_; go_big_quiet_step (fail); refine wpQuiet_nil ?_)
              refine tree_one rfl rfl ?_
              go_simp
              refine (HL.out.ks).mono ?_
              rintro r w5 ⟨rfl, hw5⟩
              replace hw5 := hw5.symm
              subst hw5
              refine ⟨⟨⟨_, HC4.out⟩, rfl⟩, ?_⟩
              iterate 2 (refine tree_still rfl rfl ?_; go_big_quiet_step (fail); refine wpQuiet_nil ?_)
              refine tree_done ?_
              clear g4 g2 g6 ne
              go_wp2
              go_roundw
              case rel => exact ⟨k + 1, b, rfl, by go_num, by omega, HP4⟩
              case measure => simp [intOf]; omega
          · go_simp
            refine ⟨⟨⟨_, HC4.out⟩, rfl⟩, ?_⟩
            iterate 1 (refine tree_still rfl rfl ?_; go_big_quiet_step (fail); refine wpQuiet_nil ?_)
            refine tree_one rfl rfl ?_
            go_simp
            refine (HL.out.kp).mono ?_
            rintro r w5 ⟨rfl, hw5⟩
            replace hw5 := hw5.symm
            subst hw5
            refine ⟨⟨⟨_, HC4.out⟩, rfl⟩, ?_⟩
            iterate 7 (refine tree_still rfl rfl ?_; go_big_quiet_step (fail); refine wpQuiet_nil ?_)
            refine tree_two rfl rfl rfl rfl ?_ ?_
            · go_simp
              refine (HL.out.kw).mono ?_
              rintro r w5 ⟨rfl, hw5⟩
              replace hw5 := hw5.symm
              subst hw5
              refine ⟨⟨⟨_, HC4.out⟩, rfl⟩, ?_⟩
              refine tree_one rfl rfl ?_
              go_simp
              refine ⟨⟨⟨_, HC4.out⟩, rfl⟩, ?_⟩
              iterate 5 (refine tree_still rfl rfl ?_; go_big_quiet_step (fail); refine wpQuiet_nil ?_)
              refine tree_one rfl rfl ?_
              go_simp
              refine (HL.out.ks).mono ?_
              rintro r w5 ⟨rfl, hw5⟩
              replace hw5 := hw5.symm
              subst hw5
              refine ⟨⟨⟨_, HC4.out⟩, rfl⟩, ?_⟩
              iterate 2 (refine tree_still rfl rfl ?_; go_big_quiet_step (fail); refine wpQuiet_nil ?_)
              refine tree_done ?_
              clear g4 g2 g6 ne
              go_wp2
              go_roundw
              case rel => exact ⟨k + 1, b, rfl, by go_num, by omega, HP4⟩
              case measure => simp [intOf]; omega
            · go_simp
              refine ⟨⟨⟨_, HC4.out⟩, rfl⟩, ?_⟩
              refine tree_one rfl rfl ?_
              go_simp
              refine (HL.out.kw).mono ?_
              rintro r w5 ⟨rfl, hw5⟩
              replace hw5 := hw5.symm
              subst hw5
              refine ⟨⟨⟨_, HC4.out⟩, rfl⟩, ?_⟩
              iterate 5 (refine tree_still rfl rfl ?_; go_big_quiet_step (fail); refine wpQuiet_nil ?_)
              refine tree_one rfl rfl ?_
              go_simp
              refine (HL.out.ks).mono ?_
              rintro r w5 ⟨rfl, hw5⟩
              replace hw5 := hw5.symm
              subst hw5
              refine ⟨⟨⟨_, HC4.out⟩, rfl⟩, ?_⟩
              iterate 2 (refine tree_still rfl rfl ?_; go_big_quiet_step (fail); refine wpQuiet_nil ?_)
              refine tree_done ?_
              clear g4 g2 g6 ne
              go_wp2
              go_roundw
              case rel => exact ⟨k + 1, b, rfl, by go_num, by omega, HP4⟩
              case measure => simp [intOf]; omega
        · go_simp
          refine ⟨⟨⟨_, HC4.out⟩, rfl⟩, ?_⟩
          refine tree_one rfl rfl ?_
          go_simp
          refine (HL.out.kd).mono ?_
          rintro r w5 ⟨rfl, hw5⟩
          replace hw5 := hw5.symm
          subst hw5
          refine ⟨⟨⟨_, HC4.out⟩, rfl⟩, ?_⟩
          iterate 7 (refine tree_still rfl rfl ?_; go_big_quiet_step (fail); refine wpQuiet_nil ?_)
          refine tree_two rfl rfl rfl rfl ?_ ?_
          · go_simp
            refine (HL.out.kp).mono ?_
            rintro r w5 ⟨rfl, hw5⟩
            replace hw5 := hw5.symm
            subst hw5
            refine ⟨⟨⟨_, HC4.out⟩, rfl⟩, ?_⟩
            refine tree_one rfl rfl ?_
            go_simp
            refine ⟨⟨⟨_, HC4.out⟩, rfl⟩, ?_⟩
            iterate 1 (refine tree_still rfl rfl ?_; go_big_quiet_step (fail); refine wpQuiet_nil ?_)
            iterate 7 (refine tree_still rfl rfl ?_; go_big_quiet_step (fail); refine wpQuiet_nil ?_)
            refine tree_two rfl rfl rfl rfl ?_ ?_
            · go_simp
              refine (HL.out.kw).mono ?_
              rintro r w5 ⟨rfl, hw5⟩
              replace hw5 := hw5.symm
              subst hw5
              refine ⟨⟨⟨_, HC4.out⟩, rfl⟩, ?_⟩
              refine tree_one rfl rfl ?_
              go_simp
              refine ⟨⟨⟨_, HC4.out⟩, rfl⟩, ?_⟩
              iterate 5 (refine tree_still rfl rfl ?_; go_big_quiet_step (fail); refine wpQuiet_nil ?_)
              refine tree_one rfl rfl ?_
              go_simp
              refine (HL.out.ks).mono ?_
              rintro r w5 ⟨rfl, hw5⟩
              replace hw5 := hw5.symm
              subst hw5
              refine ⟨⟨⟨_, HC4.out⟩, rfl⟩, ?_⟩
              iterate 2 (refine tree_still rfl rfl ?_; go_big_quiet_step (fail); refine wpQuiet_nil ?_)
              refine tree_done ?_
              clear g4 g2 g6 ne
              go_wp2
              go_roundw
              case rel => exact ⟨k + 1, b, rfl, by go_num, by omega, HP4⟩
              case measure => simp [intOf]; omega
            · go_simp
              refine ⟨⟨⟨_, HC4.out⟩, rfl⟩, ?_⟩
              refine tree_one rfl rfl ?_
              go_simp
              refine (HL.out.kw).mono ?_
              rintro r w5 ⟨rfl, hw5⟩
              replace hw5 := hw5.symm
              subst hw5
              refine ⟨⟨⟨_, HC4.out⟩, rfl⟩, ?_⟩
              iterate 5 (refine tree_still rfl rfl ?_; go_big_quiet_step (fail); refine wpQuiet_nil ?_)
              refine tree_one rfl rfl ?_
              go_simp
              refine (HL.out.ks).mono ?_
              rintro r w5 ⟨rfl, hw5⟩
              replace hw5 := hw5.symm
              subst hw5
              refine ⟨⟨⟨_, HC4.out⟩, rfl⟩, ?_⟩
              iterate 2 (refine tree_still rfl rfl ?_; go_big_quiet_step (fail); refine wpQuiet_nil ?_)
              refine tree_done ?_
              clear g4 g2 g6 ne
              go_wp2
              go_roundw
              case rel => exact ⟨k + 1, b, rfl, by go_num, by omega, HP4⟩
              case measure => simp [intOf]; omega
          · go_simp
            refine ⟨⟨⟨_, HC4.out⟩, rfl⟩, ?_⟩
            iterate 1 (refine tree_still rfl rfl ?_; go_big_quiet_step (fail); refine wpQuiet_nil ?_)
            refine tree_one rfl rfl ?_
            go_simp
            refine (HL.out.kp).mono ?_
            rintro r w5 ⟨rfl, hw5⟩
            replace hw5 := hw5.symm
            subst hw5
            refine ⟨⟨⟨_, HC4.out⟩, rfl⟩, ?_⟩
            iterate 7 (refine tree_still rfl rfl ?_; go_big_quiet_step (fail); refine wpQuiet_nil ?_)
            refine tree_two rfl rfl rfl rfl ?_ ?_
            · go_simp
              refine (HL.out.kw).mono ?_
              rintro r w5 ⟨rfl, hw5⟩
              replace hw5 := hw5.symm
              subst hw5
              refine ⟨⟨⟨_, HC4.out⟩, rfl⟩, ?_⟩
              refine tree_one rfl rfl ?_
              go_simp
              refine ⟨⟨⟨_, HC4.out⟩, rfl⟩, ?_⟩
              iterate 5 (refine tree_still rfl rfl ?_; go_big_quiet_step (fail); refine wpQuiet_nil ?_)
              refine tree_one rfl rfl ?_
              go_simp
              refine (HL.out.ks).mono ?_
              rintro r w5 ⟨rfl, hw5⟩
              replace hw5 := hw5.symm
              subst hw5
              refine ⟨⟨⟨_, HC4.out⟩, rfl⟩, ?_⟩
              iterate 2 (refine tree_still rfl rfl ?_; go_big_quiet_step (fail); refine wpQuiet_nil ?_)
              refine tree_done ?_
              clear g4 g2 g6 ne
              go_wp2
              go_roundw
              case rel => exact ⟨k + 1, b, rfl, by go_num, by omega, HP4⟩
              case measure => simp [intOf]; omega
            · go_simp
              refine ⟨⟨⟨_, HC4.out⟩, rfl⟩, ?_⟩
              refine tree_one rfl rfl ?_
              go_simp
              refine (HL.out.kw).mono ?_
              rintro r w5 ⟨rfl, hw5⟩
              replace hw5 := hw5.symm
              subst hw5
              refine ⟨⟨⟨_, HC4.out⟩, rfl⟩, ?_⟩
              iterate 5 (refine tree_still rfl rfl ?_; go_big_quiet_step (fail); refine wpQuiet_nil ?_)
              refine tree_one rfl rfl ?_
              go_simp
              refine (HL.out.ks).mono ?_
              rintro r w5 ⟨rfl, hw5⟩
              replace hw5 := hw5.symm
              subst hw5
              refine ⟨⟨⟨_, HC4.out⟩, rfl⟩, ?_⟩
              iterate 2 (refine tree_still rfl rfl ?_; go_big_quiet_step (fail); refine wpQuiet_nil ?_)
              refine tree_done ?_
              clear g4 g2 g6 ne
              go_wp2
              go_roundw
              case rel => exact ⟨k + 1, b, rfl, by go_num, by omega, HP4⟩
              case measure => simp [intOf]; omega
    · obtain rfl : k = l.length := by omega
      have HBw : Hid (Below w.heap.size w wr) := HI.out.bel
      clear HI HV HE
      go_wp2_with (go_at_call 8; go_must (refine (HAl.out wr).mono ?_; rintro r w7 ⟨rfl, hb7⟩))
      go_ret
      exact ⟨rfl, bnext HBw.out hb7⟩
end Go.Proofs.Ytfkkbloapnlbgaa
