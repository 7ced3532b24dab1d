/-
  Apply of the program: a new state lies in rows of its own.
-/
import Derived.Test.YtjbpfhnagiacmaaGreatApp
import Derived.Laws.EntriesVeiled
namespace Go.Proofs.YtjbpfhnagiacmaaGreat
set_option linter.unusedVariables false
set_option linter.unusedSimpArgs false
set_option synthInstance.maxSize 20000
set_option maxHeartbeats 2000000
set_option maxRecDepth 20000
open Go.RowKit Go.Maps
theorem apply13f {w : World} {lv a b : Value} {S : Sm} {c : Cg} {qs : List Wq} (hl : RowF mc w lv S.l) (hlen : S.l.length ≤ 900) (he : EOk S.e) (hc : CgAt w c a b qs) :
    Calls Tryz.prog 28 #[stv lv S.e, cv c a b] w fun r w' => ∃ v', r = .returned (.tuple #[stv v' (applyM S c).1.e, .int .i64 (applyM S c).2]) ∧ RowF mc w' v' (applyM S c).1.l ∧ (∀ j, v'.ownBlock = some j → w.heap.size ≤ j) ∧ Below w.heap.size w w' := by
  obtain ⟨al, cl, rfl⟩ := hl.len
  obtain ⟨w1, hw1⟩ : ∃ w1, w1 = ((w.alloc (.cells #[.slice al S.l.length cl, .int .i64 S.e] 67)).alloc (.cells (cc c a b).toArray 75)).alloc (.cells #[.slice none 0 0, .int .i64 0] 67) := ⟨_, rfl⟩
  have hb1 : Below w.heap.size w w1 := by rw [hw1]; exact balloc (balloc2 _ _ _) _
  have hs1 : w1.heap.size = w.heap.size + 3 := by rw [hw1]; simp
  have X0 : Blk w1 w.heap.size 67 [.slice al S.l.length cl, .int .i64 S.e] := by rw [hw1]; exact blk3_0 w [.slice al S.l.length cl, .int .i64 S.e] (cc c a b) [.slice none 0 0, .int .i64 0] 67 75 67
  have X1 : Blk w1 (w.heap.size + 1) 75 (cc c a b) := by rw [hw1]; exact blk3_1 w [.slice al S.l.length cl, .int .i64 S.e] (cc c a b) [.slice none 0 0, .int .i64 0] 67 75 67
  have X2 : Blk w1 (w.heap.size + 1 + 1) 67 [.slice none 0 0, .int .i64 0] := by rw [hw1]; exact blk3_2 w [.slice al S.l.length cl, .int .i64 S.e] (cc c a b) [.slice none 0 0, .int .i64 0] 67 75 67
  have HR : Hid (Calls Tryz.prog 62 #[cv c a b] w1 fun r w' => r = .returned (.bool (rightB c)) ∧ Below w1.heap.size w1 w') := (show Calls _ _ _ _ _ from right27 (hc.below hb1))
  have HX : Hid (∀ w', Below w1.heap.size w1 w' → Blk w' w.heap.size 67 [.slice al S.l.length cl, .int .i64 S.e] ∧ Blk w' (w.heap.size + 1) 75 (cc c a b) ∧ Blk w' (w.heap.size + 1 + 1) 67 [.slice none 0 0, .int .i64 0] ∧ Below w.heap.size w w') := fun w' hb => ⟨X0.below hb, X1.below hb, X2.below hb, bnext hb1 hb⟩
  have HC : Hid (∀ w', Below w.heap.size w w' → CgAt w' c a b qs) := fun w' hb => hc.below hb
  have HCl : Hid (∀ w', Below w1.heap.size w1 w' → Calls Tryz.prog 63 #[.slice al S.l.length cl] w' fun r w'' => ∃ y n q, r = .returned (.slice y n q) ∧ n = S.l.length ∧ OwnH w1.heap.size w'' (.slice y n q) S.l ∧ Below w1.heap.size w1 w'') := fun w' hb => by
    refine (clone32 _ S.l w' ((hl.below hb1).below hb) (by omega)).mono ?_
    rintro r w'' ⟨v', rfl, ho, hb'⟩
    obtain ⟨y, q, e1⟩ := ho.rd.len
    subst e1
    exact ⟨y, _, q, rfl, rfl, ⟨ho.1, own_base ho.2 (fun k hk => Nat.le_trans hb.size (ho.lt k hk).1)⟩, bnext hb hb'⟩
  have HW1 : Hid (w1 = ((w.alloc (.cells #[.slice al S.l.length cl, .int .i64 S.e] 67)).alloc (.cells (cc c a b).toArray 75)).alloc (.cells #[.slice none 0 0, .int .i64 0] 67)) := hw1
  have HTn : Hid (∀ g, g = 63 + c.k.toNat → c.k = 1 ∨ c.k = 2 ∨ c.k = 3 → Turns g S c a b) := fun g hg hk => by
    rcases hk with k1 | k1 | k1
    · rw [hg, k1]; exact turns33 k1 hlen he
    · rw [hg, k1]; exact turns34 k1 hlen
    · rw [hg, k1]; exact turns35 k1 hlen he
  have HS1 : Hid (w1.heap.size = w.heap.size + 3) := hs1
  have HB1 : Hid (Below w.heap.size w w1) := hb1
  have x10 := X1.cell 0 _ rfl; have x11 := X1.cell 1 _ rfl; have x12 := X1.cell 2 _ rfl; have x13 := X1.cell 3 _ rfl; have x14 := X1.cell 4 _ rfl; have x15 := X1.cell 5 _ rfl
  obtain ⟨⟨xa, na, qa, rfl⟩, xb, nb, qb, rfl⟩ := slices_of hc
  unfold applyM
  cases hrb : rightB c
  · rw [hrb] at HR
    simp only [Bool.false_eq_true, if_false]
    clear hl hc hb1 hs1 X0 X1 X2 HCl HTn hw1
    unfold stv cv cc zsm at *
    dsimp only at *
    go_enter Tryz.func28, Tryz.ntmps28
    go_upto_region 1 with fail
    rw [← HW1.out]
    go_wp2_with (go_at_call 62; go_must (refine HR.out.mono ?_; rintro r w2 ⟨rfl, hb2⟩; obtain ⟨Y0, Y1, Y2, HB2⟩ := HX.out w2 hb2; have j0 := Y2.cell 0 _ rfl; have j1 := Y2.cell 1 _ rfl; have i0 := Y2.frozen 0; have i1 := Y2.frozen 1; clear Y0 Y1 Y2))
    refine bodyPost_ret (v := .tuple #[.agg #[.slice none 0 0, .int .i64 0], .int .i64 1]) ?_ rfl ⟨.slice none 0 0, rfl, rowF_nil _, (fun j hj => by cases hj), ?_⟩
    · rw [results_cell_tmp rfl]
      go_simp
    · iterate 2 refine Below.setCell ?_ (by simp; omega) _
      exact HB2
  · rw [hrb] at HR
    simp only [if_true]
    have hk := right_kind hrb
    have HTn2 : Hid (∀ g, g = 63 + c.k.toNat → Turns g S c (.slice xa na qa) (.slice xb nb qb)) := fun g hg => HTn.out g hg hk
    clear hl hc hb1 hs1 X0 X1 X2 hw1 hrb HTn
    rcases hk with hk | hk | hk
    · have HT : Hid (∀ (w' : World) (B tb : Nat) (lv : Value) (qs : List Wq), TrnAt w' B tb lv S.e c (.slice xa na qa) (.slice xb nb qb) S.l → CgAt w' c (.slice xa na qa) (.slice xb nb qb) qs → B ≤ w'.heap.size →
          Calls Tryz.prog 64 #[ptr tb] w' fun r w'' => ∃ x n q, r = .returned (.int .i64 (turnK S c)) ∧ TrnAt w'' B tb (.slice x n q) (turnS S c).e c (.slice xa na qa) (.slice xb nb qb) (turnS S c).l ∧ Below B w' w'') := fun w' B tb lv qs h1 h2 h3 => by
        refine (HTn2.out 64 (by rw [hk]; rfl) w' B tb lv qs h1 h2 h3).mono ?_
        rintro r w'' ⟨lv', rfl, h4, h5⟩
        obtain ⟨x, q, e1⟩ := h4.own.rd.len
        subst e1
        exact ⟨x, _, q, rfl, h4, h5⟩
      clear HTn2
      generalize turnK S c = tk at *
      generalize turnS S c = T at *
      obtain ⟨R, hR⟩ : ∃ R : Sm × Int, R = if tk = 0 then (T, 0) else (zsm, tk) := ⟨_, rfl⟩
      have HRR : Hid (R = if tk = 0 then (T, 0) else (zsm, tk)) := hR
      rw [← hR]
      clear hR
      obtain ⟨ck, cw, cp, cm, cws, co⟩ := c
      dsimp only at hk
      subst hk
      unfold stv cv cc at *
      dsimp only at *
      have z0 := fun z : WIn (fun w' => Blk w' w.heap.size 67 [.slice al S.l.length cl, .int .i64 S.e] ∧ Blk w' (w.heap.size + 1) 75 [.int .i64 1, .int .i64 cw, .int .u64 cp, .int .i64 cm, .slice xa na qa, .slice xb nb qb]) => z.ok.1.cell 0 _ rfl
      have z1 := fun z : WIn (fun w' => Blk w' w.heap.size 67 [.slice al S.l.length cl, .int .i64 S.e] ∧ Blk w' (w.heap.size + 1) 75 [.int .i64 1, .int .i64 cw, .int .u64 cp, .int .i64 cm, .slice xa na qa, .slice xb nb qb]) => z.ok.1.cell 1 _ rfl
      have y0 := fun z : WIn (fun w' => Blk w' w.heap.size 67 [.slice al S.l.length cl, .int .i64 S.e] ∧ Blk w' (w.heap.size + 1) 75 [.int .i64 1, .int .i64 cw, .int .u64 cp, .int .i64 cm, .slice xa na qa, .slice xb nb qb]) => z.ok.2.cell 0 _ rfl
      have y1 := fun z : WIn (fun w' => Blk w' w.heap.size 67 [.slice al S.l.length cl, .int .i64 S.e] ∧ Blk w' (w.heap.size + 1) 75 [.int .i64 1, .int .i64 cw, .int .u64 cp, .int .i64 cm, .slice xa na qa, .slice xb nb qb]) => z.ok.2.cell 1 _ rfl
      have y2 := fun z : WIn (fun w' => Blk w' w.heap.size 67 [.slice al S.l.length cl, .int .i64 S.e] ∧ Blk w' (w.heap.size + 1) 75 [.int .i64 1, .int .i64 cw, .int .u64 cp, .int .i64 cm, .slice xa na qa, .slice xb nb qb]) => z.ok.2.cell 2 _ rfl
      have y3 := fun z : WIn (fun w' => Blk w' w.heap.size 67 [.slice al S.l.length cl, .int .i64 S.e] ∧ Blk w' (w.heap.size + 1) 75 [.int .i64 1, .int .i64 cw, .int .u64 cp, .int .i64 cm, .slice xa na qa, .slice xb nb qb]) => z.ok.2.cell 3 _ rfl
      have y4 := fun z : WIn (fun w' => Blk w' w.heap.size 67 [.slice al S.l.length cl, .int .i64 S.e] ∧ Blk w' (w.heap.size + 1) 75 [.int .i64 1, .int .i64 cw, .int .u64 cp, .int .i64 cm, .slice xa na qa, .slice xb nb qb]) => z.ok.2.cell 4 _ rfl
      have y5 := fun z : WIn (fun w' => Blk w' w.heap.size 67 [.slice al S.l.length cl, .int .i64 S.e] ∧ Blk w' (w.heap.size + 1) 75 [.int .i64 1, .int .i64 cw, .int .u64 cp, .int .i64 cm, .slice xa na qa, .slice xb nb qb]) => z.ok.2.cell 5 _ rfl
      have ne : Nonempty (WIn (fun w' => Blk w' w.heap.size 67 [.slice al S.l.length cl, .int .i64 S.e] ∧ Blk w' (w.heap.size + 1) 75 [.int .i64 1, .int .i64 cw, .int .u64 cp, .int .i64 cm, .slice xa na qa, .slice xb nb qb])) := ⟨⟨w1, (HX.out w1 (Below.refl _ _)).1, (HX.out w1 (Below.refl _ _)).2.1⟩⟩
      go_enter Tryz.func28, Tryz.ntmps28
      go_upto_region 1 with fail
      rw [← HW1.out]
      go_upto_region 3 with (go_at_call 62; go_must (refine HR.out.mono ?_; rintro r w2 ⟨rfl, hb2⟩))
      have HB2 : Hid (Below w1.heap.size w1 w2.drew) := (show Below _ _ _ from hb2.drew)
      have HC2 : Hid (Blk w2.drew w.heap.size 67 [.slice al S.l.length cl, .int .i64 S.e] ∧ Blk w2.drew (w.heap.size + 1) 75 [.int .i64 1, .int .i64 cw, .int .u64 cp, .int .i64 cm, .slice xa na qa, .slice xb nb qb]) := ⟨(HX.out _ HB2.out).1, (HX.out _ HB2.out).2.1⟩
      clear hb2 x10 x11 x12 x13 x14 x15
      refine wp_region_tree (C := fun w' => ∃ z : WIn (fun w' => Blk w' w.heap.size 67 [.slice al S.l.length cl, .int .i64 S.e] ∧ Blk w' (w.heap.size + 1) 75 [.int .i64 1, .int .i64 cw, .int .u64 cp, .int .i64 cm, .slice xa na qa, .slice xb nb qb]), w' = z.w) (.still 0 (.still 1 (.still 3 (.still 4 (.still 6 (.one 2 (.still 5 (.still 7 (.one 8 (.still 9 .done)))))))))) (by kernel_rfl) (by kernel_rfl) ⟨⟨w2.drew, HC2.out⟩, rfl⟩ ?_
      generalize w2.drew = wd at *
      iterate 5 (refine tree_still rfl rfl ?_; go_big_quiet_step (fail); refine wpQuiet_nil ?_)
      refine tree_one rfl rfl ?_
      go_simp
      refine (HCl.out wd HB2.out).mono ?_
      rintro r w3 ⟨ly, ln, lq, rfl, hln, hlo, hb3⟩
      have HLN : Hid (ln = S.l.length) := hln
      have HLO : Hid (OwnH w1.heap.size w3 (.slice ly ln lq) S.l) := hlo
      have HB3 : Hid (Below w1.heap.size w1 w3) := hb3
      clear hln hlo hb3
      refine ⟨⟨⟨_, (HX.out _ HB3.out).1, (HX.out _ HB3.out).2.1⟩, rfl⟩, ?_⟩
      go_simp
      iterate 2 (refine tree_still rfl rfl ?_; go_big_quiet_step (fail); refine wpQuiet_nil ?_)
      refine tree_one rfl rfl ?_
      go_simp
      obtain ⟨w4, hw4⟩ : ∃ w4, w4 = w3.alloc (.cells #[.slice ly ln lq, .int .i64 S.e, .int .i64 1, .int .i64 cw, .int .u64 cp, .int .i64 cm, .slice xa na qa, .slice xb nb qb] 132) := ⟨_, rfl⟩
      have HB4 : Hid (Below w1.heap.size w1 w4) := by rw [hw4]; exact balloc HB3.out _
      have HT4 : Hid (TrnAt w4 w1.heap.size w3.heap.size (.slice ly ln lq) S.e ⟨1, cw, cp, cm, cws, co⟩ (.slice xa na qa) (.slice xb nb qb) S.l) := by
        rw [hw4]
        refine ⟨blk_new w3 _ 132, ⟨HLO.out.1, HLO.out.2.alloc _⟩, fun e1 => ?_, HB3.out.size⟩
        have := (HLO.out.lt _ e1).2
        omega
      have HC4 : Hid (CgAt w4 ⟨1, cw, cp, cm, cws, co⟩ (.slice xa na qa) (.slice xb nb qb) qs) := (HC.out w4 (bnext HB1.out HB4.out))
      rw [← hw4]
      have HZ4 : Hid (w3.heap.size < w4.heap.size) := (show _ < _ by rw [hw4]; simp)
      clear hw4
      refine ⟨⟨⟨_, (HX.out _ HB4.out).1, (HX.out _ HB4.out).2.1⟩, rfl⟩, ?_⟩
      go_simp
      refine tree_still rfl rfl ?_
      go_big_quiet_step (fail)
      refine wpQuiet_nil ?_
      refine tree_done ?_
      generalize w3.heap.size = tb at *
      have q0 := (HX.out w4 HB4.out).2.1.cell 0 _ rfl
      clear z0 z1 y0 y1 y2 y3 y4 y5 ne
      obtain ⟨w5, hw5⟩ : ∃ w5, w5 = w4.alloc (.cells #[.nilFunc, .func (.func 64) #[.pointer (some ⟨tb, 0, none⟩)] #[], .func (.func 65) #[.pointer (some ⟨tb, 0, none⟩)] #[], .func (.func 66) #[.pointer (some ⟨tb, 0, none⟩)] #[]] 134) := ⟨_, rfl⟩
      have h45 : Below w4.heap.size w4 w5 := by rw [hw5]; exact balloc (Below.refl _ _) _
      have HC5 : Hid (Calls Tryz.prog 64 #[ptr tb] w5 fun r w'' => ∃ x n q, r = .returned (.int .i64 tk) ∧ TrnAt w'' w1.heap.size tb (.slice x n q) T.e ⟨1, cw, cp, cm, cws, co⟩ (.slice xa na qa) (.slice xb nb qb) T.l ∧ Below w1.heap.size w1 w'') := by
        refine (HT.out w5 w1.heap.size tb _ qs (HT4.out.below h45) (HC4.out.below h45) (Nat.le_trans HB4.out.size h45.size)).mono ?_
        rintro r w'' ⟨x, n, q, rfl, h1, h2⟩
        exact ⟨x, n, q, rfl, h1, (bnext HB4.out h45).trans h2⟩
      have HW5 : Hid (w5 = w4.alloc (.cells #[.nilFunc, .func (.func 64) #[.pointer (some ⟨tb, 0, none⟩)] #[], .func (.func 65) #[.pointer (some ⟨tb, 0, none⟩)] #[], .func (.func 66) #[.pointer (some ⟨tb, 0, none⟩)] #[]] 134)) := hw5
      have v0 := ((HX.out w4 HB4.out).2.1.below h45).cell 0 _ rfl
      have Z5 := blk_new w4 [.nilFunc, .func (.func 64) #[.pointer (some ⟨tb, 0, none⟩)] #[], .func (.func 65) #[.pointer (some ⟨tb, 0, none⟩)] #[], .func (.func 66) #[.pointer (some ⟨tb, 0, none⟩)] #[]] 134
      have HZ5 : Hid (Blk w5 w4.heap.size 134 [.nilFunc, .func (.func 64) #[.pointer (some ⟨tb, 0, none⟩)] #[], .func (.func 65) #[.pointer (some ⟨tb, 0, none⟩)] #[], .func (.func 66) #[.pointer (some ⟨tb, 0, none⟩)] #[]]) := by rw [hw5]; exact Z5
      have u1 := HZ5.out.cell 1 _ rfl
      clear hw5 h45 Z5 HZ5 q0
      go_upto_region 5 with fail
      rw [← HW5.out]
      by_cases hz : tk = 0
      · have HIF : Hid (R = (T, 0)) := HRR.out.trans (if_pos hz)
        subst hz
        go_wp2_with (go_at_call 64; go_must (refine HC5.out.mono ?_; rintro r w6 ⟨x6, n6, q6, rfl, h61, h62⟩; have Y2 := (HX.out w6 h62).2.2.1; have j0 := Y2.cell 0 _ rfl; have j1 := Y2.cell 1 _ rfl; have i0 := Y2.frozen 0; have i1 := Y2.frozen 1; have k0 := h61.blk.cell 0 _ rfl; have k1 := h61.blk.cell 1 _ rfl; clear Y2))
        refine bodyPost_ret (v := .tuple #[.agg #[.slice x6 n6 q6, .int .i64 T.e], .int .i64 0]) ?_ rfl ⟨.slice x6 n6 q6, by rw [HIF.out], ?_, (fun j hj => by have := (h61.own.lt j hj).1; have h3 := HS1.out; omega), ?_⟩
        · rw [results_cell_tmp rfl]
          go_simp
        · rw [HIF.out]
          refine h61.own.rd.blocks fun k hk hlt => ?_
          have := (h61.own.lt k hk).1
          have h3 := HS1.out
          rw [Below.heap_setCell _ _ _ _ (by simp; omega), Below.heap_setCell _ _ _ _ (by simp; omega)]
        · iterate 2 refine Below.setCell ?_ (by simp; omega) _
          exact (HX.out w6 h62).2.2.2
      · have hz2 : (tk != 0) = true := by simpa using hz
        have HIF : Hid (R = (zsm, tk)) := HRR.out.trans (if_neg hz)
        clear hz
        go_wp2_with (go_at_call 64; go_must (refine HC5.out.mono ?_; rintro r w6 ⟨x6, n6, q6, rfl, h61, h62⟩; have Y2 := (HX.out w6 h62).2.2.1; have j0 := Y2.cell 0 _ rfl; have j1 := Y2.cell 1 _ rfl; have i0 := Y2.frozen 0; have i1 := Y2.frozen 1; clear Y2))
        refine bodyPost_ret (v := .tuple #[.agg #[.slice none 0 0, .int .i64 0], .int .i64 tk]) ?_ rfl ⟨.slice none 0 0, by rw [HIF.out]; rfl, by rw [HIF.out]; exact rowF_nil _, (fun j hj => by cases hj), ?_⟩
        · rw [results_cell_tmp rfl]
          go_simp
        · iterate 2 refine Below.setCell ?_ (by simp; omega) _
          exact (HX.out w6 h62).2.2.2
    · have HT : Hid (∀ (w' : World) (B tb : Nat) (lv : Value) (qs : List Wq), TrnAt w' B tb lv S.e c (.slice xa na qa) (.slice xb nb qb) S.l → CgAt w' c (.slice xa na qa) (.slice xb nb qb) qs → B ≤ w'.heap.size →
          Calls Tryz.prog 65 #[ptr tb] w' fun r w'' => ∃ x n q, r = .returned (.int .i64 (turnK S c)) ∧ TrnAt w'' B tb (.slice x n q) (turnS S c).e c (.slice xa na qa) (.slice xb nb qb) (turnS S c).l ∧ Below B w' w'') := fun w' B tb lv qs h1 h2 h3 => by
        refine (HTn2.out 65 (by rw [hk]; rfl) w' B tb lv qs h1 h2 h3).mono ?_
        rintro r w'' ⟨lv', rfl, h4, h5⟩
        obtain ⟨x, q, e1⟩ := h4.own.rd.len
        subst e1
        exact ⟨x, _, q, rfl, h4, h5⟩
      clear HTn2
      generalize turnK S c = tk at *
      generalize turnS S c = T at *
      obtain ⟨R, hR⟩ : ∃ R : Sm × Int, R = if tk = 0 then (T, 0) else (zsm, tk) := ⟨_, rfl⟩
      have HRR : Hid (R = if tk = 0 then (T, 0) else (zsm, tk)) := hR
      rw [← hR]
      clear hR
      obtain ⟨ck, cw, cp, cm, cws, co⟩ := c
      dsimp only at hk
      subst hk
      unfold stv cv cc at *
      dsimp only at *
      have z0 := fun z : WIn (fun w' => Blk w' w.heap.size 67 [.slice al S.l.length cl, .int .i64 S.e] ∧ Blk w' (w.heap.size + 1) 75 [.int .i64 2, .int .i64 cw, .int .u64 cp, .int .i64 cm, .slice xa na qa, .slice xb nb qb]) => z.ok.1.cell 0 _ rfl
      have z1 := fun z : WIn (fun w' => Blk w' w.heap.size 67 [.slice al S.l.length cl, .int .i64 S.e] ∧ Blk w' (w.heap.size + 1) 75 [.int .i64 2, .int .i64 cw, .int .u64 cp, .int .i64 cm, .slice xa na qa, .slice xb nb qb]) => z.ok.1.cell 1 _ rfl
      have y0 := fun z : WIn (fun w' => Blk w' w.heap.size 67 [.slice al S.l.length cl, .int .i64 S.e] ∧ Blk w' (w.heap.size + 1) 75 [.int .i64 2, .int .i64 cw, .int .u64 cp, .int .i64 cm, .slice xa na qa, .slice xb nb qb]) => z.ok.2.cell 0 _ rfl
      have y1 := fun z : WIn (fun w' => Blk w' w.heap.size 67 [.slice al S.l.length cl, .int .i64 S.e] ∧ Blk w' (w.heap.size + 1) 75 [.int .i64 2, .int .i64 cw, .int .u64 cp, .int .i64 cm, .slice xa na qa, .slice xb nb qb]) => z.ok.2.cell 1 _ rfl
      have y2 := fun z : WIn (fun w' => Blk w' w.heap.size 67 [.slice al S.l.length cl, .int .i64 S.e] ∧ Blk w' (w.heap.size + 1) 75 [.int .i64 2, .int .i64 cw, .int .u64 cp, .int .i64 cm, .slice xa na qa, .slice xb nb qb]) => z.ok.2.cell 2 _ rfl
      have y3 := fun z : WIn (fun w' => Blk w' w.heap.size 67 [.slice al S.l.length cl, .int .i64 S.e] ∧ Blk w' (w.heap.size + 1) 75 [.int .i64 2, .int .i64 cw, .int .u64 cp, .int .i64 cm, .slice xa na qa, .slice xb nb qb]) => z.ok.2.cell 3 _ rfl
      have y4 := fun z : WIn (fun w' => Blk w' w.heap.size 67 [.slice al S.l.length cl, .int .i64 S.e] ∧ Blk w' (w.heap.size + 1) 75 [.int .i64 2, .int .i64 cw, .int .u64 cp, .int .i64 cm, .slice xa na qa, .slice xb nb qb]) => z.ok.2.cell 4 _ rfl
      have y5 := fun z : WIn (fun w' => Blk w' w.heap.size 67 [.slice al S.l.length cl, .int .i64 S.e] ∧ Blk w' (w.heap.size + 1) 75 [.int .i64 2, .int .i64 cw, .int .u64 cp, .int .i64 cm, .slice xa na qa, .slice xb nb qb]) => z.ok.2.cell 5 _ rfl
      have ne : Nonempty (WIn (fun w' => Blk w' w.heap.size 67 [.slice al S.l.length cl, .int .i64 S.e] ∧ Blk w' (w.heap.size + 1) 75 [.int .i64 2, .int .i64 cw, .int .u64 cp, .int .i64 cm, .slice xa na qa, .slice xb nb qb])) := ⟨⟨w1, (HX.out w1 (Below.refl _ _)).1, (HX.out w1 (Below.refl _ _)).2.1⟩⟩
      go_enter Tryz.func28, Tryz.ntmps28
      go_upto_region 1 with fail
      rw [← HW1.out]
      go_upto_region 3 with (go_at_call 62; go_must (refine HR.out.mono ?_; rintro r w2 ⟨rfl, hb2⟩))
      have HB2 : Hid (Below w1.heap.size w1 w2.drew) := (show Below _ _ _ from hb2.drew)
      have HC2 : Hid (Blk w2.drew w.heap.size 67 [.slice al S.l.length cl, .int .i64 S.e] ∧ Blk w2.drew (w.heap.size + 1) 75 [.int .i64 2, .int .i64 cw, .int .u64 cp, .int .i64 cm, .slice xa na qa, .slice xb nb qb]) := ⟨(HX.out _ HB2.out).1, (HX.out _ HB2.out).2.1⟩
      clear hb2 x10 x11 x12 x13 x14 x15
      refine wp_region_tree (C := fun w' => ∃ z : WIn (fun w' => Blk w' w.heap.size 67 [.slice al S.l.length cl, .int .i64 S.e] ∧ Blk w' (w.heap.size + 1) 75 [.int .i64 2, .int .i64 cw, .int .u64 cp, .int .i64 cm, .slice xa na qa, .slice xb nb qb]), w' = z.w) (.still 0 (.still 1 (.still 3 (.still 4 (.still 6 (.one 2 (.still 5 (.still 7 (.one 8 (.still 9 .done)))))))))) (by kernel_rfl) (by kernel_rfl) ⟨⟨w2.drew, HC2.out⟩, rfl⟩ ?_
      generalize w2.drew = wd at *
      iterate 5 (refine tree_still rfl rfl ?_; go_big_quiet_step (fail); refine wpQuiet_nil ?_)
      refine tree_one rfl rfl ?_
      go_simp
      refine (HCl.out wd HB2.out).mono ?_
      rintro r w3 ⟨ly, ln, lq, rfl, hln, hlo, hb3⟩
      have HLN : Hid (ln = S.l.length) := hln
      have HLO : Hid (OwnH w1.heap.size w3 (.slice ly ln lq) S.l) := hlo
      have HB3 : Hid (Below w1.heap.size w1 w3) := hb3
      clear hln hlo hb3
      refine ⟨⟨⟨_, (HX.out _ HB3.out).1, (HX.out _ HB3.out).2.1⟩, rfl⟩, ?_⟩
      go_simp
      iterate 2 (refine tree_still rfl rfl ?_; go_big_quiet_step (fail); refine wpQuiet_nil ?_)
      refine tree_one rfl rfl ?_
      go_simp
      obtain ⟨w4, hw4⟩ : ∃ w4, w4 = w3.alloc (.cells #[.slice ly ln lq, .int .i64 S.e, .int .i64 2, .int .i64 cw, .int .u64 cp, .int .i64 cm, .slice xa na qa, .slice xb nb qb] 132) := ⟨_, rfl⟩
      have HB4 : Hid (Below w1.heap.size w1 w4) := by rw [hw4]; exact balloc HB3.out _
      have HT4 : Hid (TrnAt w4 w1.heap.size w3.heap.size (.slice ly ln lq) S.e ⟨2, cw, cp, cm, cws, co⟩ (.slice xa na qa) (.slice xb nb qb) S.l) := by
        rw [hw4]
        refine ⟨blk_new w3 _ 132, ⟨HLO.out.1, HLO.out.2.alloc _⟩, fun e1 => ?_, HB3.out.size⟩
        have := (HLO.out.lt _ e1).2
        omega
      have HC4 : Hid (CgAt w4 ⟨2, cw, cp, cm, cws, co⟩ (.slice xa na qa) (.slice xb nb qb) qs) := (HC.out w4 (bnext HB1.out HB4.out))
      rw [← hw4]
      have HZ4 : Hid (w3.heap.size < w4.heap.size) := (show _ < _ by rw [hw4]; simp)
      clear hw4
      refine ⟨⟨⟨_, (HX.out _ HB4.out).1, (HX.out _ HB4.out).2.1⟩, rfl⟩, ?_⟩
      go_simp
      refine tree_still rfl rfl ?_
      go_big_quiet_step (fail)
      refine wpQuiet_nil ?_
      refine tree_done ?_
      generalize w3.heap.size = tb at *
      have q0 := (HX.out w4 HB4.out).2.1.cell 0 _ rfl
      clear z0 z1 y0 y1 y2 y3 y4 y5 ne
      obtain ⟨w5, hw5⟩ : ∃ w5, w5 = w4.alloc (.cells #[.nilFunc, .func (.func 64) #[.pointer (some ⟨tb, 0, none⟩)] #[], .func (.func 65) #[.pointer (some ⟨tb, 0, none⟩)] #[], .func (.func 66) #[.pointer (some ⟨tb, 0, none⟩)] #[]] 134) := ⟨_, rfl⟩
      have h45 : Below w4.heap.size w4 w5 := by rw [hw5]; exact balloc (Below.refl _ _) _
      have HC5 : Hid (Calls Tryz.prog 65 #[ptr tb] w5 fun r w'' => ∃ x n q, r = .returned (.int .i64 tk) ∧ TrnAt w'' w1.heap.size tb (.slice x n q) T.e ⟨2, cw, cp, cm, cws, co⟩ (.slice xa na qa) (.slice xb nb qb) T.l ∧ Below w1.heap.size w1 w'') := by
        refine (HT.out w5 w1.heap.size tb _ qs (HT4.out.below h45) (HC4.out.below h45) (Nat.le_trans HB4.out.size h45.size)).mono ?_
        rintro r w'' ⟨x, n, q, rfl, h1, h2⟩
        exact ⟨x, n, q, rfl, h1, (bnext HB4.out h45).trans h2⟩
      have HW5 : Hid (w5 = w4.alloc (.cells #[.nilFunc, .func (.func 64) #[.pointer (some ⟨tb, 0, none⟩)] #[], .func (.func 65) #[.pointer (some ⟨tb, 0, none⟩)] #[], .func (.func 66) #[.pointer (some ⟨tb, 0, none⟩)] #[]] 134)) := hw5
      have v0 := ((HX.out w4 HB4.out).2.1.below h45).cell 0 _ rfl
      have Z5 := blk_new w4 [.nilFunc, .func (.func 64) #[.pointer (some ⟨tb, 0, none⟩)] #[], .func (.func 65) #[.pointer (some ⟨tb, 0, none⟩)] #[], .func (.func 66) #[.pointer (some ⟨tb, 0, none⟩)] #[]] 134
      have HZ5 : Hid (Blk w5 w4.heap.size 134 [.nilFunc, .func (.func 64) #[.pointer (some ⟨tb, 0, none⟩)] #[], .func (.func 65) #[.pointer (some ⟨tb, 0, none⟩)] #[], .func (.func 66) #[.pointer (some ⟨tb, 0, none⟩)] #[]]) := by rw [hw5]; exact Z5
      have u1 := HZ5.out.cell 2 _ rfl
      clear hw5 h45 Z5 HZ5 q0
      go_upto_region 5 with fail
      rw [← HW5.out]
      by_cases hz : tk = 0
      · have HIF : Hid (R = (T, 0)) := HRR.out.trans (if_pos hz)
        subst hz
        go_wp2_with (go_at_call 65; go_must (refine HC5.out.mono ?_; rintro r w6 ⟨x6, n6, q6, rfl, h61, h62⟩; have Y2 := (HX.out w6 h62).2.2.1; have j0 := Y2.cell 0 _ rfl; have j1 := Y2.cell 1 _ rfl; have i0 := Y2.frozen 0; have i1 := Y2.frozen 1; have k0 := h61.blk.cell 0 _ rfl; have k1 := h61.blk.cell 1 _ rfl; clear Y2))
        refine bodyPost_ret (v := .tuple #[.agg #[.slice x6 n6 q6, .int .i64 T.e], .int .i64 0]) ?_ rfl ⟨.slice x6 n6 q6, by rw [HIF.out], ?_, (fun j hj => by have := (h61.own.lt j hj).1; have h3 := HS1.out; omega), ?_⟩
        · rw [results_cell_tmp rfl]
          go_simp
        · rw [HIF.out]
          refine h61.own.rd.blocks fun k hk hlt => ?_
          have := (h61.own.lt k hk).1
          have h3 := HS1.out
          rw [Below.heap_setCell _ _ _ _ (by simp; omega), Below.heap_setCell _ _ _ _ (by simp; omega)]
        · iterate 2 refine Below.setCell ?_ (by simp; omega) _
          exact (HX.out w6 h62).2.2.2
      · have hz2 : (tk != 0) = true := by simpa using hz
        have HIF : Hid (R = (zsm, tk)) := HRR.out.trans (if_neg hz)
        clear hz
        go_wp2_with (go_at_call 65; go_must (refine HC5.out.mono ?_; rintro r w6 ⟨x6, n6, q6, rfl, h61, h62⟩; have Y2 := (HX.out w6 h62).2.2.1; have j0 := Y2.cell 0 _ rfl; have j1 := Y2.cell 1 _ rfl; have i0 := Y2.frozen 0; have i1 := Y2.frozen 1; clear Y2))
        refine bodyPost_ret (v := .tuple #[.agg #[.slice none 0 0, .int .i64 0], .int .i64 tk]) ?_ rfl ⟨.slice none 0 0, by rw [HIF.out]; rfl, by rw [HIF.out]; exact rowF_nil _, (fun j hj => by cases hj), ?_⟩
        · rw [results_cell_tmp rfl]
          go_simp
        · iterate 2 refine Below.setCell ?_ (by simp; omega) _
          exact (HX.out w6 h62).2.2.2
    · have HT : Hid (∀ (w' : World) (B tb : Nat) (lv : Value) (qs : List Wq), TrnAt w' B tb lv S.e c (.slice xa na qa) (.slice xb nb qb) S.l → CgAt w' c (.slice xa na qa) (.slice xb nb qb) qs → B ≤ w'.heap.size →
          Calls Tryz.prog 66 #[ptr tb] w' fun r w'' => ∃ x n q, r = .returned (.int .i64 (turnK S c)) ∧ TrnAt w'' B tb (.slice x n q) (turnS S c).e c (.slice xa na qa) (.slice xb nb qb) (turnS S c).l ∧ Below B w' w'') := fun w' B tb lv qs h1 h2 h3 => by
        refine (HTn2.out 66 (by rw [hk]; rfl) w' B tb lv qs h1 h2 h3).mono ?_
        rintro r w'' ⟨lv', rfl, h4, h5⟩
        obtain ⟨x, q, e1⟩ := h4.own.rd.len
        subst e1
        exact ⟨x, _, q, rfl, h4, h5⟩
      clear HTn2
      generalize turnK S c = tk at *
      generalize turnS S c = T at *
      obtain ⟨R, hR⟩ : ∃ R : Sm × Int, R = if tk = 0 then (T, 0) else (zsm, tk) := ⟨_, rfl⟩
      have HRR : Hid (R = if tk = 0 then (T, 0) else (zsm, tk)) := hR
      rw [← hR]
      clear hR
      obtain ⟨ck, cw, cp, cm, cws, co⟩ := c
      dsimp only at hk
      subst hk
      unfold stv cv cc at *
      dsimp only at *
      have z0 := fun z : WIn (fun w' => Blk w' w.heap.size 67 [.slice al S.l.length cl, .int .i64 S.e] ∧ Blk w' (w.heap.size + 1) 75 [.int .i64 3, .int .i64 cw, .int .u64 cp, .int .i64 cm, .slice xa na qa, .slice xb nb qb]) => z.ok.1.cell 0 _ rfl
      have z1 := fun z : WIn (fun w' => Blk w' w.heap.size 67 [.slice al S.l.length cl, .int .i64 S.e] ∧ Blk w' (w.heap.size + 1) 75 [.int .i64 3, .int .i64 cw, .int .u64 cp, .int .i64 cm, .slice xa na qa, .slice xb nb qb]) => z.ok.1.cell 1 _ rfl
      have y0 := fun z : WIn (fun w' => Blk w' w.heap.size 67 [.slice al S.l.length cl, .int .i64 S.e] ∧ Blk w' (w.heap.size + 1) 75 [.int .i64 3, .int .i64 cw, .int .u64 cp, .int .i64 cm, .slice xa na qa, .slice xb nb qb]) => z.ok.2.cell 0 _ rfl
      have y1 := fun z : WIn (fun w' => Blk w' w.heap.size 67 [.slice al S.l.length cl, .int .i64 S.e] ∧ Blk w' (w.heap.size + 1) 75 [.int .i64 3, .int .i64 cw, .int .u64 cp, .int .i64 cm, .slice xa na qa, .slice xb nb qb]) => z.ok.2.cell 1 _ rfl
      have y2 := fun z : WIn (fun w' => Blk w' w.heap.size 67 [.slice al S.l.length cl, .int .i64 S.e] ∧ Blk w' (w.heap.size + 1) 75 [.int .i64 3, .int .i64 cw, .int .u64 cp, .int .i64 cm, .slice xa na qa, .slice xb nb qb]) => z.ok.2.cell 2 _ rfl
      have y3 := fun z : WIn (fun w' => Blk w' w.heap.size 67 [.slice al S.l.length cl, .int .i64 S.e] ∧ Blk w' (w.heap.size + 1) 75 [.int .i64 3, .int .i64 cw, .int .u64 cp, .int .i64 cm, .slice xa na qa, .slice xb nb qb]) => z.ok.2.cell 3 _ rfl
      have y4 := fun z : WIn (fun w' => Blk w' w.heap.size 67 [.slice al S.l.length cl, .int .i64 S.e] ∧ Blk w' (w.heap.size + 1) 75 [.int .i64 3, .int .i64 cw, .int .u64 cp, .int .i64 cm, .slice xa na qa, .slice xb nb qb]) => z.ok.2.cell 4 _ rfl
      have y5 := fun z : WIn (fun w' => Blk w' w.heap.size 67 [.slice al S.l.length cl, .int .i64 S.e] ∧ Blk w' (w.heap.size + 1) 75 [.int .i64 3, .int .i64 cw, .int .u64 cp, .int .i64 cm, .slice xa na qa, .slice xb nb qb]) => z.ok.2.cell 5 _ rfl
      have ne : Nonempty (WIn (fun w' => Blk w' w.heap.size 67 [.slice al S.l.length cl, .int .i64 S.e] ∧ Blk w' (w.heap.size + 1) 75 [.int .i64 3, .int .i64 cw, .int .u64 cp, .int .i64 cm, .slice xa na qa, .slice xb nb qb])) := ⟨⟨w1, (HX.out w1 (Below.refl _ _)).1, (HX.out w1 (Below.refl _ _)).2.1⟩⟩
      go_enter Tryz.func28, Tryz.ntmps28
      go_upto_region 1 with fail
      rw [← HW1.out]
      go_upto_region 3 with (go_at_call 62; go_must (refine HR.out.mono ?_; rintro r w2 ⟨rfl, hb2⟩))
      have HB2 : Hid (Below w1.heap.size w1 w2.drew) := (show Below _ _ _ from hb2.drew)
      have HC2 : Hid (Blk w2.drew w.heap.size 67 [.slice al S.l.length cl, .int .i64 S.e] ∧ Blk w2.drew (w.heap.size + 1) 75 [.int .i64 3, .int .i64 cw, .int .u64 cp, .int .i64 cm, .slice xa na qa, .slice xb nb qb]) := ⟨(HX.out _ HB2.out).1, (HX.out _ HB2.out).2.1⟩
      clear hb2 x10 x11 x12 x13 x14 x15
      refine wp_region_tree (C := fun w' => ∃ z : WIn (fun w' => Blk w' w.heap.size 67 [.slice al S.l.length cl, .int .i64 S.e] ∧ Blk w' (w.heap.size + 1) 75 [.int .i64 3, .int .i64 cw, .int .u64 cp, .int .i64 cm, .slice xa na qa, .slice xb nb qb]), w' = z.w) (.still 0 (.still 1 (.still 3 (.still 4 (.still 6 (.one 2 (.still 5 (.still 7 (.one 8 (.still 9 .done)))))))))) (by kernel_rfl) (by kernel_rfl) ⟨⟨w2.drew, HC2.out⟩, rfl⟩ ?_
      generalize w2.drew = wd at *
      iterate 5 (refine tree_still rfl rfl ?_; go_big_quiet_step (fail); refine wpQuiet_nil ?_)
      refine tree_one rfl rfl ?_
      go_simp
      refine (HCl.out wd HB2.out).mono ?_
      rintro r w3 ⟨ly, ln, lq, rfl, hln, hlo, hb3⟩
      have HLN : Hid (ln = S.l.length) := hln
      have HLO : Hid (OwnH w1.heap.size w3 (.slice ly ln lq) S.l) := hlo
      have HB3 : Hid (Below w1.heap.size w1 w3) := hb3
      clear hln hlo hb3
      refine ⟨⟨⟨_, (HX.out _ HB3.out).1, (HX.out _ HB3.out).2.1⟩, rfl⟩, ?_⟩
      go_simp
      iterate 2 (refine tree_still rfl rfl ?_; go_big_quiet_step (fail); refine wpQuiet_nil ?_)
      refine tree_one rfl rfl ?_
      go_simp
      obtain ⟨w4, hw4⟩ : ∃ w4, w4 = w3.alloc (.cells #[.slice ly ln lq, .int .i64 S.e, .int .i64 3, .int .i64 cw, .int .u64 cp, .int .i64 cm, .slice xa na qa, .slice xb nb qb] 132) := ⟨_, rfl⟩
      have HB4 : Hid (Below w1.heap.size w1 w4) := by rw [hw4]; exact balloc HB3.out _
      have HT4 : Hid (TrnAt w4 w1.heap.size w3.heap.size (.slice ly ln lq) S.e ⟨3, cw, cp, cm, cws, co⟩ (.slice xa na qa) (.slice xb nb qb) S.l) := by
        rw [hw4]
        refine ⟨blk_new w3 _ 132, ⟨HLO.out.1, HLO.out.2.alloc _⟩, fun e1 => ?_, HB3.out.size⟩
        have := (HLO.out.lt _ e1).2
        omega
      have HC4 : Hid (CgAt w4 ⟨3, cw, cp, cm, cws, co⟩ (.slice xa na qa) (.slice xb nb qb) qs) := (HC.out w4 (bnext HB1.out HB4.out))
      rw [← hw4]
      have HZ4 : Hid (w3.heap.size < w4.heap.size) := (show _ < _ by rw [hw4]; simp)
      clear hw4
      refine ⟨⟨⟨_, (HX.out _ HB4.out).1, (HX.out _ HB4.out).2.1⟩, rfl⟩, ?_⟩
      go_simp
      refine tree_still rfl rfl ?_
      go_big_quiet_step (fail)
      refine wpQuiet_nil ?_
      refine tree_done ?_
      generalize w3.heap.size = tb at *
      have q0 := (HX.out w4 HB4.out).2.1.cell 0 _ rfl
      clear z0 z1 y0 y1 y2 y3 y4 y5 ne
      obtain ⟨w5, hw5⟩ : ∃ w5, w5 = w4.alloc (.cells #[.nilFunc, .func (.func 64) #[.pointer (some ⟨tb, 0, none⟩)] #[], .func (.func 65) #[.pointer (some ⟨tb, 0, none⟩)] #[], .func (.func 66) #[.pointer (some ⟨tb, 0, none⟩)] #[]] 134) := ⟨_, rfl⟩
      have h45 : Below w4.heap.size w4 w5 := by rw [hw5]; exact balloc (Below.refl _ _) _
      have HC5 : Hid (Calls Tryz.prog 66 #[ptr tb] w5 fun r w'' => ∃ x n q, r = .returned (.int .i64 tk) ∧ TrnAt w'' w1.heap.size tb (.slice x n q) T.e ⟨3, cw, cp, cm, cws, co⟩ (.slice xa na qa) (.slice xb nb qb) T.l ∧ Below w1.heap.size w1 w'') := by
        refine (HT.out w5 w1.heap.size tb _ qs (HT4.out.below h45) (HC4.out.below h45) (Nat.le_trans HB4.out.size h45.size)).mono ?_
        rintro r w'' ⟨x, n, q, rfl, h1, h2⟩
        exact ⟨x, n, q, rfl, h1, (bnext HB4.out h45).trans h2⟩
      have HW5 : Hid (w5 = w4.alloc (.cells #[.nilFunc, .func (.func 64) #[.pointer (some ⟨tb, 0, none⟩)] #[], .func (.func 65) #[.pointer (some ⟨tb, 0, none⟩)] #[], .func (.func 66) #[.pointer (some ⟨tb, 0, none⟩)] #[]] 134)) := hw5
      have v0 := ((HX.out w4 HB4.out).2.1.below h45).cell 0 _ rfl
      have Z5 := blk_new w4 [.nilFunc, .func (.func 64) #[.pointer (some ⟨tb, 0, none⟩)] #[], .func (.func 65) #[.pointer (some ⟨tb, 0, none⟩)] #[], .func (.func 66) #[.pointer (some ⟨tb, 0, none⟩)] #[]] 134
      have HZ5 : Hid (Blk w5 w4.heap.size 134 [.nilFunc, .func (.func 64) #[.pointer (some ⟨tb, 0, none⟩)] #[], .func (.func 65) #[.pointer (some ⟨tb, 0, none⟩)] #[], .func (.func 66) #[.pointer (some ⟨tb, 0, none⟩)] #[]]) := by rw [hw5]; exact Z5
      have u1 := HZ5.out.cell 3 _ rfl
      clear hw5 h45 Z5 HZ5 q0
      go_upto_region 5 with fail
      rw [← HW5.out]
      by_cases hz : tk = 0
      · have HIF : Hid (R = (T, 0)) := HRR.out.trans (if_pos hz)
        subst hz
        go_wp2_with (go_at_call 66; go_must (refine HC5.out.mono ?_; rintro r w6 ⟨x6, n6, q6, rfl, h61, h62⟩; have Y2 := (HX.out w6 h62).2.2.1; have j0 := Y2.cell 0 _ rfl; have j1 := Y2.cell 1 _ rfl; have i0 := Y2.frozen 0; have i1 := Y2.frozen 1; have k0 := h61.blk.cell 0 _ rfl; have k1 := h61.blk.cell 1 _ rfl; clear Y2))
        refine bodyPost_ret (v := .tuple #[.agg #[.slice x6 n6 q6, .int .i64 T.e], .int .i64 0]) ?_ rfl ⟨.slice x6 n6 q6, by rw [HIF.out], ?_, (fun j hj => by have := (h61.own.lt j hj).1; have h3 := HS1.out; omega), ?_⟩
        · rw [results_cell_tmp rfl]
          go_simp
        · rw [HIF.out]
          refine h61.own.rd.blocks fun k hk hlt => ?_
          have := (h61.own.lt k hk).1
          have h3 := HS1.out
          rw [Below.heap_setCell _ _ _ _ (by simp; omega), Below.heap_setCell _ _ _ _ (by simp; omega)]
        · iterate 2 refine Below.setCell ?_ (by simp; omega) _
          exact (HX.out w6 h62).2.2.2
      · have hz2 : (tk != 0) = true := by simpa using hz
        have HIF : Hid (R = (zsm, tk)) := HRR.out.trans (if_neg hz)
        clear hz
        go_wp2_with (go_at_call 66; go_must (refine HC5.out.mono ?_; rintro r w6 ⟨x6, n6, q6, rfl, h61, h62⟩; have Y2 := (HX.out w6 h62).2.2.1; have j0 := Y2.cell 0 _ rfl; have j1 := Y2.cell 1 _ rfl; have i0 := Y2.frozen 0; have i1 := Y2.frozen 1; clear Y2))
        refine bodyPost_ret (v := .tuple #[.agg #[.slice none 0 0, .int .i64 0], .int .i64 tk]) ?_ rfl ⟨.slice none 0 0, by rw [HIF.out]; rfl, by rw [HIF.out]; exact rowF_nil _, (fun j hj => by cases hj), ?_⟩
        · rw [results_cell_tmp rfl]
          go_simp
        · iterate 2 refine Below.setCell ?_ (by simp; omega) _
          exact (HX.out w6 h62).2.2.2
end Go.Proofs.YtjbpfhnagiacmaaGreat
