/-
  EpochsGone, the walk.
-/
import Derived.Test.YtkoeocghoabmbaaGreatGoP
import Derived.Test.YtkoeocghoabmbaaGreatDoS
namespace Go.Proofs.YtkoeocghoabmbaaGreat
set_option linter.unusedVariables false
set_option linter.unusedSimpArgs false
set_option synthInstance.maxSize 20000
set_option maxHeartbeats 2000000
set_option maxRecDepth 20000
open Go.RowKit Go.Maps
set_option maxHeartbeats 8000000 in
theorem gone5 (dv : Value) (ds : List Int) (who many : Int) (w0 : World) (hd : RdU w0 dv ds) (hw : I64 who) (hm : I64 many) : Calls Tryz.prog 5 #[dv, .int .i64 who, .int .i64 many] w0 fun r w' => r = .returned (.bool true) ∧ Below w0.heap.size w0 w' := by
  have HNW : Hid (ds.length ≤ 50 → Calls Tryz.prog 9 #[dv] w0 (NwPost w0 ⟨ds, []⟩)) := fun h => newWorld9 hd (by omega)
  have HDs : Hid (∀ d ∈ ds, U64 d) := hd.1
  obtain ⟨_, da, dc, rfl, hdc, hdm, _⟩ := hd
  have hdm' : dc ≤ 9223372036854775807 := hdm
  have HAl : Hid (∀ w' : World, Calls Tryz.prog 8 #[] w' fun r w'' => r = .returned (.bool true) ∧ Below w'.heap.size w' w'') := fun w' => alive8 w'
  obtain ⟨dn, hdn⟩ : ∃ dn, dn = ds.length := ⟨_, rfl⟩
  rw [← hdn] at HNW hdc ⊢
  clear hdn
  by_cases hok : dn ≤ 50 ∧ (1 ≤ who ∧ who ≤ 3) ∧ 0 ≤ many ∧ many ≤ 6
  · obtain ⟨h50, hwho, hmany⟩ := hok
    obtain ⟨i, hi⟩ : ∃ i : Nat, who = i := ⟨who.toNat, by omega⟩
    obtain ⟨N, hN⟩ : ∃ N : Nat, many = N := ⟨many.toNat, by omega⟩
    subst hi hN
    have hi4 : i < 4 := by omega
    have hi0 : i ≠ 0 := by omega
    have hN6 : N ≤ 6 := by omega
    have HNW2 := HNW.out h50
    clear HNW hwho hmany hw hm
    go_enter Tryz.func5, Tryz.ntmps5
    go_upto_region 4 with (go_at_call 9; go_must (refine HNW2.mono ?_; rintro r w2 ⟨wb, ob, rr, rb, mb, o2, sl2, tl2, rfl, hW2⟩))
    obtain ⟨G0, hG0⟩ : ∃ G0, G0 = gd0 ⟨ds, []⟩ ob rr rb mb := ⟨_, rfl⟩
    obtain ⟨G1, hG1⟩ : ∃ G1, G1 = doM G0 ⟨0, i, 0, [], []⟩ := ⟨_, rfl⟩
    obtain ⟨G2, hG2⟩ : ∃ G2, G2 = doM G1 ⟨3, 0, 0, [], []⟩ := ⟨_, rfl⟩
    obtain ⟨G3, hG3⟩ : ∃ G3, G3 = doM G2 ⟨2, i, 0, [], []⟩ := ⟨_, rfl⟩
    have hI0 : Inv G0 8 1 := by rw [hG0]; exact gd0_inv HDs.out ob rr rb mb
    obtain ⟨hI1, hI2, hI3, hky, oo, hGn⟩ := gone_start HDs.out ob rr rb mb hi4 hi0 (by rw [← hG0]; exact hG1) hG2 hG3
    rw [← hG0] at hW2
    have HW2 : Hid (WG w0 w2 o2 wb G0 sl2 tl2) := hW2
    have HD1 : Hid (∀ w' o sl tl, WG w0 w' o wb G0 sl tl → Calls Tryz.prog 10 #[ptr wb, .agg #[.int .i64 0, .int .i64 i, .int .u64 0, .slice none 0 0, .slice none 0 0]] w' (DoPost w0 w' o wb G1)) := fun w' o sl tl h => by
      rw [hG1]
      exact do10 h hI0.ok hI0.km (by omega) (by omega) (op_lit (by unfold I64; omega) (by unfold I64; omega)) (fun _ => ⟨hI0.ts, hI0.rel⟩)
    have HD2 : Hid (∀ w' o sl tl, WG w0 w' o wb G1 sl tl → Calls Tryz.prog 10 #[ptr wb, .agg #[.int .i64 3, .int .i64 0, .int .u64 0, .slice none 0 0, .slice none 0 0]] w' (DoPost w0 w' o wb G2)) := fun w' o sl tl h => by
      rw [hG2]
      exact do10 h hI1.ok hI1.km (by omega) (by omega) (op_lit (by unfold I64; omega) (by unfold I64; omega)) (fun _ => ⟨hI1.ts, hI1.rel⟩)
    have HD3 : Hid (∀ w' o sl tl, WG w0 w' o wb G2 sl tl → Calls Tryz.prog 10 #[ptr wb, .agg #[.int .i64 2, .int .i64 i, .int .u64 0, .slice none 0 0, .slice none 0 0]] w' (DoPost w0 w' o wb G3)) := fun w' o sl tl h => by
      rw [hG3]
      exact do10 h hI2.ok hI2.km (by omega) (by omega) (op_lit (by unfold I64; omega) (by unfold I64; omega)) (fun _ => ⟨hI2.ts, hI2.rel⟩)
    obtain ⟨key, hkey⟩ : ∃ key, key = G1.S.fresh := ⟨_, rfl⟩
    rw [← hkey] at hky hGn
    have HKy : Hid (∀ w' o sl tl, WG w0 w' o wb G2 sl tl → Calls Tryz.prog 11 #[ptr (G2.rb i), .int .i64 0] w' fun x w'' => x = .returned (.tuple #[.int .u64 key, .int .i64 0]) ∧ w'' = w') := fun w' o sl tl h => by
      have h1 := key11 (h.rings i hi4) 0
      rw [hky] at h1
      exact h1
    have HGn3 : Hid (Gon G3 (3000 + 100 * 0) 4 [key] [oo] i key) := hGn
    clear hG0 hG1 hG2 hG3 hI0 hI1 hI2 hI3 hky hGn hkey hW2 HNW2 HDs
    go_upto_if 58 with (go_at_call 10; first | ((with_reducible refine (HD1.out w2 o2 sl2 tl2 HW2.out).mono ?_); rintro r w3 ⟨rfl, o3, sl3, tl3, hW3, hM3⟩) | (refine (HD2.out w3 o3 sl3 tl3 hW3).mono ?_; rintro r w4 ⟨rfl, o4, sl4, tl4, hW4, hM4⟩))
    have y1 := hW4.blk.cell _ _ (wcs_r G2 sl4 tl4 hi4)
    have HW4 : Hid (WG w0 w4 o4 wb G2 sl4 tl4) := hW4
    clear hW3 hM3 hW4 hM4 HW2 HD1 HD2
    go_upto_if 77 with (first
      | (go_at_call 11; go_must (refine (HKy.out w4 o4 sl4 tl4 HW4.out).mono ?_; rintro r w5 ⟨rfl, hw5⟩; subst w5))
      | (go_at_call 10; go_must (refine (HD3.out w4 o4 sl4 tl4 HW4.out).mono ?_; rintro r w6 ⟨rfl, o6, sl6, tl6, hW6, hM6⟩)))
    have HW6 : Hid (WG w0 w6 o6 wb G3 sl6 tl6) := hW6
    clear y1 hW6 hM6 HW4 HD3 HKy
    go_wp2
    go_loopw [10] (fun iv wr => ∃ k : Nat, iv = .int .i64 k ∧ k ≤ N ∧ ∃ (o7 : Nat → Nat) (G : Gd) (sl tl : Value) (K : List Int) (O : List (List Int)), Hid (WG w0 wr o7 wb G sl tl) ∧ Hid (Gon G (3000 + 100 * k) 4 K O i key) ∧ Hid (K.length = k + 1)) (fun iv _ => N - (intOf iv).toNat)
    case atStart => exact ⟨0, rfl, by omega, o6, G3, sl6, tl6, [key], [oo], HW6.out, HGn3.out, (show [key].length = 0 + 1 from rfl)⟩
    case round =>
      obtain ⟨k, rfl, hk, oR, G, sl, tl, K, O, HWG, HGn, HKl⟩ := hrel
      by_cases hkn : k < N
      · have hep := HGn.out.shr.ep
        have hG := HGn.out.shr.ok
        have hlen := hG.len
        rw [HKl.out] at hep
        have he : G.M.e = (k : Int) := by omega
        obtain ⟨t1, t2, t3, t4, t5, t6, t7, t8⟩ := HGn.out.step hi4 (by omega) (by omega) (by rw [HKl.out]; omega)
        rw [HKl.out] at t7
        obtain ⟨B, hB⟩ : ∃ B, B = opB G := ⟨_, rfl⟩
        have HB : Hid (B = opB G) := hB
        rw [← hB] at t1 t2 t3 t4 t5 t6 t7
        obtain ⟨L, E, hLE⟩ : ∃ L E, (⟨G.M.l, G.M.e + 1⟩ : Sm) = ⟨L, E⟩ := ⟨_, _, rfl⟩
        rw [hLE] at t3
        have HA : Hid (applyM G.M B.c = (⟨L, E⟩, 0)) := t3
        obtain ⟨RW, hRW⟩ : ∃ RW, RW = (learnP B.S (G.P i) B.c).1 := ⟨_, rfl⟩
        rw [← hRW] at t7
        have HRW : Hid (RW = (learnP B.S (G.P i) B.c).1 ∧ (learnP B.S (G.P i) B.c).2 = 11) := ⟨hRW, t4⟩
        have HGe : Hid (Gon { { { { G with S := B.S } with M := ⟨L, E⟩ } with last := B.key } with P := upd4 G.P i RW } (3000 + 100 * (k + 1)) 4 (K ++ [G.S.fresh]) (O ++ [B.o]) i key) := (by
          have h1 := t8
          unfold gonG at h1
          rw [hLE, ← hB, ← hRW] at h1
          exact ⟨h1.shr.le (by omega) (by omega), h1.out, h1.ring, h1.key⟩)
        have HUw : Hid (∀ x ∈ B.c.ws, B.S.unwrap (G.ss i) x.b = (0, 11)) := (by rw [t5]; exact t6)
        have HKn : Hid (keyM RW.ks ((k + 1 : Nat) : Int) = (0, 11)) := t7
        have HBk : Hid (B.k = 0) := t1
        have hBn : (B.key == key) = false := by simpa using t2
        have HBs : Hid (B.c.ws.length ≤ 4 ∧ B.c.o.length ≤ 24) := (by
          have := bg_small (l := G.M.l) (e := G.M.e) (last := G.last) hG.ora (by omega)
          rw [hB]
          exact ⟨Nat.le_trans this.1 hlen, this.2⟩)
        have HO : Hid (Ora B.S 5000) := (by rw [hB]; exact (begin_ora hG.ora G.M.l G.M.e G.last (by omega)).le (by omega))
        have HBg : Hid (∀ w' o', Mv [] wr oR w' o' → Calls Tryz.prog 15 #[ptr G.ob, stv sl G.M.e, .int .u64 G.last] w' (BgPost w' o' G.ob B)) := fun w' o' m' => by
          have hw := HWG.out.mv m' (by simp)
          rw [HB.out]
          exact begin15 hw.orc hG.ora hw.s (by omega) (by omega) hG.mem hG.mok.e hG.last
        have HGk : Hid (GOk G (3000 + 100 * k) 4) := hG
        obtain ⟨sa, sc, hsl⟩ := HWG.out.s.slice
        obtain ⟨ns, hns⟩ : ∃ ns, ns = G.M.l.length := ⟨_, rfl⟩
        rw [← hns] at hsl
        subst hsl
        obtain ⟨ta, tc, htl⟩ := HWG.out.t.slice
        obtain ⟨nt, hnt⟩ : ∃ nt, nt = G.K.l.length := ⟨_, rfl⟩
        rw [← hnt] at htl
        subst htl
        unfold stv at HBg
        obtain ⟨d, hd1, hd2, hd3⟩ := fresh_owner wr oR 30
        have HFr : Hid (30 < d ∧ ∀ k, k < wr.heap.size → oR k ≠ d) := ⟨hd2, hd3⟩
        clear hd1 hd2 hd3 hB hns hnt hRW hLE t1 t2 t3 t4 t5 t6 t7 t8 hep hlen hG he HGn
        go_upto_region 12 with fail
        have ne9 : Nonempty (WIn (fun w' => Blk w' wb 50 (wcs G (.slice sa ns sc) (.slice ta nt tc)))) := ⟨⟨wr, HWG.out.blk⟩⟩
        have z0 : ∀ z : WIn (fun w' => Blk w' wb 50 (wcs G (.slice sa ns sc) (.slice ta nt tc))), _ := fun z => z.ok.cell 0 _ rfl
        have z14 : ∀ z : WIn (fun w' => Blk w' wb 50 (wcs G (.slice sa ns sc) (.slice ta nt tc))), _ := fun z => z.ok.cell 14 _ rfl
        have z15 : ∀ z : WIn (fun w' => Blk w' wb 50 (wcs G (.slice sa ns sc) (.slice ta nt tc))), _ := fun z => z.ok.cell 15 _ rfl
        have z22 : ∀ z : WIn (fun w' => Blk w' wb 50 (wcs G (.slice sa ns sc) (.slice ta nt tc))), _ := fun z => z.ok.cell 22 _ rfl
        go_cut [11, 12, 13] (fun av pv iv wx => ∃ (ab : Nat) (xa5 : Option Addr) (na5 pa5 : Nat) (xb5 : Option Addr) (nb5 pb5 : Nat) (qs5 : List Wq) (o5 : Nat → Nat), av = ptr ab ∧ pv = .int .u64 B.key ∧ iv = .int .i64 B.k ∧ Hid (WG w0 wx o5 wb { G with S := B.S } (.slice sa ns sc) (.slice ta nt tc)) ∧ Hid (CVar wx o5 ab 59 B.c (.slice xa5 na5 pa5) (.slice xb5 nb5 pb5) qs5) ∧ Hid (Mv [1] wr oR wx o5))
        case first =>
          refine wp_region_tree (C := fun w' => ∃ z : WIn (fun w' => Blk w' wb 50 (wcs G (.slice sa ns sc) (.slice ta nt tc))), w' = z.w) (.still 0 (.still 1 (.still 2 (.still 3 (.still 4 (.still 5 (.still 6 (.still 7 (.still 8 (.still 9 (.still 10 (.still 11 (.two 12 (.still 13 (.still 14 (.still 15 (.still 16 (.one 17 (.one 18 (.still 19 (.still 20 .done)))))))) 17 (.one 12 (.still 13 (.still 14 (.still 15 (.still 16 (.one 18 (.still 19 (.still 20 .done))))))))))))))))))))) (by kernel_rfl) (by kernel_rfl) ⟨⟨wr.drew, HWG.out.blk⟩, rfl⟩ ?_
          iterate 12 (refine tree_still rfl rfl ?_; go_big_quiet_step (exact rfl); refine wpQuiet_nil ?_)
          refine tree_two rfl rfl rfl rfl ?_ ?_
          · go_simp
            refine (HBg.out wr.drew oR (mv_drew _ _ _)).mono ?_
            rintro r w5 ⟨a5, b5, rfl, o5, qs5, hO5, hC5, hK5, hq5, hb5, hM5⟩
            obtain ⟨⟨xa5, na5, pa5, ea5⟩, xb5, nb5, pb5, eb5⟩ := slices_of hC5
            subst ea5 eb5
            have hW5 := (HWG.out.orcS hM5.drew hO5).blk
            refine ⟨⟨⟨w5, hW5⟩, rfl⟩, ?_⟩
            unfold cv
            go_simp
            iterate 4 (refine tree_still rfl rfl ?_; go_big_quiet_step (exact rfl); refine wpQuiet_nil ?_)
            refine tree_one rfl rfl ?_
            go_simp
            refine ⟨⟨⟨_, hW5.alloc _⟩, rfl⟩, ?_⟩
            go_simp
            refine tree_one rfl rfl ?_
            have He := bgA_new HWG.out hO5 hC5 hK5 hq5 hb5 hM5
            go_simp
            refine ⟨⟨⟨_, He.1.blk⟩, rfl⟩, ?_⟩
            go_simp
            iterate 2 (refine tree_still rfl rfl ?_; go_big_quiet_step (exact rfl); refine wpQuiet_nil ?_)
            refine tree_done ?_
            go_wp2
            go_meet
            exact ⟨w5.heap.size, xa5, na5, pa5, xb5, nb5, pb5, qs5, _, rfl, rfl, rfl, He.1, He.2.1, He.2.2⟩
          · go_simp
            obtain ⟨w7, hw7⟩ : ∃ w7, w7 = (wr.alloc (.cells #[.int .i64 0, .int .i64 0, .int .u64 0, .int .i64 0, .slice none 0 0, .slice none 0 0] 59)).drew := ⟨_, rfl⟩
            have HW7 : Hid (w7 = (wr.alloc (.cells zC6 59)).drew) := hw7
            rw [← hw7]
            obtain ⟨o7, ho7⟩ : ∃ o7, o7 = newTo oR wr d := ⟨_, rfl⟩
            have HM7 : Hid (Mv [] wr oR w7 o7) := (by rw [hw7, ho7]; exact (Mv.of_below (I := []) d (balloc (Below.refl _ _) _)).trans (mv_drew _ _ _))
            have HO7 : Hid (o7 = newTo oR wr d) := ho7
            clear hw7 ho7
            refine ⟨⟨⟨w7, (HWG.out.mv HM7.out (by simp)).blk⟩, rfl⟩, ?_⟩
            go_simp
            refine tree_one rfl rfl ?_
            go_simp
            refine (HBg.out w7 o7 HM7.out).mono ?_
            rintro r w5 ⟨a5, b5, rfl, o5, qs5, hO5, hC5, hK5, hq5, hb5, hM5⟩
            obtain ⟨⟨xa5, na5, pa5, ea5⟩, xb5, nb5, pb5, eb5⟩ := slices_of hC5
            subst ea5 eb5
            have hW5 := ((HWG.out.mv HM7.out (by simp)).orcS hM5 hO5).blk
            rw [HW7.out] at hM5
            refine ⟨⟨⟨w5, hW5⟩, rfl⟩, ?_⟩
            unfold cv
            go_simp
            iterate 4 (refine tree_still rfl rfl ?_; go_big_quiet_step (exact rfl); refine wpQuiet_nil ?_)
            refine tree_one rfl rfl ?_
            rw [HO7.out] at hM5
            have He := bgA_put HWG.out HFr.out.1 HFr.out.2 hO5 hC5 hK5 hq5 hb5 hM5
            have Y5 := bgA_zero HFr.out.1 hM5
            have j0 := Y5.cell 0 _ rfl; have i0 := Y5.frozen 0; have j1 := Y5.cell 1 _ rfl; have i1 := Y5.frozen 1; have j2 := Y5.cell 2 _ rfl; have i2 := Y5.frozen 2; have j3 := Y5.cell 3 _ rfl; have i3 := Y5.frozen 3; have j4 := Y5.cell 4 _ rfl; have i4 := Y5.frozen 4; have j5 := Y5.cell 5 _ rfl; have i5 := Y5.frozen 5
            clear Y5
            go_simp
            refine ⟨⟨⟨_, He.1.blk⟩, rfl⟩, ?_⟩
            go_simp
            iterate 2 (refine tree_still rfl rfl ?_; go_big_quiet_step (exact rfl); refine wpQuiet_nil ?_)
            refine tree_done ?_
            go_wp2
            go_meet
            exact ⟨wr.heap.size, xa5, na5, pa5, xb5, nb5, pb5, qs5, _, rfl, rfl, rfl, He.1, He.2.1, He.2.2⟩
        case rest =>
          obtain ⟨ab, xa5, na5, pa5, xb5, nb5, pb5, qs5, oA, rfl, rfl, rfl, HW5, HV5, HM5⟩ := hcut
          obtain ⟨W2, hW2⟩ : ∃ W2, W2 = wc := ⟨_, rfl⟩
          subst hW2
          clear ne9 z0 z14 z15 z22 HBg HFr HWG HM5
          have hwb := HW5.out.blk
          have hcv := HV5.out.var
          have e14 := hwb.cell 14 _ rfl; have e15 := hwb.cell 15 _ rfl
          have g0 := hcv.cell 0 _ rfl; have g1 := hcv.cell 1 _ rfl; have g2 := hcv.cell 2 _ rfl; have g3 := hcv.cell 3 _ rfl; have g4 := hcv.cell 4 _ rfl; have g5 := hcv.cell 5 _ rfl
          have hcl : ∀ (z : WIn (fun w' => Below W2.heap.size W2 w')) p v, W2.cell? p = some v → z.w.cell? p = some v := fun z p v hp => (z.ok.cell (World.block_lt_of_cell? W2 _ hp)).trans hp
          have s14 := fun z => hcl z _ _ e14; have s15 := fun z => hcl z _ _ e15
          have q0 := fun z => hcl z _ _ g0; have q1 := fun z => hcl z _ _ g1; have q2 := fun z => hcl z _ _ g2; have q3 := fun z => hcl z _ _ g3; have q4 := fun z => hcl z _ _ g4; have q5 := fun z => hcl z _ _ g5
          obtain ⟨m', hm'⟩ : ∃ m', m' = L.length := ⟨_, rfl⟩
          have HMm : Hid (m' = L.length) := hm'
          have HAp : Hid (∀ w', Below W2.heap.size W2 w' → Calls Tryz.prog 16 #[.agg #[.slice sa ns sc, .int .i64 G.M.e], .agg #[.int .i64 B.c.k, .int .i64 B.c.w, .int .u64 B.c.p, .int .i64 B.c.l, .slice xa5 na5 pa5, .slice xb5 nb5 pb5]] w' fun r w'' => ∃ z y', r = .returned (.tuple #[.agg #[.slice z m' y', .int .i64 E], .int .i64 0]) ∧ RowF mc w'' (.slice z m' y') L ∧ (∀ j, (Value.slice z m' y').ownBlock = some j → w'.heap.size ≤ j ∨ (Value.slice sa ns sc).ownBlock = some j) ∧ Below w'.heap.size w' w'') := fun w' hb => by
            have hg := HGk.out
            have h1 := apply13f (S := G.M) (HW5.out.s.1.below hb) (by have := hg.len; omega) hg.mok.e (HV5.out.cg.below hb)
            rw [HA.out] at h1
            refine h1.mono ?_
            rintro r w'' ⟨v, rfl, hr, hn, hb'⟩
            obtain ⟨z, y', e⟩ := hr.len
            subst e
            refine ⟨z, y', ?_, ?_, ?_, hb'⟩
            · rw [HMm.out]; rfl
            · rw [HMm.out]; exact hr
            · rw [HMm.out]; exact fun j hj => .inl (hn j hj)
          have HLV : Hid (∀ j, (Value.slice sa ns sc).ownBlock = some j → j < W2.heap.size) := fun j hj => (HW5.out.s.2 HGk.out.pos j hj).1
          have HD : Hid (Below W2.heap.size W2 W2.drew) := (show Below _ _ _ from (Below.refl _ _).drew)
          have ne : Nonempty (WIn (fun w' => Below W2.heap.size W2 w')) := ⟨⟨W2, Below.refl _ _⟩⟩
          clear hwb hcv e14 e15 g0 g1 g2 g3 g4 g5 hcl hm'
          go_upto_region 13 with fail
          go_cut [14, 15] (fun tv kv wx => ∃ (tb : Nat) (z6 : Option Addr) (y6 : Nat), tv = ptr tb ∧ kv = .int .i64 0 ∧ Hid (ApF W2 wx tb 45 (Value.slice sa ns sc) (.slice z6 m' y6) ⟨L, E⟩))
          case first =>
            refine wp_region_tree (C := fun w' => ∃ z : WIn (fun w' => Below W2.heap.size W2 w'), w' = z.w) (.still 0 (.still 1 (.still 2 (.still 3 (.still 4 (.two 5 (.still 6 (.still 7 (.still 8 (.one 9 (.one 10 (.still 11 .done)))))) 9 (.one 5 (.still 6 (.still 7 (.still 8 (.one 10 (.still 11 .done)))))))))))) (by kernel_rfl) (by kernel_rfl) ⟨⟨W2.drew, HD.out⟩, rfl⟩ ?_
            iterate 5 (refine tree_still rfl rfl ?_; go_big_quiet_step (exact rfl); refine wpQuiet_nil ?_)
            refine tree_two rfl rfl rfl rfl ?_ ?_
            · go_simp
              refine (HAp.out W2.drew HD.out).mono ?_
              rintro r w6 ⟨z6, y6, rfl, hr6, hn6, hb6⟩
              have HB6 : Hid (Below W2.heap.size W2 w6) := (show Below _ _ _ from bnext (w := W2.drew) HD.out hb6)
              have hn6' : ∀ j, (Value.slice z6 m' y6).ownBlock = some j → W2.heap.size ≤ j ∨ (Value.slice sa ns sc).ownBlock = some j := fun j hj => (hn6 j hj).imp (fun e => Nat.le_trans (HD.out).size e) id
              refine ⟨⟨⟨w6, HB6.out⟩, rfl⟩, ?_⟩
              go_simp
              iterate 3 (refine tree_still rfl rfl ?_; go_big_quiet_step (exact rfl); refine wpQuiet_nil ?_)
              refine tree_one rfl rfl ?_
              go_simp
              refine ⟨⟨⟨_, (show Below _ _ _ from balloc HB6.out _)⟩, rfl⟩, ?_⟩
              go_simp
              refine tree_one rfl rfl ?_
              have He := apF_new (W := W2) (lv := (Value.slice sa ns sc)) (S := ⟨L, E⟩) 45 hr6 hn6' HB6.out
              go_simp
              refine ⟨⟨⟨_, He.bel⟩, rfl⟩, ?_⟩
              go_simp
              iterate 1 (refine tree_still rfl rfl ?_; go_big_quiet_step (exact rfl); refine wpQuiet_nil ?_)
              refine tree_done ?_
              go_wp2
              go_meet
              exact ⟨w6.heap.size, z6, y6, rfl, rfl, He⟩
            · go_simp
              obtain ⟨w7, hw7⟩ : ∃ w7, w7 = (W2.alloc (.cells #[.slice none 0 0, .int .i64 0] 45)).drew := ⟨_, rfl⟩
              rw [← hw7]
              have HZ7 : Hid (Blk w7 W2.heap.size 45 [.slice none 0 0, .int .i64 0]) := (by rw [hw7]; exact blk_new W2 _ 45)
              have HB7 : Hid (Below W2.heap.size W2 w7) := (by rw [hw7]; exact (balloc (Below.refl _ _) _).drew)
              have HL7 : Hid (W2.heap.size < w7.heap.size) := (show _ < _ from HZ7.out.lt)
              clear hw7
              refine ⟨⟨⟨w7, HB7.out⟩, rfl⟩, ?_⟩
              go_simp
              refine tree_one rfl rfl ?_
              go_simp
              refine (HAp.out w7 HB7.out).mono ?_
              rintro r w6 ⟨z6, y6, rfl, hr6, hn6, hb6⟩
              have HB6 : Hid (Below W2.heap.size W2 w6) := (show Below _ _ _ from bnext (w := w7) HB7.out hb6)
              have hn6' : ∀ j, (Value.slice z6 m' y6).ownBlock = some j → W2.heap.size ≤ j ∨ (Value.slice sa ns sc).ownBlock = some j := fun j hj => (hn6 j hj).imp (fun e => Nat.le_trans (HB7.out).size e) id
              have HZ6 : Hid (Blk w6 W2.heap.size 45 [.slice none 0 0, .int .i64 0]) := HZ7.out.below hb6
              have hne6 : (Value.slice z6 m' y6).ownBlock ≠ some W2.heap.size := fun e => (hn6 _ e).elim (fun r => by have := HZ7.out.lt; omega) (fun r => absurd (Nat.le_refl W2.heap.size) (Nat.not_le_of_lt (HLV.out _ r)))
              refine ⟨⟨⟨w6, HB6.out⟩, rfl⟩, ?_⟩
              go_simp
              iterate 3 (refine tree_still rfl rfl ?_; go_big_quiet_step (exact rfl); refine wpQuiet_nil ?_)
              refine tree_one rfl rfl ?_
              have He := apF_put (W := W2) (lv := (Value.slice sa ns sc)) (S := ⟨L, E⟩) HZ6.out hr6 hn6' hne6 HB6.out (Nat.le_refl W2.heap.size)
              have g0 := HZ6.out.cell 0 _ rfl; have g1 := HZ6.out.cell 1 _ rfl; have i0 := HZ6.out.frozen 0; have i1 := HZ6.out.frozen 1
              go_simp
              refine ⟨⟨⟨_, He.bel⟩, rfl⟩, ?_⟩
              go_simp
              iterate 1 (refine tree_still rfl rfl ?_; go_big_quiet_step (exact rfl); refine wpQuiet_nil ?_)
              refine tree_done ?_
              go_wp2
              go_meet
              exact ⟨W2.heap.size, z6, y6, rfl, rfl, He⟩
          case rest =>
            obtain ⟨tb, z6, y6, rfl, rfl, HA1⟩ := hcut
            obtain ⟨W3, hW3⟩ : ∃ W3, W3 = wc := ⟨_, rfl⟩
            subst hW3
            clear s14 s15 q0 q1 q2 q3 q4 q5 ne HD HAp HLV
            have HW3 : Hid (WG w0 W3 (newTo oA W2 0) wb { G with S := B.S } (.slice sa ns sc) (.slice ta nt tc)) := (show WG _ _ _ _ _ _ _ from HW5.out.below HA1.out.bel 0)
            have HV3 : Hid (CVar W3 (newTo oA W2 0) ab 59 B.c (.slice xa5 na5 pa5) (.slice xb5 nb5 pb5) qs5) := (show CVar _ _ _ _ _ _ _ _ from HV5.out.mv (Mv.of_below (I := []) 0 HA1.out.bel) (by simp))
            have HK3 : Hid (KpF mc W3 (newTo oA W2 0) (.slice z6 m' y6) L) := (show KpF _ _ _ _ _ from HA1.out.kp HW5.out.s HGk.out.pos)
            have ht := HA1.out.var
            generalize newTo oA W2 0 = o3 at *
            obtain ⟨hS1, hS2⟩ := HW3.out.setS (v := .slice z6 m' y6) (M := ⟨L, E⟩) HK3.out
            have hV4 := HV3.out.mv hS2 (by decide)
            have hwb := HW3.out.blk
            have u0 := ht.cell 0 _ rfl; have u1 := ht.cell 1 _ rfl
            have b14 := hwb.cell 14 _ rfl; have b15 := hwb.cell 15 _ rfl; have d14 := hwb.frozen 14; have d15 := hwb.frozen 15
            have hBk := HBk.out
            have HW4 : Hid (WG w0 ((W3.setCell ⟨wb, 14, none⟩ (.slice z6 m' y6)).setCell ⟨wb, 15, none⟩ (.int .i64 E)) (newTo o3 W3 9) wb { { G with S := B.S } with M := ⟨L, E⟩ } (.slice z6 m' y6) (.slice ta nt tc)) := hS1
            have HV4 : Hid (CVar ((W3.setCell ⟨wb, 14, none⟩ (.slice z6 m' y6)).setCell ⟨wb, 15, none⟩ (.int .i64 E)) (newTo o3 W3 9) ab 59 B.c (.slice xa5 na5 pa5) (.slice xb5 nb5 pb5) qs5) := hV4
            clear hS1 hS2 hV4 hwb ht HA1 HW5 HV5
            go_upto_region 17 with fail
            generalize (W3.setCell ⟨wb, 14, none⟩ (.slice z6 m' y6)).setCell ⟨wb, 15, none⟩ (.int .i64 E) = W4 at *
            generalize newTo o3 W3 9 = o4 at *
            obtain ⟨hS1, hS2⟩ := HW4.out.setLast B.key
            have hV5 := HV4.out.mv hS2 (by decide)
            have hwb := HW4.out.blk
            have b22 := hwb.cell 22 _ rfl; have d22 := hwb.frozen 22
            have HW5 : Hid (WG w0 (W4.setCell ⟨wb, 22, none⟩ (.int .u64 B.key)) (newTo o4 W4 9) wb { { { G with S := B.S } with M := ⟨L, E⟩ } with last := B.key } (.slice z6 m' y6) (.slice ta nt tc)) := hS1
            have HV5 : Hid (CVar (W4.setCell ⟨wb, 22, none⟩ (.int .u64 B.key)) (newTo o4 W4 9) ab 59 B.c (.slice xa5 na5 pa5) (.slice xb5 nb5 pb5) qs5) := hV5
            clear hS1 hS2 hV5 hwb u0 u1 b14 b15 d14 d15 HW3 HV3 HK3 HW4 HV4 hBk
            go_upto_region 18 with fail
            generalize W4.setCell ⟨wb, 22, none⟩ (.int .u64 B.key) = W5 at *
            generalize newTo o4 W4 9 = o5 at *
            obtain ⟨G5, hG5⟩ : ∃ G5 : Gd, G5 = { { { G with S := B.S } with M := ⟨L, E⟩ } with last := B.key } := ⟨_, rfl⟩
            have hf5 : G5.S = B.S ∧ G5.P = G.P ∧ G5.rb = G.rb ∧ G5.ob = G.ob ∧ G5.ss = G.ss := by rw [hG5]; exact ⟨rfl, rfl, rfl, rfl, rfl⟩
            have HGe5 : Hid (Gon { G5 with P := upd4 G5.P i RW } (3000 + 100 * (k + 1)) 4 (K ++ [G.S.fresh]) (O ++ [B.o]) i key) := (by rw [hG5]; exact HGe.out)
            rw [← hG5] at HW5
            have HLe : Hid (∀ w' o', WG w0 w' o' wb G5 (.slice z6 m' y6) (.slice ta nt tc) → CVar w' o' ab 59 B.c (.slice xa5 na5 pa5) (.slice xb5 nb5 pb5) qs5 → Calls Tryz.prog 20 #[ptr (G5.rb i), .agg #[.int .i64 B.c.k, .int .i64 B.c.w, .int .u64 B.c.p, .int .i64 B.c.l, .slice xa5 na5 pa5, .slice xb5 nb5 pb5]] w' fun r w'' => r = .returned (.int .i64 11) ∧ ∃ o'', WG w0 w'' o'' wb { G5 with P := upd4 G5.P i RW } (.slice z6 m' y6) (.slice ta nt tc) ∧ CVar w'' o'' ab 59 B.c (.slice xa5 na5 pa5) (.slice xb5 nb5 pb5) qs5) := fun w' o' hw hv => by
              have hS : Ora G5.S 5000 := by rw [hf5.1]; exact HO.out
              have hl := learn20 (hw.rings i hi4) hw.orc hS (by omega) (by omega) hv.cg hv.kb (by have := HBs.out.2; omega)
              have e1 : learnP G5.S (G5.P i) B.c = (RW, 11) := by
                rw [hf5.1, hf5.2.1, HRW.out.1, ← HRW.out.2]
              rw [e1] at hl
              refine hl.mono ?_
              rintro r w'' ⟨rfl, o'', h1, h2⟩
              exact ⟨rfl, o'', hw.ringS hi4 h2 h1, hv.mv h2 (by simp; omega)⟩
            have HKy : Hid (∀ w' o', WG w0 w' o' wb { G5 with P := upd4 G5.P i RW } (.slice z6 m' y6) (.slice ta nt tc) → Calls Tryz.prog 11 #[ptr (G5.rb i), .int .i64 ((k : Int) + 1)] w' fun x w'' => x = .returned (.tuple #[.int .u64 0, .int .i64 11]) ∧ w'' = w') := fun w' o' hw => by
              have h1 := key11 (hw.rings i hi4) ((k : Int) + 1)
              have e1 : ({ G5 with P := upd4 G5.P i RW } : Gd).P i = RW := upd4_at _ _ _
              have e2 : keyM RW.ks ((k : Int) + 1) = (0, 11) := HKn.out
              rw [e1, e2] at h1
              exact h1
            have HUn : Hid (∀ w' o' (v : Value) (x : Wp), WG w0 w' o' wb { G5 with P := upd4 G5.P i RW } (.slice z6 m' y6) (.slice ta nt tc) → x ∈ B.c.ws → Rd w' v x.b → Calls Tryz.prog 21 #[ptr G5.ob, .int .u64 (G5.ss i), v] w' fun r w'' => r = .returned (.tuple #[.int .u64 0, .int .i64 11]) ∧ Below w'.heap.size w' w'') := fun w' o' v x hw hx hv => by
              have h1 := orc_unwrap hw.orc (G5.ss i) hv
              have e1 : G5.S.unwrap (G5.ss i) x.b = (0, 11) := by
                rw [hf5.1, hf5.2.2.2.2]
                exact HUw.out x hx
              have e2 : ({ G5 with P := upd4 G5.P i RW } : Gd).S = G5.S := rfl
              rw [e2, e1] at h1
              exact h1
            have y1 : ∀ z : WIn (fun w' => Blk w' wb 50 (wcs G5 (.slice z6 m' y6) (.slice ta nt tc)) ∧ Blk w' ab 59 [.int .i64 B.c.k, .int .i64 B.c.w, .int .u64 B.c.p, .int .i64 B.c.l, .slice xa5 na5 pa5, .slice xb5 nb5 pb5]), z.w.cell? ⟨wb, 6 + i, none⟩ = some (ptr (G5.rb i)) := fun z => z.ok.1.cell _ _ (wcs_r G5 _ _ hi4)
            have v0 : ∀ z : WIn (fun w' => Blk w' wb 50 (wcs G5 (.slice z6 m' y6) (.slice ta nt tc)) ∧ Blk w' ab 59 [.int .i64 B.c.k, .int .i64 B.c.w, .int .u64 B.c.p, .int .i64 B.c.l, .slice xa5 na5 pa5, .slice xb5 nb5 pb5]), _ := fun z => z.ok.2.cell 0 _ rfl
            have v1 : ∀ z : WIn (fun w' => Blk w' wb 50 (wcs G5 (.slice z6 m' y6) (.slice ta nt tc)) ∧ Blk w' ab 59 [.int .i64 B.c.k, .int .i64 B.c.w, .int .u64 B.c.p, .int .i64 B.c.l, .slice xa5 na5 pa5, .slice xb5 nb5 pb5]), _ := fun z => z.ok.2.cell 1 _ rfl
            have v2 : ∀ z : WIn (fun w' => Blk w' wb 50 (wcs G5 (.slice z6 m' y6) (.slice ta nt tc)) ∧ Blk w' ab 59 [.int .i64 B.c.k, .int .i64 B.c.w, .int .u64 B.c.p, .int .i64 B.c.l, .slice xa5 na5 pa5, .slice xb5 nb5 pb5]), _ := fun z => z.ok.2.cell 2 _ rfl
            have v3 : ∀ z : WIn (fun w' => Blk w' wb 50 (wcs G5 (.slice z6 m' y6) (.slice ta nt tc)) ∧ Blk w' ab 59 [.int .i64 B.c.k, .int .i64 B.c.w, .int .u64 B.c.p, .int .i64 B.c.l, .slice xa5 na5 pa5, .slice xb5 nb5 pb5]), _ := fun z => z.ok.2.cell 3 _ rfl
            have v4 : ∀ z : WIn (fun w' => Blk w' wb 50 (wcs G5 (.slice z6 m' y6) (.slice ta nt tc)) ∧ Blk w' ab 59 [.int .i64 B.c.k, .int .i64 B.c.w, .int .u64 B.c.p, .int .i64 B.c.l, .slice xa5 na5 pa5, .slice xb5 nb5 pb5]), _ := fun z => z.ok.2.cell 4 _ rfl
            have v5 : ∀ z : WIn (fun w' => Blk w' wb 50 (wcs G5 (.slice z6 m' y6) (.slice ta nt tc)) ∧ Blk w' ab 59 [.int .i64 B.c.k, .int .i64 B.c.w, .int .u64 B.c.p, .int .i64 B.c.l, .slice xa5 na5 pa5, .slice xb5 nb5 pb5]), _ := fun z => z.ok.2.cell 5 _ rfl
            have ne31 : Nonempty (WIn (fun w' => Blk w' wb 50 (wcs G5 (.slice z6 m' y6) (.slice ta nt tc)) ∧ Blk w' ab 59 [.int .i64 B.c.k, .int .i64 B.c.w, .int .u64 B.c.p, .int .i64 B.c.l, .slice xa5 na5 pa5, .slice xb5 nb5 pb5])) := ⟨⟨W5, HW5.out.blk, HV5.out.var⟩⟩
            have HD : Hid (WG w0 W5.drew o5 wb G5 (.slice z6 m' y6) (.slice ta nt tc) ∧ CVar W5.drew o5 ab 59 B.c (.slice xa5 na5 pa5) (.slice xb5 nb5 pb5) qs5) := ⟨HW5.out.mv (mv_drew [] _ _) (by simp), HV5.out.mv (mv_drew [] _ _) (by simp)⟩
            clear hG5 b22 d22 hf5 HW5 HV5 HGe
            go_wp2
            refine wp_region_ord (C := fun w' => ∃ z : WIn (fun w' => Blk w' wb 50 (wcs G5 (.slice z6 m' y6) (.slice ta nt tc)) ∧ Blk w' ab 59 [.int .i64 B.c.k, .int .i64 B.c.w, .int .u64 B.c.p, .int .i64 B.c.l, .slice xa5 na5 pa5, .slice xb5 nb5 pb5]), w' = z.w) [(false, 0), (false, 1), (false, 2), (false, 3), (false, 4), (false, 5), (false, 6), (true, 7), (false, 8)] (by kernel_rfl) (by kernel_rfl) ⟨⟨W5.drew, HD.out.1.blk, HD.out.2.var⟩, rfl⟩ ?_
            iterate 7 (refine ord_still rfl rfl ?_; go_big_quiet_step (exact rfl); refine wpQuiet_nil ?_)
            refine ord_mem rfl rfl ?_
            go_simp
            refine (HLe.out W5.drew o5 HD.out.1 HD.out.2).mono ?_
            rintro r w6' ⟨rfl, o6', hW6', hV6'⟩
            refine ⟨⟨⟨w6', hW6'.blk, hV6'.var⟩, rfl⟩, ?_⟩
            iterate 1 (refine ord_still rfl rfl ?_; go_big_quiet_step (exact rfl); refine wpQuiet_nil ?_)
            refine ord_end ?_
            have HW6 : Hid (WG w0 w6' o6' wb { G5 with P := upd4 G5.P i RW } (.slice z6 m' y6) (.slice ta nt tc)) := hW6'
            have HV6 : Hid (CVar w6' o6' ab 59 B.c (.slice xa5 na5 pa5) (.slice xb5 nb5 pb5) qs5) := hV6'
            have HNa : Hid (na5 = qs5.length ∧ na5 ≤ pa5 ∧ pa5 ≤ 9223372036854775807) := (by
              obtain ⟨x, y, e⟩ := hV6'.cg.row.len
              have hc := hV6'.cg.row.caps
              cases e
              exact ⟨rfl, hc.2.1, hc.2.2⟩)
            have hna2 := HNa.out.2.1
            have hna3 := HNa.out.2.2
            have HWs : Hid (B.c.ws = qs5.map (·.1)) := hV6'.cg.ws.symm
            clear hW6' hV6' HD HLe y1 v0 v1 v2 v3 v4 v5 ne31
            go_wp2
            go_loopw [16] (fun jv wx => ∃ j : Nat, jv = .int .i64 j ∧ j ≤ na5 ∧ ∃ (o8 : Nat → Nat), Hid (WG w0 wx o8 wb { G5 with P := upd4 G5.P i RW } (.slice z6 m' y6) (.slice ta nt tc)) ∧ Hid (CVar wx o8 ab 59 B.c (.slice xa5 na5 pa5) (.slice xb5 nb5 pb5) qs5)) (fun jv _ => na5 - (intOf jv).toNat)
            case atStart => exact ⟨0, rfl, by omega, o6', HW6.out, HV6.out⟩
            case round =>
              obtain ⟨j, rfl, hj, o8, HW8, HV8⟩ := hrel
              by_cases hjn : j < na5
              · obtain ⟨q, hq⟩ : ∃ q, qs5[j]? = some q := ⟨_, List.getElem?_eq_getElem (by have := HNa.out.1; omega)⟩
                obtain ⟨g, off, ea, hr⟩ := HV8.out.cg.row.at wq_len hq
                subst ea
                have d1 := hr 1 _ rfl
                obtain ⟨xq, yq, hqv⟩ := (HV8.out.cg.rd q (List.mem_of_getElem? hq)).len
                obtain ⟨nq, hnq⟩ : ∃ nq, nq = q.1.b.length := ⟨_, rfl⟩
                rw [hqv, ← hnq] at d1
                have HRq : Hid (Rd wr (.slice xq nq yq) q.1.b) := (by rw [hnq, ← hqv]; exact HV8.out.cg.rd q (List.mem_of_getElem? hq))
                have HIn : Hid (q.1 ∈ B.c.ws) := (by rw [HWs.out]; exact List.mem_map.2 ⟨q, List.mem_of_getElem? hq, rfl⟩)
                have hcl : ∀ (z : WIn (fun w' => Below wr.heap.size wr w')) p v, wr.cell? p = some v → z.w.cell? p = some v := fun z p v hp => (z.ok.cell (World.block_lt_of_cell? wr _ hp)).trans hp
                have p0 := HW8.out.blk.cell 0 _ rfl
                have p1 := HW8.out.blk.cell _ _ (wcs_s { G5 with P := upd4 G5.P i RW } (.slice z6 m' y6) (.slice ta nt tc) hi4)
                have p4 := HV8.out.var.cell 4 _ rfl
                have k0 : ∀ z : WIn (fun w' => Below wr.heap.size wr w'), z.w.cell? ⟨wb, 0, none⟩ = some (ptr G5.ob) := fun z => hcl z _ _ p0
                have k1 : ∀ z : WIn (fun w' => Below wr.heap.size wr w'), z.w.cell? ⟨wb, 18 + i, none⟩ = some (.int .u64 (G5.ss i)) := fun z => hcl z _ _ p1
                have k4 : ∀ z : WIn (fun w' => Below wr.heap.size wr w'), z.w.cell? ⟨ab, 4, none⟩ = some (.slice (some ⟨g, off, none⟩) na5 pa5) := fun z => hcl z _ _ p4
                have k5 : ∀ z : WIn (fun w' => Below wr.heap.size wr w'), z.w.cell? ⟨g, off + j * 2 + 1, none⟩ = some (.slice xq nq yq) := fun z => hcl z _ _ d1
                have ne8 : Nonempty (WIn (fun w' => Below wr.heap.size wr w')) := ⟨⟨wr, Below.refl _ _⟩⟩
                have HD8 : Hid (Below wr.heap.size wr wr.drew ∧ WG w0 wr.drew o8 wb { G5 with P := upd4 G5.P i RW } (.slice z6 m' y6) (.slice ta nt tc) ∧ CVar wr.drew o8 ab 59 B.c (.slice (some ⟨g, off, none⟩) na5 pa5) (.slice xb5 nb5 pb5) qs5) := ⟨(Below.refl _ _).drew, HW8.out.mv (mv_drew [] _ _) (by simp), HV8.out.mv (mv_drew [] _ _) (by simp)⟩
                have HUq : Hid (Calls Tryz.prog 21 #[ptr G5.ob, .int .u64 (G5.ss i), .slice xq nq yq] wr.drew fun r w'' => r = .returned (.tuple #[.int .u64 0, .int .i64 11]) ∧ Below wr.drew.heap.size wr.drew w'') := HUn.out wr.drew o8 _ q.1 HD8.out.2.1 HIn.out (HRq.out.below HD8.out.1)
                clear hr hq hqv hnq hcl p0 p1 d1
                go_upto_region 23 with fail
                clear p4
                refine wp_region_ord (C := fun w' => ∃ z : WIn (fun w' => Below wr.heap.size wr w'), w' = z.w) [(false, 0), (false, 1), (false, 2), (false, 3), (false, 4), (false, 5), (false, 6), (false, 7), (false, 8), (false, 9), (false, 10), (false, 11), (false, 12), (false, 13), (false, 14), (false, 15), (true, 16), (false, 17), (false, 18), (false, 19), (false, 20), (false, 21)] (by kernel_rfl) (by kernel_rfl) ⟨⟨wr.drew, HD8.out.1⟩, rfl⟩ ?_
                iterate 16 (refine ord_still rfl rfl ?_; go_big_quiet_step (exact rfl); refine wpQuiet_nil ?_)
                refine ord_mem rfl rfl ?_
                go_simp
                refine HUq.out.mono ?_
                rintro r w9 ⟨rfl, hb9⟩
                refine ⟨⟨⟨w9, bnext HD8.out.1 hb9⟩, rfl⟩, ?_⟩
                iterate 5 (refine ord_still rfl rfl ?_; go_big_quiet_step (exact rfl); refine wpQuiet_nil ?_)
                refine ord_end ?_
                have HW9 : Hid (WG w0 w9 (newTo o8 wr.drew 0) wb { G5 with P := upd4 G5.P i RW } (.slice z6 m' y6) (.slice ta nt tc)) := (show WG _ _ _ _ _ _ _ from HD8.out.2.1.below hb9 0)
                have HV9 : Hid (CVar w9 (newTo o8 wr.drew 0) ab 59 B.c (.slice (some ⟨g, off, none⟩) na5 pa5) (.slice xb5 nb5 pb5) qs5) := (show CVar _ _ _ _ _ _ _ _ from HD8.out.2.2.mv (Mv.of_below (I := []) 0 hb9) (by simp))
                clear hb9
                go_wp2
                go_roundw
                case rel => exact ⟨j + 1, by go_num, by omega, _, HW9.out, HV9.out⟩
                case measure => simp [intOf]; omega
              · have y1 := HW8.out.blk.cell _ _ (wcs_r { G5 with P := upd4 G5.P i RW } (.slice z6 m' y6) (.slice ta nt tc) hi4)
                have p4 := HV8.out.var.cell 4 _ rfl
                have HKz := HKy.out wr o8 HW8.out
                have HKf : Hid ((K ++ [G.S.fresh]).length = k + 1 + 1) := (show _ = _ by rw [List.length_append, HKl.out]; rfl)
                go_wp2_with (go_at_call 11; go_must (refine HKz.mono ?_; rintro r w9 ⟨rfl, hw9⟩; subst w9))
                go_roundw
                case rel => exact ⟨k + 1, by go_num, by omega, o8, _, _, _, _, _, HW8.out, HGe5.out, HKf.out⟩
                case measure => simp [intOf]; omega
      · have y1 := HWG.out.blk.cell _ _ (wcs_r G sl tl hi4)
        have HK0 : Hid (Calls Tryz.prog 11 #[ptr (G.rb i), .int .i64 0] wr fun x w'' => x = .returned (.tuple #[.int .u64 key, .int .i64 0]) ∧ w'' = wr) := (by
          have h1 := key11 (HWG.out.rings i hi4) 0
          have h2 := HGn.out.ring.yes (i := 0) HGn.out.shr.hist HGn.out.shr.ok.ora.good (by omega)
          rw [HGn.out.key] at h2
          have h3 : keyM (G.P i).ks 0 = (key, 0) := h2
          rw [h3] at h1
          exact h1)
        have hkk : (key == key) = true := by simp
        go_wp2_with (first
          | (go_at_call 11; go_must (refine HK0.out.mono ?_; rintro r w8 ⟨rfl, hw8⟩; subst w8))
          | (go_at_call 8; go_must (refine (HAl.out wr).mono ?_; rintro r w9 ⟨rfl, hb9⟩)))
        go_ret
        exact ⟨rfl, bnext HWG.out.bel hb9⟩
  · go_enter Tryz.func5, Tryz.ntmps5
    by_cases h50 : dn ≤ 50
    · by_cases h1 : who < 1
      · go_wp2_with (go_at_call 8; go_must (refine (HAl.out w0).mono ?_; rintro r w2 ⟨rfl, hb2⟩))
        go_ret
        exact ⟨rfl, hb2⟩
      · by_cases h3 : 3 < who
        · go_wp2_with (go_at_call 8; go_must (refine (HAl.out w0).mono ?_; rintro r w2 ⟨rfl, hb2⟩))
          go_ret
          exact ⟨rfl, hb2⟩
        · by_cases h0 : many < 0
          · go_wp2_with (go_at_call 8; go_must (refine (HAl.out w0).mono ?_; rintro r w2 ⟨rfl, hb2⟩))
            go_ret
            exact ⟨rfl, hb2⟩
          · have h6 : 6 < many := by omega
            go_wp2_with (go_at_call 8; go_must (refine (HAl.out w0).mono ?_; rintro r w2 ⟨rfl, hb2⟩))
            go_ret
            exact ⟨rfl, hb2⟩
    · go_wp2_with (go_at_call 8; go_must (refine (HAl.out w0).mono ?_; rintro r w2 ⟨rfl, hb2⟩))
      go_ret
      exact ⟨rfl, hb2⟩
end Go.Proofs.YtkoeocghoabmbaaGreat
