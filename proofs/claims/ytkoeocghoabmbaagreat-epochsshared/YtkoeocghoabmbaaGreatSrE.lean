/-
  EpochsShared, the walk.
-/
import Derived.Test.YtkoeocghoabmbaaGreatShQ
namespace Go.Proofs.YtkoeocghoabmbaaGreat
set_option linter.unusedVariables false
set_option linter.unusedSimpArgs false
set_option synthInstance.maxSize 20000
set_option maxHeartbeats 2000000
set_option maxRecDepth 20000
open Go.RowKit Go.Maps

set_option maxHeartbeats 8000000 in
theorem shared4 (dv : Value) (ds : List Int) (lv : Value) (cs : List Oq) (w0 : World) (hd : RdU w0 dv ds) (hl : OpsAt w0 lv cs) : Calls Tryz.prog 4 #[dv, lv] w0 fun r w' => r = .returned (.bool true) ∧ Below w0.heap.size w0 w' := by
  have HNW : Hid (ds.length ≤ 50 → Calls Tryz.prog 9 #[dv] w0 (NwPost w0 ⟨ds, []⟩)) := fun h => newWorld9 hd (by omega)
  have HDs : Hid (∀ d ∈ ds, U64 d) := hd.1
  obtain ⟨_, da, dc, rfl, hdc, hdm, _⟩ := hd
  have hdm' : dc ≤ 9223372036854775807 := hdm
  obtain ⟨b, hb⟩ := lt_bool ds.length cs
  have HB : Hid (b = true → LtP ds.length cs) := hb.1
  have HLt : Hid (Calls Tryz.prog 7 #[.slice da ds.length dc, lv] w0 (LtPost w0 b)) := light7 hdc hdm' hl hb
  clear hb
  obtain ⟨av, cap, rfl⟩ := hl.row.len
  have hcap := hl.row.caps
  have hc1 : cs.length ≤ cap := hcap.2.1
  have hc2 : cap ≤ 9223372036854775807 := hcap.2.2
  have HRow : Hid (RowF oqf w0 (.slice av cs.length cap) cs) := hl.row
  have HE : Hid (∀ q ∈ cs, ∃ qs, OpRd w0 q qs) := hl.each
  have HAl : Hid (∀ w' : World, Calls Tryz.prog 8 #[] w' fun r w'' => r = .returned (.bool true) ∧ Below w'.heap.size w' w'') := fun w' => alive8 w'
  obtain ⟨n, hn⟩ : ∃ n, n = cs.length := ⟨_, rfl⟩
  have HN : Hid (n = cs.length) := hn
  rw [← hn] at hc1 HRow HLt ⊢
  generalize hdn : ds.length = dn at *
  clear hl hcap hn hdn
  go_enter Tryz.func4, Tryz.ntmps4
  go_upto_if 27 with (go_at_call 7; go_must (refine HLt.out.mono ?_; rintro r w1 ⟨rfl, hw1⟩; subst w1))
  cases b with
  | false =>
    go_wp2_with (go_at_call 8; go_must (refine (HAl.out w0).mono ?_; rintro r w2 ⟨rfl, hb2⟩))
    go_ret
    exact ⟨rfl, hb2⟩
  | true =>
    obtain ⟨h50, h40, hfew⟩ := HB.out rfl
    have HFw : Hid (∀ q ∈ cs, fewO q) := hfew
    have hn40 : n ≤ 40 := by rw [HN.out]; exact h40
    have HNW2 := HNW.out h50
    clear h50 h40 hfew HNW HB
    go_upto_region 6 with (go_at_call 9; go_must (refine HNW2.mono ?_; rintro r w2 ⟨wb, ob, rr, rb, mb, o2, sl2, tl2, rfl, hW2⟩))
    have HW3 : Hid (WG w0 w2 o2 wb (gd0 ⟨ds, []⟩ ob rr rb mb) sl2 tl2) := hW2
    have HS3 : Hid (Shr (fun _ => True) (gd0 ⟨ds, []⟩ ob rr rb mb) (8 + 100 * 0) (0 + 1) [] []) := (show Shr _ _ _ _ _ _ from gd0_shr HDs.out (fun _ => True) ob rr rb mb)
    have HK3 : Hid ((gd0 ⟨ds, []⟩ ob rr rb mb).K = (gd0 ⟨ds, []⟩ ob rr rb mb).M) := (show _ = _ from rfl)
    generalize gd0 ⟨ds, []⟩ ob rr rb mb = G3 at *
    clear hW2 HNW2 HLt HDs
    go_wp2
    go_loopw [6, 7] (fun kv iv wr => ∃ k : Nat, iv = .int .i64 k ∧ k ≤ n ∧ ∃ (o4 : Nat → Nat) (G : Gd) (sl tl : Value) (K : List Int) (O : List (List Int)) (ka : Option Addr) (nk kc : Nat), kv = .slice ka nk kc ∧ Hid (WG w0 wr o4 wb G sl tl) ∧ Hid (Shr (fun _ => True) G (8 + 100 * k) (k + 1) K O) ∧ Hid (G.K = G.M) ∧ Hid (KAt wr o4 (.slice ka nk kc) K) ∧ Hid (nk = K.length)) (fun _ iv _ => n - (intOf iv).toNat)
    case atStart => exact ⟨0, rfl, by omega, o2, G3, sl2, tl2, [], [], none, 0, 0, rfl, HW3.out, HS3.out, HK3.out, kAt_nil _ _, (show 0 = 0 from rfl)⟩
    case round =>
      obtain ⟨k, rfl, hk, oR, G, sl, tl, K, O, ka, nk, kc, rfl, HWG, HSh, HKM, HKA, HNk⟩ := hrel
      obtain ⟨WR, hWR⟩ : ∃ WR, WR = wr := ⟨_, rfl⟩
      subst hWR
      by_cases hkn : k < n
      · obtain ⟨q, hq⟩ : ∃ q, cs[k]? = some q := ⟨_, List.getElem?_eq_getElem (by have := HN.out; omega)⟩
        have hrw := HRow.out.below HWG.out.bel
        obtain ⟨g, off, ea, hr⟩ := hrw.at oqf_len hq
        subst ea
        obtain ⟨qs, hC⟩ := HE.out q (List.mem_of_getElem? hq)
        have HFq : Hid (fewO q) := HFw.out q (List.mem_of_getElem? hq)
        have HC : Hid (OpRd w0 q qs) := hC
        have e0 := hr 0 _ rfl; rw [Nat.add_zero] at e0; have e1 := hr 1 _ rfl; have e2 := hr 2 _ rfl; have e3 := hr 3 _ rfl; have e4 := hr 4 _ rfl
        obtain ⟨xa, pa, ha⟩ := hC.cg.row.len
        obtain ⟨xb, pb, hb⟩ := hC.cg.old.len
        dsimp only at hb
        by_cases hk3 : q.1.k = 3
        · rw [hk3] at e0
          clear hr hC hrw ha hb hq HC HFq hk3 e1 e2 e3 e4
          have hep := HSh.out.ep
          have hG := HSh.out.ok
          have hlen := hG.len
          have hn5 : 8 + 100 * k + (k + 1) + 5 ≤ 80000 := by omega
          obtain ⟨B, hB⟩ : ∃ B, B = opB G := ⟨_, rfl⟩
          have HB : Hid (B = opB G) := hB
          have hbg := HSh.out.begin hn5
          have hora := begin_ora hG.ora G.M.l G.M.e G.last (by omega)
          have HBk : Hid (B.k = 0) := (show _ = _ by rw [hB]; exact hbg.k)
          have HBf : Hid (B.key = G.S.fresh) := (show _ = _ by rw [hB]; exact hbg.key)
          have hBn : (B.key == 0) = false := by
            have h1 := (at_ok hora.good hbg.at').2.1
            have h2 : B.key ≠ 0 := by rw [HBf.out]; exact h1
            simpa using h2
          obtain ⟨L, E, kk, hA, hcs⟩ : ∃ L E kk, applyM G.M B.c = (⟨L, E⟩, kk) ∧ (kk = 2 ∨ (kk = 0 ∧ G.M.e < 19 ∧ L = G.M.l ∧ E = G.M.e + 1)) := by
            have h1 := (HSh.out.apply hn5).2.2
            rw [← hB] at h1
            by_cases h19 : 19 ≤ G.M.e
            · rw [if_pos h19] at h1
              exact ⟨[], 0, 2, h1, .inl rfl⟩
            · rw [if_neg h19] at h1
              exact ⟨_, _, 0, h1, .inr ⟨rfl, by omega, rfl, rfl⟩⟩
          have HA : Hid (applyM G.M B.c = (⟨L, E⟩, kk)) := hA
          have HCs : Hid (kk = 2 ∨ (kk = 0 ∧ G.M.e < 19 ∧ L = G.M.l ∧ E = G.M.e + 1)) := hcs
          have HBs : Hid (B.c.ws.length ≤ 41 ∧ B.c.o.length ≤ 24) := (by
            have := bg_small (l := G.M.l) (e := G.M.e) (last := G.last) hG.ora (by omega)
            rw [hB]
            exact ⟨Nat.le_trans this.1 (by omega), this.2⟩)
          have HO : Hid (Ora B.S 9000) := (by rw [hB]; exact hora.le (by omega))
          have HBg : Hid (∀ w' o', Mv [] WR oR w' o' → Calls Tryz.prog 15 #[ptr G.ob, stv sl G.M.e, .int .u64 G.last] w' (BgPost w' o' G.ob B)) := fun w' o' m' => by
            have hw := HWG.out.mv m' (by simp)
            rw [HB.out]
            exact begin15 hw.orc hG.ora hw.s (by omega) (by omega) hG.mem hG.mok.e hG.last
          have HGk : Hid (GOk G (8 + 100 * k) (k + 1)) := hG
          have HKl : Hid (K.length ≤ 20) := (show _ ≤ _ by have := hG.mok.e; unfold EOk at this; omega)
          obtain ⟨sa, sc, hsl⟩ := HWG.out.s.slice
          obtain ⟨ns, hns⟩ : ∃ ns, ns = G.M.l.length := ⟨_, rfl⟩
          rw [← hns] at hsl
          subst hsl
          obtain ⟨ta, tc, htl⟩ := HWG.out.t.slice
          obtain ⟨nt, hnt⟩ : ∃ nt, nt = G.K.l.length := ⟨_, rfl⟩
          rw [← hnt] at htl
          subst htl
          unfold stv at HBg
          obtain ⟨d, hd1, hd2, hd3⟩ := fresh_owner WR oR 30
          have HFr : Hid (30 < d ∧ ∀ k, k < WR.heap.size → oR k ≠ d) := ⟨hd2, hd3⟩
          clear hd1 hd2 hd3 hB hns hnt hA hcs hep hlen hG hbg hora
          go_upto_region 13 with fail
          clear e0
          have ne9 : Nonempty (WIn (fun w' => Blk w' wb 50 (wcs G (.slice sa ns sc) (.slice ta nt tc)))) := ⟨⟨WR, HWG.out.blk⟩⟩
          have z0 : ∀ z : WIn (fun w' => Blk w' wb 50 (wcs G (.slice sa ns sc) (.slice ta nt tc))), _ := fun z => z.ok.cell 0 _ rfl
          have z14 : ∀ z : WIn (fun w' => Blk w' wb 50 (wcs G (.slice sa ns sc) (.slice ta nt tc))), _ := fun z => z.ok.cell 14 _ rfl
          have z15 : ∀ z : WIn (fun w' => Blk w' wb 50 (wcs G (.slice sa ns sc) (.slice ta nt tc))), _ := fun z => z.ok.cell 15 _ rfl
          have z22 : ∀ z : WIn (fun w' => Blk w' wb 50 (wcs G (.slice sa ns sc) (.slice ta nt tc))), _ := fun z => z.ok.cell 22 _ rfl
          go_cut [8, 9, 10] (fun av pv iv wx => ∃ (ab : Nat) (xa5 : Option Addr) (na5 pa5 : Nat) (xb5 : Option Addr) (nb5 pb5 : Nat) (qs5 : List Wq) (o5 : Nat → Nat), av = ptr ab ∧ pv = .int .u64 B.key ∧ iv = .int .i64 B.k ∧ Hid (WG w0 wx o5 wb { G with S := B.S } (.slice sa ns sc) (.slice ta nt tc)) ∧ Hid (CVar wx o5 ab 59 B.c (.slice xa5 na5 pa5) (.slice xb5 nb5 pb5) qs5) ∧ Hid (Mv [1] WR oR wx o5))
          case first => as_aux_lemma =>
            refine wp_region_tree (C := fun w' => ∃ z : WIn (fun w' => Blk w' wb 50 (wcs G (.slice sa ns sc) (.slice ta nt tc))), w' = z.w) (.still 0 (.still 1 (.still 2 (.still 3 (.still 4 (.still 5 (.still 6 (.still 7 (.still 8 (.still 9 (.still 10 (.still 11 (.two 12 (.still 13 (.still 14 (.still 15 (.still 16 (.one 17 (.one 18 (.still 19 (.still 20 .done)))))))) 17 (.one 12 (.still 13 (.still 14 (.still 15 (.still 16 (.one 18 (.still 19 (.still 20 .done))))))))))))))))))))) (by kernel_rfl) (by kernel_rfl) ⟨⟨WR.drew, HWG.out.blk⟩, rfl⟩ ?_
            iterate 12 (refine tree_still rfl rfl ?_; go_big_quiet_step (exact rfl); refine wpQuiet_nil ?_)
            refine tree_two rfl rfl rfl rfl ?_ ?_
            · go_simp
              refine (HBg.out WR.drew oR (mv_drew _ _ _)).mono ?_
              rintro r w5 ⟨a5, b5, rfl, o5, qs5, hO5, hC5, hK5, hq5, hb5, hM5⟩
              obtain ⟨⟨xa5, na5, pa5, ea5⟩, xb5, nb5, pb5, eb5⟩ := slices_of hC5
              subst ea5 eb5
              have hW5 := (HWG.out.orcS hM5.drew hO5).blk
              refine ⟨⟨⟨w5, hW5⟩, rfl⟩, ?_⟩
              unfold cv
              go_simp
              iterate 4 (refine tree_still rfl rfl ?_; go_big_quiet_step (exact rfl); refine wpQuiet_nil ?_)
              refine tree_one rfl rfl ?_
              go_simp
              refine ⟨⟨⟨_, hW5.alloc _⟩, rfl⟩, ?_⟩
              go_simp
              refine tree_one rfl rfl ?_
              have He := bgA_new HWG.out hO5 hC5 hK5 hq5 hb5 hM5
              go_simp
              refine ⟨⟨⟨_, He.1.blk⟩, rfl⟩, ?_⟩
              go_simp
              iterate 2 (refine tree_still rfl rfl ?_; go_big_quiet_step (exact rfl); refine wpQuiet_nil ?_)
              refine tree_done ?_
              go_wp2
              go_meet
              exact ⟨w5.heap.size, xa5, na5, pa5, xb5, nb5, pb5, qs5, _, rfl, rfl, rfl, He.1, He.2.1, He.2.2⟩
            · go_simp
              obtain ⟨w7, hw7⟩ : ∃ w7, w7 = (WR.alloc (.cells #[.int .i64 0, .int .i64 0, .int .u64 0, .int .i64 0, .slice none 0 0, .slice none 0 0] 59)).drew := ⟨_, rfl⟩
              have HW7 : Hid (w7 = (WR.alloc (.cells zC6 59)).drew) := hw7
              rw [← hw7]
              obtain ⟨o7, ho7⟩ : ∃ o7, o7 = newTo oR WR d := ⟨_, rfl⟩
              have HM7 : Hid (Mv [] WR oR w7 o7) := (by rw [hw7, ho7]; exact (Mv.of_below (I := []) d (balloc (Below.refl _ _) _)).trans (mv_drew _ _ _))
              have HO7 : Hid (o7 = newTo oR WR d) := ho7
              clear hw7 ho7
              refine ⟨⟨⟨w7, (HWG.out.mv HM7.out (by simp)).blk⟩, rfl⟩, ?_⟩
              go_simp
              refine tree_one rfl rfl ?_
              go_simp
              refine (HBg.out w7 o7 HM7.out).mono ?_
              rintro r w5 ⟨a5, b5, rfl, o5, qs5, hO5, hC5, hK5, hq5, hb5, hM5⟩
              obtain ⟨⟨xa5, na5, pa5, ea5⟩, xb5, nb5, pb5, eb5⟩ := slices_of hC5
              subst ea5 eb5
              have hW5 := ((HWG.out.mv HM7.out (by simp)).orcS hM5 hO5).blk
              rw [HW7.out] at hM5
              refine ⟨⟨⟨w5, hW5⟩, rfl⟩, ?_⟩
              unfold cv
              go_simp
              iterate 4 (refine tree_still rfl rfl ?_; go_big_quiet_step (exact rfl); refine wpQuiet_nil ?_)
              refine tree_one rfl rfl ?_
              rw [HO7.out] at hM5
              have He := bgA_put HWG.out HFr.out.1 HFr.out.2 hO5 hC5 hK5 hq5 hb5 hM5
              have Y5 := bgA_zero HFr.out.1 hM5
              have j0 := Y5.cell 0 _ rfl; have i0 := Y5.frozen 0; have j1 := Y5.cell 1 _ rfl; have i1 := Y5.frozen 1; have j2 := Y5.cell 2 _ rfl; have i2 := Y5.frozen 2; have j3 := Y5.cell 3 _ rfl; have i3 := Y5.frozen 3; have j4 := Y5.cell 4 _ rfl; have i4 := Y5.frozen 4; have j5 := Y5.cell 5 _ rfl; have i5 := Y5.frozen 5
              clear Y5
              go_simp
              refine ⟨⟨⟨_, He.1.blk⟩, rfl⟩, ?_⟩
              go_simp
              iterate 2 (refine tree_still rfl rfl ?_; go_big_quiet_step (exact rfl); refine wpQuiet_nil ?_)
              refine tree_done ?_
              go_wp2
              go_meet
              exact ⟨WR.heap.size, xa5, na5, pa5, xb5, nb5, pb5, qs5, _, rfl, rfl, rfl, He.1, He.2.1, He.2.2⟩
          case rest => as_aux_lemma =>
            obtain ⟨ab, xa5, na5, pa5, xb5, nb5, pb5, qs5, oA, rfl, rfl, rfl, HW5, HV5, HM5⟩ := hcut
            obtain ⟨W2, hW2⟩ : ∃ W2, W2 = wc := ⟨_, rfl⟩
            subst hW2
            have HK5 : Hid (KAt W2 oA (.slice ka nk kc) K) := (show KAt _ _ _ _ from HKA.out.mv HM5.out (by decide))
            clear ne9 z0 z14 z15 z22 HBg HFr HWG HM5 HKA
            have hBk := HBk.out
            have hwb := HW5.out.blk
            have b22 := hwb.cell 22 _ rfl; have d22 := hwb.frozen 22
            obtain ⟨hS1, hS2⟩ := HW5.out.setLast B.key
            have HW6 : Hid (WG w0 (W2.setCell ⟨wb, 22, none⟩ (.int .u64 B.key)) (newTo oA W2 9) wb { { G with S := B.S } with last := B.key } (.slice sa ns sc) (.slice ta nt tc)) := (show WG _ _ _ _ _ _ _ from hS1)
            have HV6 : Hid (CVar (W2.setCell ⟨wb, 22, none⟩ (.int .u64 B.key)) (newTo oA W2 9) ab 59 B.c (.slice xa5 na5 pa5) (.slice xb5 nb5 pb5) qs5) := (show CVar _ _ _ _ _ _ _ _ from HV5.out.mv hS2 (by decide))
            have HK6 : Hid (KAt (W2.setCell ⟨wb, 22, none⟩ (.int .u64 B.key)) (newTo oA W2 9) (.slice ka nk kc) K) := (show KAt _ _ _ _ from HK5.out.mv hS2 (by decide))
            clear hS1 hS2 hwb HW5 HV5 HK5
            go_upto_region 17 with fail
            generalize W2.setCell ⟨wb, 22, none⟩ (.int .u64 B.key) = W3 at *
            generalize newTo oA W2 9 = o3 at *
            have HRw : Hid (RowF uc (W3.alloc (.cells #[.int .u64 B.key] 29)) (.slice (some ⟨W3.heap.size, 0, none⟩) 1 1) [B.key]) := rowF_one W3 B.key 29
            have HKr : Hid ((W3.alloc (.cells #[.int .u64 B.key] 29)).ownsRow 0 29 1 (.slice ka nk kc) K.length (flat uc K)) := HK6.out.row.alloc _
            obtain ⟨nj, hnj⟩ : ∃ nj, nj = K.length + 1 := ⟨_, rfl⟩
            have HNj : Hid (nj = K.length + 1) := hnj
            have HL4 : Hid ((K ++ [B.key]).length = nj) := (show _ = _ by rw [List.length_append, hnj]; rfl)
            clear hnj
            clear b22 d22 hBk hBn
            go_upto_region 18 with (at_builtin; go_must (refine wpList_append_rows tyK uc_len (by omega) rfl (.tmp 108) (.tmp 110) rfl _ K rfl HKr.out _ [B.key] rfl HRw.out (flat_uc_one _) (by have := HKl.out; simp; omega) ?_; intro v4 w4 hr4 hg4 hn4; obtain ⟨a4, c4, hv4, hq4⟩ := slice_of_own hr4; rw [HL4.out] at hv4; subst hv4))
            obtain ⟨o4, hA4, hM4⟩ := HK6.out.add hr4 hg4 hn4
            have HW7 : Hid (WG w0 w4 o4 wb { { G with S := B.S } with last := B.key } (.slice sa ns sc) (.slice ta nt tc)) := (show WG _ _ _ _ _ _ _ from HW6.out.mv hM4 (by decide))
            have HV7 : Hid (CVar w4 o4 ab 59 B.c (.slice xa5 na5 pa5) (.slice xb5 nb5 pb5) qs5) := (show CVar _ _ _ _ _ _ _ _ from HV6.out.mv hM4 (by decide))
            have HK7 : Hid (KAt w4 o4 (.slice a4 nj c4) (K ++ [B.key])) := (show KAt _ _ _ _ from hA4)
            obtain ⟨W4, hW4⟩ : ∃ W4, W4 = w4 := ⟨_, rfl⟩
            subst hW4
            have HQ4 : Hid (nj ≤ c4 ∧ c4 ≤ 9223372036854775807) := (show _ ∧ _ by rw [HL4.out] at hq4; exact hq4)
            clear hA4 hM4 hr4 hg4 hn4 hq4 HRw HKr HW6 HV6 HK6
            have hwb := HW7.out.blk
            have hcv := HV7.out.var
            have e14 := hwb.cell 14 _ rfl; have e15 := hwb.cell 15 _ rfl
            have g0 := hcv.cell 0 _ rfl; have g1 := hcv.cell 1 _ rfl; have g2 := hcv.cell 2 _ rfl; have g3 := hcv.cell 3 _ rfl; have g4 := hcv.cell 4 _ rfl; have g5 := hcv.cell 5 _ rfl
            have hcl : ∀ (z : WIn (fun w' => Below W4.heap.size W4 w')) p v, W4.cell? p = some v → z.w.cell? p = some v := fun z p v hp => (z.ok.cell (World.block_lt_of_cell? W4 _ hp)).trans hp
            have s14 := fun z => hcl z _ _ e14; have s15 := fun z => hcl z _ _ e15
            have q0 := fun z => hcl z _ _ g0; have q1 := fun z => hcl z _ _ g1; have q2 := fun z => hcl z _ _ g2; have q3 := fun z => hcl z _ _ g3; have q4 := fun z => hcl z _ _ g4; have q5 := fun z => hcl z _ _ g5
            obtain ⟨m', hm'⟩ : ∃ m', m' = L.length := ⟨_, rfl⟩
            have HMm : Hid (m' = L.length) := hm'
            have HAp : Hid (∀ w', Below W4.heap.size W4 w' → Calls Tryz.prog 16 #[.agg #[.slice sa ns sc, .int .i64 G.M.e], .agg #[.int .i64 B.c.k, .int .i64 B.c.w, .int .u64 B.c.p, .int .i64 B.c.l, .slice xa5 na5 pa5, .slice xb5 nb5 pb5]] w' fun r w'' => ∃ z y', r = .returned (.tuple #[.agg #[.slice z m' y', .int .i64 E], .int .i64 kk]) ∧ RowF mc w'' (.slice z m' y') L ∧ (∀ j, (Value.slice z m' y').ownBlock = some j → w'.heap.size ≤ j ∨ (Value.slice sa ns sc).ownBlock = some j) ∧ Below w'.heap.size w' w'') := fun w' hb => by
              have hg := HGk.out
              have h1 := apply13f (S := G.M) (HW7.out.s.1.below hb) (by have := hg.len; omega) hg.mok.e (HV7.out.cg.below hb)
              rw [HA.out] at h1
              refine h1.mono ?_
              rintro r w'' ⟨v, rfl, hr, hn, hb'⟩
              obtain ⟨z, y', e⟩ := hr.len
              subst e
              refine ⟨z, y', ?_, ?_, ?_, hb'⟩
              · rw [HMm.out]; rfl
              · rw [HMm.out]; exact hr
              · rw [HMm.out]; exact fun j hj => .inl (hn j hj)
            have HLV : Hid (∀ j, (Value.slice sa ns sc).ownBlock = some j → j < W4.heap.size) := fun j hj => (HW7.out.s.2 HGk.out.pos j hj).1
            have HD : Hid (Below W4.heap.size W4 W4.drew) := (show Below _ _ _ from (Below.refl _ _).drew)
            have ne : Nonempty (WIn (fun w' => Below W4.heap.size W4 w')) := ⟨⟨W4, Below.refl _ _⟩⟩
            clear hwb hcv e14 e15 g0 g1 g2 g3 g4 g5 hcl hm'
            go_cut [11, 10] (fun tv kv wx => ∃ (tb : Nat) (z6 : Option Addr) (y6 : Nat), tv = ptr tb ∧ kv = .int .i64 kk ∧ Hid (ApF W4 wx tb 45 (Value.slice sa ns sc) (.slice z6 m' y6) ⟨L, E⟩))
            case first => as_aux_lemma =>
              refine wp_region_tree (C := fun w' => ∃ z : WIn (fun w' => Below W4.heap.size W4 w'), w' = z.w) (.still 0 (.still 1 (.still 2 (.still 3 (.still 4 (.two 5 (.still 6 (.still 7 (.still 8 (.one 9 (.one 10 (.still 11 .done)))))) 9 (.one 5 (.still 6 (.still 7 (.still 8 (.one 10 (.still 11 .done)))))))))))) (by kernel_rfl) (by kernel_rfl) ⟨⟨W4.drew, HD.out⟩, rfl⟩ ?_
              iterate 5 (refine tree_still rfl rfl ?_; go_big_quiet_step (exact rfl); refine wpQuiet_nil ?_)
              refine tree_two rfl rfl rfl rfl ?_ ?_
              · go_simp
                refine (HAp.out W4.drew HD.out).mono ?_
                rintro r w6 ⟨z6, y6, rfl, hr6, hn6, hb6⟩
                have HB6 : Hid (Below W4.heap.size W4 w6) := (show Below _ _ _ from bnext (w := W4.drew) HD.out hb6)
                have hn6' : ∀ j, (Value.slice z6 m' y6).ownBlock = some j → W4.heap.size ≤ j ∨ (Value.slice sa ns sc).ownBlock = some j := fun j hj => (hn6 j hj).imp (fun e => Nat.le_trans (HD.out).size e) id
                refine ⟨⟨⟨w6, HB6.out⟩, rfl⟩, ?_⟩
                go_simp
                iterate 3 (refine tree_still rfl rfl ?_; go_big_quiet_step (exact rfl); refine wpQuiet_nil ?_)
                refine tree_one rfl rfl ?_
                go_simp
                refine ⟨⟨⟨_, (show Below _ _ _ from balloc HB6.out _)⟩, rfl⟩, ?_⟩
                go_simp
                refine tree_one rfl rfl ?_
                have He := apF_new (W := W4) (lv := (Value.slice sa ns sc)) (S := ⟨L, E⟩) 45 hr6 hn6' HB6.out
                go_simp
                refine ⟨⟨⟨_, He.bel⟩, rfl⟩, ?_⟩
                go_simp
                iterate 1 (refine tree_still rfl rfl ?_; go_big_quiet_step (exact rfl); refine wpQuiet_nil ?_)
                refine tree_done ?_
                go_wp2
                go_meet
                exact ⟨w6.heap.size, z6, y6, rfl, rfl, He⟩
              · go_simp
                obtain ⟨w7, hw7⟩ : ∃ w7, w7 = (W4.alloc (.cells #[.slice none 0 0, .int .i64 0] 45)).drew := ⟨_, rfl⟩
                rw [← hw7]
                have HZ7 : Hid (Blk w7 W4.heap.size 45 [.slice none 0 0, .int .i64 0]) := (by rw [hw7]; exact blk_new W4 _ 45)
                have HB7 : Hid (Below W4.heap.size W4 w7) := (by rw [hw7]; exact (balloc (Below.refl _ _) _).drew)
                have HL7 : Hid (W4.heap.size < w7.heap.size) := (show _ < _ from HZ7.out.lt)
                clear hw7
                refine ⟨⟨⟨w7, HB7.out⟩, rfl⟩, ?_⟩
                go_simp
                refine tree_one rfl rfl ?_
                go_simp
                refine (HAp.out w7 HB7.out).mono ?_
                rintro r w6 ⟨z6, y6, rfl, hr6, hn6, hb6⟩
                have HB6 : Hid (Below W4.heap.size W4 w6) := (show Below _ _ _ from bnext (w := w7) HB7.out hb6)
                have hn6' : ∀ j, (Value.slice z6 m' y6).ownBlock = some j → W4.heap.size ≤ j ∨ (Value.slice sa ns sc).ownBlock = some j := fun j hj => (hn6 j hj).imp (fun e => Nat.le_trans (HB7.out).size e) id
                have HZ6 : Hid (Blk w6 W4.heap.size 45 [.slice none 0 0, .int .i64 0]) := HZ7.out.below hb6
                have hne6 : (Value.slice z6 m' y6).ownBlock ≠ some W4.heap.size := fun e => (hn6 _ e).elim (fun r => by have := HZ7.out.lt; omega) (fun r => absurd (Nat.le_refl W4.heap.size) (Nat.not_le_of_lt (HLV.out _ r)))
                refine ⟨⟨⟨w6, HB6.out⟩, rfl⟩, ?_⟩
                go_simp
                iterate 3 (refine tree_still rfl rfl ?_; go_big_quiet_step (exact rfl); refine wpQuiet_nil ?_)
                refine tree_one rfl rfl ?_
                have He := apF_put (W := W4) (lv := (Value.slice sa ns sc)) (S := ⟨L, E⟩) HZ6.out hr6 hn6' hne6 HB6.out (Nat.le_refl W4.heap.size)
                have g0 := HZ6.out.cell 0 _ rfl; have g1 := HZ6.out.cell 1 _ rfl; have i0 := HZ6.out.frozen 0; have i1 := HZ6.out.frozen 1
                go_simp
                refine ⟨⟨⟨_, He.bel⟩, rfl⟩, ?_⟩
                go_simp
                iterate 1 (refine tree_still rfl rfl ?_; go_big_quiet_step (exact rfl); refine wpQuiet_nil ?_)
                refine tree_done ?_
                go_wp2
                go_meet
                exact ⟨W4.heap.size, z6, y6, rfl, rfl, He⟩
            case rest => as_aux_lemma =>
              obtain ⟨tb, z6, y6, rfl, rfl, HA1⟩ := hcut
              obtain ⟨W5, hW5⟩ : ∃ W5, W5 = wc := ⟨_, rfl⟩
              subst hW5
              clear s14 s15 q0 q1 q2 q3 q4 q5 ne HD HAp HLV
              have HW8 : Hid (WG w0 W5 (newTo o4 W4 0) wb { { G with S := B.S } with last := B.key } (.slice sa ns sc) (.slice ta nt tc)) := (show WG _ _ _ _ _ _ _ from HW7.out.below HA1.out.bel 0)
              have HV8 : Hid (CVar W5 (newTo o4 W4 0) ab 59 B.c (.slice xa5 na5 pa5) (.slice xb5 nb5 pb5) qs5) := (show CVar _ _ _ _ _ _ _ _ from HV7.out.mv (Mv.of_below (I := []) 0 HA1.out.bel) (by simp))
              have HK8 : Hid (KAt W5 (newTo o4 W4 0) (.slice a4 nj c4) (K ++ [B.key])) := (show KAt _ _ _ _ from HK7.out.mv (Mv.of_below (I := []) 0 HA1.out.bel) (by simp))
              have HS8 : Hid (SV W5 (newTo o4 W4 0) tb (.slice z6 m' y6) E) := (show SV _ _ _ _ _ from ⟨HA1.out.var, newTo_new HA1.out.le⟩)
              have HP8 : Hid (KpF mc W5 (newTo o4 W4 0) (.slice z6 m' y6) L) := (show KpF _ _ _ _ _ from HA1.out.kp HW7.out.s HGk.out.pos)
              generalize newTo o4 W4 0 = o5 at *
              clear HW7 HV7 HK7 HA1
              rcases HCs.out with hk2 | ⟨hk0, he19, hL, hE⟩
              · subst hk2
                go_wp2_with (go_at_call 8; go_must (refine (HAl.out W5).mono ?_; rintro r w9 ⟨rfl, hb9⟩))
                go_ret
                exact ⟨rfl, bnext HW8.out.bel hb9⟩
              · subst hk0
                have HRn : Hid (∀ j, j < 4 → Rnd G K j (inB G.M.l j)) := (show ∀ _, _ from fun j hj => HSh.out.rnd (by omega) he19 hj trivial)
                have HSe : Hid (Shr (fun _ => True) (epG G 4) (8 + 100 * (k + 1)) (k + 1 + 1) (K ++ [B.key]) (O ++ [B.o])) := (by
                  have h1 := (HSh.out.epoch (by omega) he19).le (show 8 + 100 * k + (k + 1) + 3 ≤ 8 + 100 * (k + 1) by omega) (show k + 1 ≤ k + 1 + 1 by omega)
                  rw [HBf.out, HB.out]
                  exact h1)
                have HEl : Hid (E = (K.length : Int) ∧ E = G.M.e + 1 ∧ L = G.M.l) := ⟨by rw [hE]; exact HSh.out.ep, hE, hL⟩
                have HFi : Hid (∀ j : Nat, inB G.M.l j = true → ∃ m, findM L j = some m ∧ m.t = -1 ∧ m.f ≤ E) := (show ∀ _, _ by rw [hL, hE]; exact fun j hj => HSh.out.find_in hj)
                have HFo : Hid (∀ j : Nat, inB G.M.l j = false → findM L j = none ∨ ∃ m, findM L j = some m ∧ m.t ≠ -1) := (show ∀ _, _ by rw [hL]; exact fun j hj => find_out hj)
                have HE0 : Hid (({ { { { G with S := B.S } with last := B.key } with M := ⟨L, E⟩ } with K := ⟨L, E⟩ } : Gd) = epG G 0) := (show _ = _ by rw [HB.out, hL, hE]; exact epG_zero G)
                have hwb := HW8.out.blk
                have ht := HS8.out.blk
                have u0 := ht.cell 0 _ rfl; have u1 := ht.cell 1 _ rfl
                have b14 := hwb.cell 14 _ rfl; have b15 := hwb.cell 15 _ rfl; have d14 := hwb.frozen 14; have d15 := hwb.frozen 15
                obtain ⟨hS1, hS2⟩ := HW8.out.setS (v := .slice z6 m' y6) (M := ⟨L, E⟩) HP8.out
                have HW9 : Hid (WG w0 ((W5.setCell ⟨wb, 14, none⟩ (.slice z6 m' y6)).setCell ⟨wb, 15, none⟩ (.int .i64 E)) (newTo o5 W5 9) wb { { { G with S := B.S } with last := B.key } with M := ⟨L, E⟩ } (.slice z6 m' y6) (.slice ta nt tc)) := (show WG _ _ _ _ _ _ _ from hS1)
                have HV9 : Hid (CVar ((W5.setCell ⟨wb, 14, none⟩ (.slice z6 m' y6)).setCell ⟨wb, 15, none⟩ (.int .i64 E)) (newTo o5 W5 9) ab 59 B.c (.slice xa5 na5 pa5) (.slice xb5 nb5 pb5) qs5) := (show CVar _ _ _ _ _ _ _ _ from HV8.out.mv hS2 (by decide))
                have HK9 : Hid (KAt ((W5.setCell ⟨wb, 14, none⟩ (.slice z6 m' y6)).setCell ⟨wb, 15, none⟩ (.int .i64 E)) (newTo o5 W5 9) (.slice a4 nj c4) (K ++ [B.key])) := (show KAt _ _ _ _ from HK8.out.mv hS2 (by decide))
                have HS9 : Hid (SV ((W5.setCell ⟨wb, 14, none⟩ (.slice z6 m' y6)).setCell ⟨wb, 15, none⟩ (.int .i64 E)) (newTo o5 W5 9) tb (.slice z6 m' y6) E) := (show SV _ _ _ _ _ from HS8.out.mv hS2 (by decide))
                clear hS1 hS2 hwb ht HW8 HV8 HK8 HS8 HP8 hL hE HSh he19 HCs
                go_upto_region 22 with fail
                generalize (W5.setCell ⟨wb, 14, none⟩ (.slice z6 m' y6)).setCell ⟨wb, 15, none⟩ (.int .i64 E) = W6 at *
                generalize newTo o5 W5 9 = o6 at *
                clear u0 u1 b14 b15 d14 d15
                have hwb := HW9.out.blk
                have hcv := HV9.out.var
                have e16 := hwb.cell 16 _ rfl; have e17 := hwb.cell 17 _ rfl
                have g0 := hcv.cell 0 _ rfl; have g1 := hcv.cell 1 _ rfl; have g2 := hcv.cell 2 _ rfl; have g3 := hcv.cell 3 _ rfl; have g4 := hcv.cell 4 _ rfl; have g5 := hcv.cell 5 _ rfl
                have hcl : ∀ (z : WIn (fun w' => Below W6.heap.size W6 w')) p v, W6.cell? p = some v → z.w.cell? p = some v := fun z p v hp => (z.ok.cell (World.block_lt_of_cell? W6 _ hp)).trans hp
                have s16 := fun z => hcl z _ _ e16; have s17 := fun z => hcl z _ _ e17
                have q0 := fun z => hcl z _ _ g0; have q1 := fun z => hcl z _ _ g1; have q2 := fun z => hcl z _ _ g2; have q3 := fun z => hcl z _ _ g3; have q4 := fun z => hcl z _ _ g4; have q5 := fun z => hcl z _ _ g5
                have HFs : Hid (∀ w', Below W6.heap.size W6 w' → Calls Tryz.prog 18 #[.agg #[.int .i64 B.c.k, .int .i64 B.c.w, .int .u64 B.c.p, .int .i64 B.c.l, .slice xa5 na5 pa5, .slice xb5 nb5 pb5]] w' fun r w'' => ∃ x n y, r = .returned (.agg #[.int .i64 B.c.k, .int .i64 B.c.w, .int .u64 B.c.p, .int .i64 B.c.l, .slice x n y, .slice xb5 nb5 pb5]) ∧ CgAt w'' B.c (.slice x n y) (.slice xb5 nb5 pb5) qs5 ∧ Below w'.heap.size w' w'') := fun w' hb => by
                  have hq : qs5.length ≤ 1000 := by
                    have h1 := congrArg List.length HV9.out.cg.ws
                    rw [List.length_map] at h1
                    have := HBs.out.1
                    omega
                  refine (back30 (HV9.out.cg.below hb) hq).mono ?_
                  rintro r w'' ⟨a', rfl, hc, hb'⟩
                  obtain ⟨x, y, e⟩ := hc.row.len
                  subst e
                  exact ⟨x, _, y, rfl, hc, hb'⟩
                have HAp : Hid (∀ w' x n y, Below W6.heap.size W6 w' → CgAt w' B.c (.slice x n y) (.slice xb5 nb5 pb5) qs5 → Calls Tryz.prog 17 #[.agg #[.slice ta nt tc, .int .i64 G.K.e], .agg #[.int .i64 B.c.k, .int .i64 B.c.w, .int .u64 B.c.p, .int .i64 B.c.l, .slice x n y, .slice xb5 nb5 pb5]] w' fun r w'' => ∃ z y', r = .returned (.tuple #[.agg #[.slice z m' y', .int .i64 E], .int .i64 0]) ∧ RowF mc w'' (.slice z m' y') L ∧ (∀ j, (Value.slice z m' y').ownBlock = some j → w'.heap.size ≤ j ∨ (Value.slice ta nt tc).ownBlock = some j) ∧ Below w'.heap.size w' w'') := fun w' x n y hb hc => by
                  have hg := HGk.out
                  have hkm := HKM.out
                  have h1 := rapply14f (S := G.K) (HW9.out.t.1.below hb) (by rw [hkm]; have := hg.len; omega) (by rw [hkm]; exact hg.mok) hc
                  rw [show applyM G.K B.c = (⟨L, E⟩, 0) by rw [hkm]; exact HA.out] at h1
                  refine h1.mono ?_
                  rintro r w'' ⟨v, rfl, hr, hn, hb'⟩
                  obtain ⟨z, y', e⟩ := hr.len
                  subst e
                  refine ⟨z, y', ?_, ?_, ?_, hb'⟩
                  · rw [HMm.out]; rfl
                  · rw [HMm.out]; exact hr
                  · rw [HMm.out]; exact hn
                have HLV : Hid (∀ j, (Value.slice ta nt tc).ownBlock = some j → j < W6.heap.size) := fun j hj => (HW9.out.t.2 (by show G.K.l ≠ []; rw [HKM.out]; exact HGk.out.pos) j hj).1
                have HD : Hid (Below W6.heap.size W6 W6.drew) := (show Below _ _ _ from (Below.refl _ _).drew)
                have ne : Nonempty (WIn (fun w' => Below W6.heap.size W6 w')) := ⟨⟨W6, Below.refl _ _⟩⟩
                clear hwb hcv e16 e17 g0 g1 g2 g3 g4 g5 hcl
                go_cut [12, 13] (fun tv kv wx => ∃ (tb : Nat) (z6 : Option Addr) (y6 : Nat), tv = ptr tb ∧ kv = .int .i64 0 ∧ Hid (ApF W6 wx tb 48 (Value.slice ta nt tc) (.slice z6 m' y6) ⟨L, E⟩))
                case first => as_aux_lemma =>
                  refine wp_region_tree (C := fun w' => ∃ z : WIn (fun w' => Below W6.heap.size W6 w'), w' = z.w) (.still 0 (.still 1 (.still 2 (.still 3 (.still 4 (.two 5 (.two 6 (.still 7 (.still 8 (.still 9 (.one 10 (.one 11 (.still 12 .done)))))) 10 (.one 6 (.still 7 (.still 8 (.still 9 (.one 11 (.still 12 .done))))))) 10 (.one 5 (.one 6 (.still 7 (.still 8 (.still 9 (.one 11 (.still 12 .done))))))))))))) (by kernel_rfl) (by kernel_rfl) ⟨⟨W6.drew, HD.out⟩, rfl⟩ ?_
                  iterate 5 (refine tree_still rfl rfl ?_; go_big_quiet_step (exact rfl); refine wpQuiet_nil ?_)
                  refine tree_two rfl rfl rfl rfl ?_ ?_
                  · go_simp
                    refine (HFs.out W6.drew HD.out).mono ?_
                    rintro r w5 ⟨x5, n5, y5, rfl, hc5, hb5⟩
                    have HB5 : Hid (Below W6.heap.size W6 w5) := (show Below _ _ _ from bnext (w := W6.drew) HD.out hb5)
                    refine ⟨⟨⟨w5, HB5.out⟩, rfl⟩, ?_⟩
                    go_simp
                    refine tree_two rfl rfl rfl rfl ?_ ?_
                    · go_simp
                      refine (HAp.out w5 x5 n5 y5 HB5.out hc5).mono ?_
                      rintro r w6 ⟨z6, y6, rfl, hr6, hn6, hb6⟩
                      have HB6 : Hid (Below W6.heap.size W6 w6) := (show Below _ _ _ from bnext (w := w5) HB5.out hb6)
                      have hn6' : ∀ j, (Value.slice z6 m' y6).ownBlock = some j → W6.heap.size ≤ j ∨ (Value.slice ta nt tc).ownBlock = some j := fun j hj => (hn6 j hj).imp (fun e => Nat.le_trans (HB5.out).size e) id
                      refine ⟨⟨⟨w6, HB6.out⟩, rfl⟩, ?_⟩
                      go_simp
                      iterate 3 (refine tree_still rfl rfl ?_; go_big_quiet_step (exact rfl); refine wpQuiet_nil ?_)
                      refine tree_one rfl rfl ?_
                      go_simp
                      refine ⟨⟨⟨_, (show Below _ _ _ from balloc HB6.out _)⟩, rfl⟩, ?_⟩
                      go_simp
                      refine tree_one rfl rfl ?_
                      have He := apF_new (W := W6) (lv := (Value.slice ta nt tc)) (S := ⟨L, E⟩) 48 hr6 hn6' HB6.out
                      go_simp
                      refine ⟨⟨⟨_, He.bel⟩, rfl⟩, ?_⟩
                      go_simp
                      iterate 1 (refine tree_still rfl rfl ?_; go_big_quiet_step (exact rfl); refine wpQuiet_nil ?_)
                      refine tree_done ?_
                      go_wp2
                      go_meet
                      exact ⟨w6.heap.size, z6, y6, rfl, rfl, He⟩
                    · go_simp
                      obtain ⟨w7, hw7⟩ : ∃ w7, w7 = w5.alloc (.cells #[.slice none 0 0, .int .i64 0] 48) := ⟨_, rfl⟩
                      rw [← hw7]
                      obtain ⟨tb5, htb5⟩ : ∃ tb5, tb5 = w5.heap.size := ⟨_, rfl⟩
                      rw [← htb5]
                      have HZ7 : Hid (Blk w7 tb5 48 [.slice none 0 0, .int .i64 0]) := (by rw [hw7, htb5]; exact blk_new w5 _ 48)
                      have HB7 : Hid (Below W6.heap.size W6 w7) := (by rw [hw7]; exact balloc HB5.out _)
                      have HT7 : Hid (W6.heap.size ≤ tb5) := (by rw [htb5]; exact HB5.out.size)
                      have hc7 := hc5.below (show Below w5.heap.size w5 w7 by rw [hw7]; exact balloc (Below.refl _ _) _)
                      clear hw7 htb5
                      refine ⟨⟨⟨w7, HB7.out⟩, rfl⟩, ?_⟩
                      go_simp
                      refine tree_one rfl rfl ?_
                      go_simp
                      refine (HAp.out w7 x5 n5 y5 HB7.out hc7).mono ?_
                      rintro r w6 ⟨z6, y6, rfl, hr6, hn6, hb6⟩
                      have HB6 : Hid (Below W6.heap.size W6 w6) := (show Below _ _ _ from bnext (w := w7) HB7.out hb6)
                      have hn6' : ∀ j, (Value.slice z6 m' y6).ownBlock = some j → W6.heap.size ≤ j ∨ (Value.slice ta nt tc).ownBlock = some j := fun j hj => (hn6 j hj).imp (fun e => Nat.le_trans (HB7.out).size e) id
                      have HZ6 : Hid (Blk w6 tb5 48 [.slice none 0 0, .int .i64 0]) := HZ7.out.below hb6
                      have hne6 : (Value.slice z6 m' y6).ownBlock ≠ some tb5 := fun e => (hn6 _ e).elim (fun r => by have := HZ7.out.lt; omega) (fun r => absurd HT7.out (Nat.not_le_of_lt (HLV.out _ r)))
                      refine ⟨⟨⟨w6, HB6.out⟩, rfl⟩, ?_⟩
                      go_simp
                      iterate 3 (refine tree_still rfl rfl ?_; go_big_quiet_step (exact rfl); refine wpQuiet_nil ?_)
                      refine tree_one rfl rfl ?_
                      have He := apF_put (W := W6) (lv := (Value.slice ta nt tc)) (S := ⟨L, E⟩) HZ6.out hr6 hn6' hne6 HB6.out HT7.out
                      have g0 := HZ6.out.cell 0 _ rfl; have g1 := HZ6.out.cell 1 _ rfl; have i0 := HZ6.out.frozen 0; have i1 := HZ6.out.frozen 1
                      go_simp
                      refine ⟨⟨⟨_, He.bel⟩, rfl⟩, ?_⟩
                      go_simp
                      iterate 1 (refine tree_still rfl rfl ?_; go_big_quiet_step (exact rfl); refine wpQuiet_nil ?_)
                      refine tree_done ?_
                      go_wp2
                      go_meet
                      exact ⟨tb5, z6, y6, rfl, rfl, He⟩
                  · go_simp
                    obtain ⟨w7, hw7⟩ : ∃ w7, w7 = (W6.alloc (.cells #[.slice none 0 0, .int .i64 0] 48)).drew := ⟨_, rfl⟩
                    rw [← hw7]
                    have HZ7 : Hid (Blk w7 W6.heap.size 48 [.slice none 0 0, .int .i64 0]) := (by rw [hw7]; exact blk_new W6 _ 48)
                    have HB7 : Hid (Below W6.heap.size W6 w7) := (by rw [hw7]; exact (balloc (Below.refl _ _) _).drew)
                    have HL7 : Hid (W6.heap.size < w7.heap.size) := (show _ < _ from HZ7.out.lt)
                    clear hw7
                    refine ⟨⟨⟨w7, HB7.out⟩, rfl⟩, ?_⟩
                    go_simp
                    refine tree_one rfl rfl ?_
                    go_simp
                    refine (HFs.out w7 HB7.out).mono ?_
                    rintro r w5 ⟨x5, n5, y5, rfl, hc5, hb5⟩
                    have HB5 : Hid (Below W6.heap.size W6 w5) := (show Below _ _ _ from bnext (w := w7) HB7.out hb5)
                    have HZ5 : Hid (Blk w5 W6.heap.size 48 [.slice none 0 0, .int .i64 0]) := HZ7.out.below hb5
                    refine ⟨⟨⟨w5, HB5.out⟩, rfl⟩, ?_⟩
                    go_simp
                    refine tree_one rfl rfl ?_
                    go_simp
                    refine (HAp.out w5 x5 n5 y5 HB5.out hc5).mono ?_
                    rintro r w6 ⟨z6, y6, rfl, hr6, hn6, hb6⟩
                    have HB6 : Hid (Below W6.heap.size W6 w6) := (show Below _ _ _ from bnext (w := w5) HB5.out hb6)
                    have hn6' : ∀ j, (Value.slice z6 m' y6).ownBlock = some j → W6.heap.size ≤ j ∨ (Value.slice ta nt tc).ownBlock = some j := fun j hj => (hn6 j hj).imp (fun e => Nat.le_trans (HB5.out).size e) id
                    have HZ6 : Hid (Blk w6 W6.heap.size 48 [.slice none 0 0, .int .i64 0]) := HZ5.out.below hb6
                    have hne6 : (Value.slice z6 m' y6).ownBlock ≠ some W6.heap.size := fun e => (hn6 _ e).elim (fun r => by have := HZ5.out.lt; omega) (fun r => absurd (Nat.le_refl W6.heap.size) (Nat.not_le_of_lt (HLV.out _ r)))
                    refine ⟨⟨⟨w6, HB6.out⟩, rfl⟩, ?_⟩
                    go_simp
                    iterate 3 (refine tree_still rfl rfl ?_; go_big_quiet_step (exact rfl); refine wpQuiet_nil ?_)
                    refine tree_one rfl rfl ?_
                    have He := apF_put (W := W6) (lv := (Value.slice ta nt tc)) (S := ⟨L, E⟩) HZ6.out hr6 hn6' hne6 HB6.out (Nat.le_refl W6.heap.size)
                    have g0 := HZ6.out.cell 0 _ rfl; have g1 := HZ6.out.cell 1 _ rfl; have i0 := HZ6.out.frozen 0; have i1 := HZ6.out.frozen 1
                    go_simp
                    refine ⟨⟨⟨_, He.bel⟩, rfl⟩, ?_⟩
                    go_simp
                    iterate 1 (refine tree_still rfl rfl ?_; go_big_quiet_step (exact rfl); refine wpQuiet_nil ?_)
                    refine tree_done ?_
                    go_wp2
                    go_meet
                    exact ⟨W6.heap.size, z6, y6, rfl, rfl, He⟩
                case rest => as_aux_lemma =>
                  obtain ⟨tb2, z7, y7, rfl, rfl, HA2⟩ := hcut
                  obtain ⟨W7, hW7⟩ : ∃ W7, W7 = wc := ⟨_, rfl⟩
                  subst hW7
                  clear s16 s17 q0 q1 q2 q3 q4 q5 ne HD HAp HFs HLV
                  have HWa : Hid (WG w0 W7 (newTo o6 W6 0) wb { { { G with S := B.S } with last := B.key } with M := ⟨L, E⟩ } (.slice z6 m' y6) (.slice ta nt tc)) := (show WG _ _ _ _ _ _ _ from HW9.out.below HA2.out.bel 0)
                  have HVa : Hid (CVar W7 (newTo o6 W6 0) ab 59 B.c (.slice xa5 na5 pa5) (.slice xb5 nb5 pb5) qs5) := (show CVar _ _ _ _ _ _ _ _ from HV9.out.mv (Mv.of_below (I := []) 0 HA2.out.bel) (by simp))
                  have HKa : Hid (KAt W7 (newTo o6 W6 0) (.slice a4 nj c4) (K ++ [B.key])) := (show KAt _ _ _ _ from HK9.out.mv (Mv.of_below (I := []) 0 HA2.out.bel) (by simp))
                  have HSa : Hid (SV W7 (newTo o6 W6 0) tb (.slice z6 m' y6) E) := (show SV _ _ _ _ _ from HS9.out.mv (Mv.of_below (I := []) 0 HA2.out.bel) (by simp))
                  have HPa : Hid (KpF mc W7 (newTo o6 W6 0) (.slice z7 m' y7) L) := (show KpF _ _ _ _ _ from HA2.out.kp HW9.out.t (by show G.K.l ≠ []; rw [HKM.out]; exact HGk.out.pos))
                  have ht := HA2.out.var
                  generalize newTo o6 W6 0 = o7 at *
                  have hwb := HWa.out.blk
                  have u0 := ht.cell 0 _ rfl; have u1 := ht.cell 1 _ rfl
                  have b16 := hwb.cell 16 _ rfl; have b17 := hwb.cell 17 _ rfl; have d16 := hwb.frozen 16; have d17 := hwb.frozen 17
                  obtain ⟨hS1, hS2⟩ := HWa.out.setT (v := .slice z7 m' y7) (K := ⟨L, E⟩) HPa.out
                  rw [HE0.out] at hS1
                  have HWb : Hid (WG w0 ((W7.setCell ⟨wb, 16, none⟩ (.slice z7 m' y7)).setCell ⟨wb, 17, none⟩ (.int .i64 E)) (newTo o7 W7 9) wb (epG G 0) (.slice z6 m' y6) (.slice z7 m' y7)) := (show WG _ _ _ _ _ _ _ from hS1)
                  have HVb : Hid (CVar ((W7.setCell ⟨wb, 16, none⟩ (.slice z7 m' y7)).setCell ⟨wb, 17, none⟩ (.int .i64 E)) (newTo o7 W7 9) ab 59 B.c (.slice xa5 na5 pa5) (.slice xb5 nb5 pb5) qs5) := (show CVar _ _ _ _ _ _ _ _ from HVa.out.mv hS2 (by decide))
                  have HKb : Hid (KAt ((W7.setCell ⟨wb, 16, none⟩ (.slice z7 m' y7)).setCell ⟨wb, 17, none⟩ (.int .i64 E)) (newTo o7 W7 9) (.slice a4 nj c4) (K ++ [B.key])) := (show KAt _ _ _ _ from HKa.out.mv hS2 (by decide))
                  have HSb : Hid (SV ((W7.setCell ⟨wb, 16, none⟩ (.slice z7 m' y7)).setCell ⟨wb, 17, none⟩ (.int .i64 E)) (newTo o7 W7 9) tb (.slice z6 m' y6) E) := (show SV _ _ _ _ _ from HSa.out.mv hS2 (by decide))
                  clear hS1 hS2 hwb ht HA2 HW9 HV9 HK9 HS9 HWa HVa HKa HSa HPa HE0
                  go_upto_region 24 with fail
                  generalize (W7.setCell ⟨wb, 16, none⟩ (.slice z7 m' y7)).setCell ⟨wb, 17, none⟩ (.int .i64 E) = W8 at *
                  generalize newTo o7 W7 9 = o8 at *
                  clear u0 u1 b16 b17 d16 d17
                  obtain ⟨EG, hEG⟩ : ∃ EG, EG = epG G := ⟨_, rfl⟩
                  have HEf : Hid (∀ j, (EG j).S = B.S ∧ (EG j).P j = G.P j ∧ ({ EG j with P := upd4 (EG j).P j (learnP B.S (G.P j) B.c).1 } : Gd) = EG (j + 1) ∧ (EG (j + 1)).P j = (learnP B.S (G.P j) B.c).1) := (show ∀ _, _ by
                    intro j
                    rw [hEG, HB.out]
                    exact ⟨rfl, epG_P G j, epG_succ G j, epG_P' G j⟩)
                  have HKe : Hid ((EG 4).K = (EG 4).M) := (show _ = _ by rw [hEG]; rfl)
                  have HEm : Hid (∀ j, (EG j).M.l = L) := (show ∀ _, _ by intro j; rw [hEG, HEl.out.2.2]; rfl)
                  rw [← hEG] at HWb HSe
                  have HRn : Hid (∀ j, j < 4 → (learnP B.S (G.P j) B.c).2 = (if inB G.M.l j = true then 0 else 11) ∧ keyM (learnP B.S (G.P j) B.c).1.ks E = (if inB G.M.l j = true then (B.key, 0) else (0, 11)) ∧ (inB G.M.l j = true → ∀ h : Nat, h < K.length + 1 → keyM (learnP B.S (G.P j) B.c).1.ks h = ((K ++ [B.key]).getD h 0, 0))) := (show ∀ _, _ by
                    intro j hj
                    have h1 := HRn.out j hj
                    rw [HB.out, HEl.out.2.1]
                    exact ⟨h1.le, h1.now, h1.all⟩)
                  clear hEG
                  go_wp2
                  go_loopw [14] (fun nv wx => ∃ j : Nat, nv = .int .i64 j ∧ j ≤ 4 ∧ ∃ (o9 : Nat → Nat), Hid (WG w0 wx o9 wb (EG j) (.slice z6 m' y6) (.slice z7 m' y7)) ∧ Hid (CVar wx o9 ab 59 B.c (.slice xa5 na5 pa5) (.slice xb5 nb5 pb5) qs5) ∧ Hid (KAt wx o9 (.slice a4 nj c4) (K ++ [B.key])) ∧ Hid (SV wx o9 tb (.slice z6 m' y6) E)) (fun nv _ => 4 - (intOf nv).toNat)
                  case atStart => exact ⟨0, rfl, by omega, o8, HWb.out, HVb.out, HKb.out, HSb.out⟩
                  case round =>
                    obtain ⟨j, rfl, hj, o9, HWj, HVj, HKj, HSj⟩ := hrel
                    obtain ⟨WN, hWN⟩ : ∃ WN, WN = wr := ⟨_, rfl⟩
                    subst hWN
                    clear HWb HVb HKb HSb
                    by_cases hj4 : j < 4
                    · obtain ⟨bb, hbb⟩ : ∃ bb, bb = inB G.M.l j := ⟨_, rfl⟩
                      obtain ⟨r1, r2, r3⟩ := HRn.out j hj4
                      rw [← hbb] at r1 r2 r3
                      obtain ⟨RW, hRW⟩ : ∃ RW, RW = (learnP B.S (G.P j) B.c).1 := ⟨_, rfl⟩
                      rw [← hRW] at r2 r3
                      obtain ⟨KK, hKK⟩ : ∃ KK : Int, KK = if bb = true then 0 else 11 := ⟨_, rfl⟩
                      rw [← hKK] at r1
                      obtain ⟨kx, kf, hkx⟩ : ∃ kx kf : Int, (kx, kf) = if bb = true then (B.key, 0) else (0, 11) := ⟨_, _, rfl⟩
                      rw [← hkx] at r2
                      have HR1 : Hid ((learnP B.S (G.P j) B.c).2 = KK) := r1
                      have HR2 : Hid (keyM RW.ks E = (kx, kf)) := r2
                      have HR3 : Hid (bb = true → ∀ h : Nat, h < K.length + 1 → keyM RW.ks h = ((K ++ [B.key]).getD h 0, 0)) := r3
                      have HRW : Hid (RW = (learnP B.S (G.P j) B.c).1) := hRW
                      have HKK : Hid (KK = if bb = true then 0 else 11) := hKK
                      have HKX : Hid ((kx, kf) = if bb = true then (B.key, 0) else (0, 11)) := hkx
                      obtain ⟨mw, mp, mf, mt, ml, isb, hfd, hft, hff⟩ : ∃ (mw mp mf mt ml : Int) (isb : Bool), (mv ((findM L j).getD zm) = .agg #[.int .i64 mw, .int .u64 mp, .int .i64 mf, .int .i64 mt, .int .i64 ml] ∧ (findM L j).isSome = isb) ∧ (bb = true → isb = true ∧ mt = -1 ∧ mf ≤ E) ∧ (bb = false → isb = false ∨ mt ≠ -1) := by
                        cases bb with
                        | true =>
                          obtain ⟨m, m1, m2, m3⟩ := HFi.out j hbb.symm
                          exact ⟨m.w, m.p, m.f, m.t, m.l, true, ⟨by rw [m1]; rfl, by rw [m1]; rfl⟩, fun _ => ⟨rfl, m2, m3⟩, fun e => by cases e⟩
                        | false =>
                          rcases HFo.out j hbb.symm with m1 | ⟨m, m1, m2⟩
                          · exact ⟨_, _, _, _, _, false, ⟨by rw [m1]; rfl, by rw [m1]; rfl⟩, fun e => (by cases e), fun _ => .inl rfl⟩
                          · exact ⟨m.w, m.p, m.f, m.t, m.l, true, ⟨by rw [m1]; rfl, by rw [m1]; rfl⟩, fun e => (by cases e), fun _ => .inr m2⟩
                      have HFt : Hid (bb = true → isb = true ∧ mt = -1 ∧ mf ≤ E) := hft
                      have HFf : Hid (bb = false → isb = false ∨ mt ≠ -1) := hff
                      have HFd : Hid (Calls Tryz.prog 19 #[.agg #[.slice z6 m' y6, .int .i64 E], .int .i64 j] WN fun r w' => r = .returned (.tuple #[.agg #[.int .i64 mw, .int .u64 mp, .int .i64 mf, .int .i64 mt, .int .i64 ml], .bool isb]) ∧ Below WN.heap.size WN w') := (by
                        have h1 := find17 (w := WN) (v := .slice z6 m' y6) (l := (EG j).M.l) HWj.out.s.1 j E
                        rw [HEm.out j, hfd.1, hfd.2] at h1
                        exact h1)
                      clear hbb r1 r2 r3 hRW hKK hkx hft hff hfd
                      have u0 := HSj.out.blk.cell 0 _ rfl; have u1 := HSj.out.blk.cell 1 _ rfl
                      go_upto_region 28 with (go_at_call 19; go_must (refine HFd.out.mono ?_; rintro r w9 ⟨rfl, hb9⟩))
                      have hX := blk_new w9 [.int .i64 mw, .int .u64 mp, .int .i64 mf, .int .i64 mt, .int .i64 ml] 70
                      have hB9 : Below WN.heap.size WN (w9.alloc (.cells #[.int .i64 mw, .int .u64 mp, .int .i64 mf, .int .i64 mt, .int .i64 ml] 70)) := balloc hb9 _
                      have HWk : Hid (WG w0 (w9.alloc (.cells #[.int .i64 mw, .int .u64 mp, .int .i64 mf, .int .i64 mt, .int .i64 ml] 70)) (newTo o9 WN 0) wb (EG j) (.slice z6 m' y6) (.slice z7 m' y7)) := (show WG _ _ _ _ _ _ _ from HWj.out.below hB9 0)
                      have HVk : Hid (CVar (w9.alloc (.cells #[.int .i64 mw, .int .u64 mp, .int .i64 mf, .int .i64 mt, .int .i64 ml] 70)) (newTo o9 WN 0) ab 59 B.c (.slice xa5 na5 pa5) (.slice xb5 nb5 pb5) qs5) := (show CVar _ _ _ _ _ _ _ _ from HVj.out.mv (Mv.of_below (I := []) 0 hB9) (by simp))
                      have HKk : Hid (KAt (w9.alloc (.cells #[.int .i64 mw, .int .u64 mp, .int .i64 mf, .int .i64 mt, .int .i64 ml] 70)) (newTo o9 WN 0) (.slice a4 nj c4) (K ++ [B.key])) := (show KAt _ _ _ _ from HKj.out.mv (Mv.of_below (I := []) 0 hB9) (by simp))
                      have HSk : Hid (SV (w9.alloc (.cells #[.int .i64 mw, .int .u64 mp, .int .i64 mf, .int .i64 mt, .int .i64 ml] 70)) (newTo o9 WN 0) tb (.slice z6 m' y6) E) := (show SV _ _ _ _ _ from HSj.out.mv (Mv.of_below (I := []) 0 hB9) (by simp))
                      have x2 := hX.cell 2 _ rfl; have x3 := hX.cell 3 _ rfl
                      generalize w9.heap.size = vb at *
                      clear hX hB9 hb9 HFd HWj HVj HKj HSj u0 u1
                      generalize w9.alloc (.cells #[.int .i64 mw, .int .u64 mp, .int .i64 mf, .int .i64 mt, .int .i64 ml] 70) = W9 at *
                      generalize newTo o9 WN 0 = p9 at *
                      have u1 := HSk.out.blk.cell 1 _ rfl
                      go_cut [17] (fun iv wx => iv = .bool bb ∧ Hid (wx = W9))
                      case first => as_aux_lemma =>
                        cases bb with
                        | true =>
                          obtain ⟨f1, f2, f3⟩ := HFt.out rfl
                          subst f1 f2
                          go_wp2
                          go_meet
                          exact ⟨rfl, rfl⟩
                        | false =>
                          cases isb with
                          | false =>
                            go_wp2
                            go_meet
                            exact ⟨rfl, rfl⟩
                          | true =>
                            have f2 : ¬ mt = -1 := (HFf.out rfl).elim (fun e => by cases e) id
                            go_wp2
                            go_meet
                            exact ⟨rfl, rfl⟩
                      case rest => as_aux_lemma =>
                        obtain ⟨rfl, hwc⟩ := hcut
                        have hwc' := hwc.out
                        subst hwc'
                        clear hwc x2 x3 u1 HFt HFf
                        have HLe : Hid (∀ w' o', WG w0 w' o' wb (EG j) (.slice z6 m' y6) (.slice z7 m' y7) → CVar w' o' ab 59 B.c (.slice xa5 na5 pa5) (.slice xb5 nb5 pb5) qs5 → KAt w' o' (.slice a4 nj c4) (K ++ [B.key]) → SV w' o' tb (.slice z6 m' y6) E → Calls Tryz.prog 20 #[ptr ((EG j).rb j), .agg #[.int .i64 B.c.k, .int .i64 B.c.w, .int .u64 B.c.p, .int .i64 B.c.l, .slice xa5 na5 pa5, .slice xb5 nb5 pb5]] w' fun r w'' => r = .returned (.int .i64 KK) ∧ ∃ o'', WG w0 w'' o'' wb { EG j with P := upd4 (EG j).P j RW } (.slice z6 m' y6) (.slice z7 m' y7) ∧ CVar w'' o'' ab 59 B.c (.slice xa5 na5 pa5) (.slice xb5 nb5 pb5) qs5 ∧ KAt w'' o'' (.slice a4 nj c4) (K ++ [B.key]) ∧ SV w'' o'' tb (.slice z6 m' y6) E) := fun w' o' hw hv hk hs => by
                          have hS : Ora (EG j).S 9000 := by rw [(HEf.out j).1]; exact HO.out
                          have hl := learn20 (hw.rings j hj4) hw.orc hS (by omega) (by omega) hv.cg hv.kb (by have := HBs.out.2; omega)
                          have e1 : learnP (EG j).S ((EG j).P j) B.c = (RW, KK) := by
                            rw [(HEf.out j).1, (HEf.out j).2.1, HRW.out, ← HR1.out]
                          rw [e1] at hl
                          refine hl.mono ?_
                          rintro r w'' ⟨rfl, o'', h1, h2⟩
                          exact ⟨rfl, o'', hw.ringS hj4 h2 h1, hv.mv h2 (by simp; omega), hk.mv h2 (by simp; omega), hs.mv h2 (by simp; omega)⟩
                        have HKy : Hid (∀ w' o' (x : Int), WG w0 w' o' wb { EG j with P := upd4 (EG j).P j RW } (.slice z6 m' y6) (.slice z7 m' y7) → Calls Tryz.prog 11 #[ptr ((EG j).rb j), .int .i64 x] w' fun r w'' => r = .returned (.tuple #[.int .u64 (keyM RW.ks x).1, .int .i64 (keyM RW.ks x).2]) ∧ w'' = w') := fun w' o' x hw => by
                          have h1 := key11 (hw.rings j hj4) x
                          have e1 : ({ EG j with P := upd4 (EG j).P j RW } : Gd).P j = RW := upd4_at _ _ _
                          rw [e1] at h1
                          exact h1
                        have y1 : ∀ z : WIn (fun w' => Blk w' wb 50 (wcs (EG j) (.slice z6 m' y6) (.slice z7 m' y7)) ∧ Blk w' ab 59 [.int .i64 B.c.k, .int .i64 B.c.w, .int .u64 B.c.p, .int .i64 B.c.l, .slice xa5 na5 pa5, .slice xb5 nb5 pb5]), z.w.cell? ⟨wb, 6 + j, none⟩ = some (ptr ((EG j).rb j)) := fun z => z.ok.1.cell _ _ (wcs_r (EG j) _ _ hj4)
                        have v0 : ∀ z : WIn (fun w' => Blk w' wb 50 (wcs (EG j) (.slice z6 m' y6) (.slice z7 m' y7)) ∧ Blk w' ab 59 [.int .i64 B.c.k, .int .i64 B.c.w, .int .u64 B.c.p, .int .i64 B.c.l, .slice xa5 na5 pa5, .slice xb5 nb5 pb5]), _ := fun z => z.ok.2.cell 0 _ rfl
                        have v1 : ∀ z : WIn (fun w' => Blk w' wb 50 (wcs (EG j) (.slice z6 m' y6) (.slice z7 m' y7)) ∧ Blk w' ab 59 [.int .i64 B.c.k, .int .i64 B.c.w, .int .u64 B.c.p, .int .i64 B.c.l, .slice xa5 na5 pa5, .slice xb5 nb5 pb5]), _ := fun z => z.ok.2.cell 1 _ rfl
                        have v2 : ∀ z : WIn (fun w' => Blk w' wb 50 (wcs (EG j) (.slice z6 m' y6) (.slice z7 m' y7)) ∧ Blk w' ab 59 [.int .i64 B.c.k, .int .i64 B.c.w, .int .u64 B.c.p, .int .i64 B.c.l, .slice xa5 na5 pa5, .slice xb5 nb5 pb5]), _ := fun z => z.ok.2.cell 2 _ rfl
                        have v3 : ∀ z : WIn (fun w' => Blk w' wb 50 (wcs (EG j) (.slice z6 m' y6) (.slice z7 m' y7)) ∧ Blk w' ab 59 [.int .i64 B.c.k, .int .i64 B.c.w, .int .u64 B.c.p, .int .i64 B.c.l, .slice xa5 na5 pa5, .slice xb5 nb5 pb5]), _ := fun z => z.ok.2.cell 3 _ rfl
                        have v4 : ∀ z : WIn (fun w' => Blk w' wb 50 (wcs (EG j) (.slice z6 m' y6) (.slice z7 m' y7)) ∧ Blk w' ab 59 [.int .i64 B.c.k, .int .i64 B.c.w, .int .u64 B.c.p, .int .i64 B.c.l, .slice xa5 na5 pa5, .slice xb5 nb5 pb5]), _ := fun z => z.ok.2.cell 4 _ rfl
                        have v5 : ∀ z : WIn (fun w' => Blk w' wb 50 (wcs (EG j) (.slice z6 m' y6) (.slice z7 m' y7)) ∧ Blk w' ab 59 [.int .i64 B.c.k, .int .i64 B.c.w, .int .u64 B.c.p, .int .i64 B.c.l, .slice xa5 na5 pa5, .slice xb5 nb5 pb5]), _ := fun z => z.ok.2.cell 5 _ rfl
                        have ne29 : Nonempty (WIn (fun w' => Blk w' wb 50 (wcs (EG j) (.slice z6 m' y6) (.slice z7 m' y7)) ∧ Blk w' ab 59 [.int .i64 B.c.k, .int .i64 B.c.w, .int .u64 B.c.p, .int .i64 B.c.l, .slice xa5 na5 pa5, .slice xb5 nb5 pb5])) := ⟨⟨wc, HWk.out.blk, HVk.out.var⟩⟩
                        have HD : Hid (WG w0 wc.drew p9 wb (EG j) (.slice z6 m' y6) (.slice z7 m' y7) ∧ CVar wc.drew p9 ab 59 B.c (.slice xa5 na5 pa5) (.slice xb5 nb5 pb5) qs5 ∧ KAt wc.drew p9 (.slice a4 nj c4) (K ++ [B.key]) ∧ SV wc.drew p9 tb (.slice z6 m' y6) E) := ⟨HWk.out.mv (mv_drew [] _ _) (by simp), HVk.out.mv (mv_drew [] _ _) (by simp), HKk.out.mv (mv_drew [] _ _) (by simp), HSk.out.mv (mv_drew [] _ _) (by simp)⟩
                        clear HWk HVk HKk HSk
                        go_upto_region 29 with fail
                        refine wp_region_ord (C := fun w' => ∃ z : WIn (fun w' => Blk w' wb 50 (wcs (EG j) (.slice z6 m' y6) (.slice z7 m' y7)) ∧ Blk w' ab 59 [.int .i64 B.c.k, .int .i64 B.c.w, .int .u64 B.c.p, .int .i64 B.c.l, .slice xa5 na5 pa5, .slice xb5 nb5 pb5]), w' = z.w) [(false, 0), (false, 1), (false, 2), (false, 3), (false, 4), (false, 5), (false, 6), (true, 7), (false, 8)] (by kernel_rfl) (by kernel_rfl) ⟨⟨wc.drew, HD.out.1.blk, HD.out.2.1.var⟩, rfl⟩ ?_
                        iterate 7 (refine ord_still rfl rfl ?_; go_big_quiet_step (exact rfl); refine wpQuiet_nil ?_)
                        refine ord_mem rfl rfl ?_
                        go_simp
                        refine (HLe.out wc.drew p9 HD.out.1 HD.out.2.1 HD.out.2.2.1 HD.out.2.2.2).mono ?_
                        rintro r v9 ⟨rfl, s9, hW9, hV9, hK9, hS9⟩
                        refine ⟨⟨⟨v9, hW9.blk, hV9.var⟩, rfl⟩, ?_⟩
                        iterate 1 (refine ord_still rfl rfl ?_; go_big_quiet_step (exact rfl); refine wpQuiet_nil ?_)
                        refine ord_end ?_
                        have HWl : Hid (WG w0 v9.drew s9 wb { EG j with P := upd4 (EG j).P j RW } (.slice z6 m' y6) (.slice z7 m' y7)) := (show WG _ _ _ _ _ _ _ from hW9.mv (mv_drew [] _ _) (by simp))
                        have HVl : Hid (CVar v9.drew s9 ab 59 B.c (.slice xa5 na5 pa5) (.slice xb5 nb5 pb5) qs5) := (show CVar _ _ _ _ _ _ _ _ from hV9.mv (mv_drew [] _ _) (by simp))
                        have HKl2 : Hid (KAt v9.drew s9 (.slice a4 nj c4) (K ++ [B.key])) := (show KAt _ _ _ _ from hK9.mv (mv_drew [] _ _) (by simp))
                        have HSl : Hid (SV v9.drew s9 tb (.slice z6 m' y6) E) := (show SV _ _ _ _ _ from hS9.mv (mv_drew [] _ _) (by simp))
                        clear y1 v0 v1 v2 v3 v4 v5 ne29 HD HLe
                        have y1 : ∀ z : WIn (fun w' => Blk w' wb 50 (wcs (EG j) (.slice z6 m' y6) (.slice z7 m' y7)) ∧ Blk w' tb 45 [.slice z6 m' y6, .int .i64 E]), z.w.cell? ⟨wb, 6 + j, none⟩ = some (ptr ((EG j).rb j)) := fun z => z.ok.1.cell _ _ (wcs_r (EG j) _ _ hj4)
                        have v1 : ∀ z : WIn (fun w' => Blk w' wb 50 (wcs (EG j) (.slice z6 m' y6) (.slice z7 m' y7)) ∧ Blk w' tb 45 [.slice z6 m' y6, .int .i64 E]), z.w.cell? ⟨tb, 1, none⟩ = some (.int .i64 E) := fun z => z.ok.2.cell 1 _ rfl
                        have ne30 : Nonempty (WIn (fun w' => Blk w' wb 50 (wcs (EG j) (.slice z6 m' y6) (.slice z7 m' y7)) ∧ Blk w' tb 45 [.slice z6 m' y6, .int .i64 E])) := ⟨⟨v9, hW9.blk, hS9.blk⟩⟩
                        have HK0 : Hid (Calls Tryz.prog 11 #[ptr ((EG j).rb j), .int .i64 E] v9.drew fun r w'' => r = .returned (.tuple #[.int .u64 kx, .int .i64 kf]) ∧ w'' = v9.drew) := (by
                          have h1 := HKy.out v9.drew s9 E HWl.out
                          rw [HR2.out] at h1
                          exact h1)
                        have HD : Hid (Blk v9.drew wb 50 (wcs (EG j) (.slice z6 m' y6) (.slice z7 m' y7)) ∧ Blk v9.drew tb 45 [.slice z6 m' y6, .int .i64 E]) := ⟨HWl.out.blk, HSl.out.blk⟩
                        clear hW9 hV9 hK9 hS9
                        go_upto_region 30 with fail
                        refine wp_region_ord (C := fun w' => ∃ z : WIn (fun w' => Blk w' wb 50 (wcs (EG j) (.slice z6 m' y6) (.slice z7 m' y7)) ∧ Blk w' tb 45 [.slice z6 m' y6, .int .i64 E]), w' = z.w) [(false, 0), (false, 1), (false, 2), (false, 3), (false, 4), (false, 5), (false, 6), (false, 7), (true, 8), (false, 9), (false, 10), (false, 11), (false, 12), (false, 13)] (by kernel_rfl) (by kernel_rfl) ⟨⟨v9.drew, HD.out.1, HD.out.2⟩, rfl⟩ ?_
                        iterate 8 (refine ord_still rfl rfl ?_; go_big_quiet_step (exact rfl); refine wpQuiet_nil ?_)
                        refine ord_mem rfl rfl ?_
                        go_simp
                        refine HK0.out.mono ?_
                        rintro r v10 ⟨rfl, hv10⟩
                        subst hv10
                        refine ⟨⟨⟨v9.drew, HD.out.1, HD.out.2⟩, rfl⟩, ?_⟩
                        iterate 5 (refine ord_still rfl rfl ?_; go_big_quiet_step (exact rfl); refine wpQuiet_nil ?_)
                        refine ord_end ?_
                        clear y1 v1 ne30 HD HK0
                        have HWm : Hid (WG w0 v9.drew s9 wb (EG (j + 1)) (.slice z6 m' y6) (.slice z7 m' y7)) := (show WG _ _ _ _ _ _ _ by
                          have h1 := HWl.out
                          rw [HRW.out, (HEf.out j).2.2.1] at h1
                          exact h1)
                        obtain ⟨kg, kcp, hkv, hk1, hk2, hkc⟩ := HKl2.out.cells (by rw [HL4.out, HNj.out]; omega)
                        rw [HL4.out] at hkv hkc
                        have hkv2 : a4 = some ⟨kg, 0, none⟩ := by
                          injection hkv
                        subst hkv2
                        have HKc : Hid (∀ i, i < nj → v9.drew.cell? ⟨kg, i, none⟩ = some (.int .u64 ((K ++ [B.key]).getD i 0))) := hkc
                        have yr := HWl.out.blk.cell _ _ (wcs_r { EG j with P := upd4 (EG j).P j RW } (.slice z6 m' y6) (.slice z7 m' y7) hj4)
                        clear hkv hk1 hk2 hkc
                        generalize v9.drew = V9 at *
                        have hqa := HQ4.out.1
                        have hqb := HQ4.out.2
                        cases bb with
                        | true =>
                          have hKK := HKK.out
                          have hkx := HKX.out
                          rw [if_pos rfl] at hKK hkx
                          injection hkx with hkx1 hkx2
                          subst hKK hkx1 hkx2
                          have hne0 : (B.key != B.key) = false := by simp
                          have HR4 : Hid (∀ h : Nat, h < K.length + 1 → keyM RW.ks h = ((K ++ [B.key]).getD h 0, 0)) := HR3.out rfl
                          clear HR3
                          clear HKK HKX HR1 HR2
                          go_wp2
                          go_loopw [21] (fun hv wx => ∃ h : Nat, hv = .int .i64 h ∧ h ≤ nj ∧ Hid (wx = V9)) (fun hv _ => nj - (intOf hv).toNat)
                          case atStart => exact ⟨0, rfl, by omega, (show _ = _ from rfl)⟩
                          case round =>
                            obtain ⟨h, rfl, hh, HWx⟩ := hrel
                            have hwx : V9 = wr := HWx.out.symm
                            subst hwx
                            by_cases hhn : h < nj
                            · have kc := HKc.out h hhn
                              obtain ⟨kh, hkh⟩ : ∃ kh, kh = (K ++ [B.key]).getD h 0 := ⟨_, rfl⟩
                              rw [← hkh] at kc
                              have HKh : Hid (Calls Tryz.prog 11 #[ptr ((EG j).rb j), .int .i64 h] V9 fun r w'' => r = .returned (.tuple #[.int .u64 kh, .int .i64 0]) ∧ w'' = V9) := (by
                                have h1 := HKy.out V9 s9 h HWl.out
                                have h2 := HR4.out h (by have := HNj.out; omega)
                                rw [h2, ← hkh] at h1
                                exact h1)
                              have hne : (kh != kh) = false := by simp
                              clear hkh
                              go_wp2_with (go_at_call 11; go_must (refine HKh.out.mono ?_; rintro r v11 ⟨rfl, hv11⟩; subst hv11))
                              go_roundw
                              case rel => exact ⟨h + 1, by go_num, by omega, (by first | trivial | exact rfl)⟩
                              case measure => simp [intOf]; omega
                            · go_wp2
                              go_roundw
                              case rel => exact ⟨j + 1, by go_num, by omega, s9, HWm.out, HVl.out, HKl2.out, HSl.out⟩
                              case measure => simp [intOf]; omega
                        | false =>
                          have hKK := HKK.out
                          have hkx := HKX.out
                          rw [if_neg (by simp)] at hKK hkx
                          injection hkx with hkx1 hkx2
                          subst hKK hkx1 hkx2
                          clear HKK HKX HR1 HR2
                          go_wp2
                          go_loopw [21] (fun hv wx => ∃ h : Nat, hv = .int .i64 h ∧ h ≤ nj ∧ Hid (wx = V9)) (fun hv _ => nj - (intOf hv).toNat)
                          case atStart => exact ⟨0, rfl, by omega, (show _ = _ from rfl)⟩
                          case round =>
                            obtain ⟨h, rfl, hh, HWx⟩ := hrel
                            have hwx : V9 = wr := HWx.out.symm
                            subst hwx
                            by_cases hhn : h < nj
                            · go_wp2
                              go_roundw
                              case rel => exact ⟨j + 1, by go_num, by omega, s9, HWm.out, HVl.out, HKl2.out, HSl.out⟩
                              case measure => simp [intOf]; omega
                            · go_wp2
                              go_roundw
                              case rel => exact ⟨j + 1, by go_num, by omega, s9, HWm.out, HVl.out, HKl2.out, HSl.out⟩
                              case measure => simp [intOf]; omega
                    · have hj5 : j = 4 := by omega
                      subst hj5
                      go_wp2
                      go_roundw
                      case rel => exact ⟨k + 1, by go_num, by omega, o9, EG 4, (.slice z6 m' y6), (.slice z7 m' y7), (K ++ [B.key]), O ++ [B.o], a4, nj, c4, rfl, HWj.out, HSe.out, HKe.out, HKj.out, HL4.out.symm⟩
                      case measure => simp [intOf]; omega
        · have HDo : Hid ((q.1.k = 0 ∧ 0 ≤ q.1.w ∧ q.1.w < 4) ∨ q.1.k = 2 → Calls Tryz.prog 10 #[ptr wb, .agg #[.int .i64 q.1.k, .int .i64 q.1.w, .int .u64 q.1.p, .slice xa qs.length pa, .slice xb q.1.o.length pb]] WR (DoPost w0 WR oR wb (doM G q.1))) := fun hd => by
            have h1 := do10 HWG.out HSh.out.ok HKM.out (by omega) (by omega) (op_at HWG.out HC.out HFq.out) (fun h => absurd h (by omega))
            rw [ha, hb] at h1
            exact h1
          have HSd : Hid ((q.1.k = 0 ∧ 0 ≤ q.1.w ∧ q.1.w < 4) ∨ q.1.k = 2 → Shr (fun _ => True) (doM G q.1) (8 + 100 * (k + 1)) (k + 1 + 1) K O ∧ (doM G q.1).K = (doM G q.1).M) := fun hd => ⟨(HSh.out.doM HC.out.hp HC.out.hw hd).le (by omega) (by omega), doM_km HKM.out (hd.imp (fun e => e.1) id)⟩
          rw [ha] at e3
          rw [hb] at e4
          generalize doM G q.1 = GD at HDo HSd
          generalize q.1.k = xk at *
          generalize q.1.w = xw at *
          generalize q.1.p = xp at *
          generalize q.1.o.length = xo at *
          generalize qs.length = xq at *
          clear hr hC hrw ha hb hq HC HFq
          by_cases hd : (xk = 0 ∧ 0 ≤ xw ∧ xw < 4) ∨ xk = 2
          · have HD1 := HDo.out hd
            have HD2 := HSd.out hd
            clear HDo HSd
            rcases hd with ⟨h1, h2, h3⟩ | h1
            · subst h1
              clear hk3
              go_wp2_with (go_at_call 10; go_must (refine HD1.mono ?_; rintro r w5 ⟨rfl, o5, sl5, tl5, hW5, hM5⟩))
              go_roundw
              case rel => exact ⟨k + 1, by go_num, by omega, o5, GD, sl5, tl5, K, O, ka, nk, kc, rfl, hW5, HD2.1, HD2.2, HKA.out.mv hM5 (by decide), HNk.out⟩
              case measure => simp [intOf]; omega
            · subst h1
              clear hk3
              go_wp2_with (go_at_call 10; go_must (refine HD1.mono ?_; rintro r w5 ⟨rfl, o5, sl5, tl5, hW5, hM5⟩))
              go_roundw
              case rel => exact ⟨k + 1, by go_num, by omega, o5, GD, sl5, tl5, K, O, ka, nk, kc, rfl, hW5, HD2.1, HD2.2, HKA.out.mv hM5 (by decide), HNk.out⟩
              case measure => simp [intOf]; omega
          · by_cases h0 : xk = 0
            · subst h0
              by_cases h1 : 0 ≤ xw
              · have h2 : ¬ xw < 4 := fun e => hd (.inl ⟨rfl, h1, e⟩)
                clear hd HDo HSd
                go_wp2
                go_roundw
                case rel => exact ⟨k + 1, by go_num, by omega, oR, G, sl, tl, K, O, ka, nk, kc, rfl, HWG.out, HSh.out.le (by omega) (by omega), HKM.out, HKA.out, HNk.out⟩
                case measure => simp [intOf]; omega
              · clear hd HDo HSd
                go_wp2
                go_roundw
                case rel => exact ⟨k + 1, by go_num, by omega, oR, G, sl, tl, K, O, ka, nk, kc, rfl, HWG.out, HSh.out.le (by omega) (by omega), HKM.out, HKA.out, HNk.out⟩
                case measure => simp [intOf]; omega
            · have h2 : ¬ xk = 2 := fun e => hd (.inr e)
              clear hd HDo HSd
              go_wp2
              go_roundw
              case rel => exact ⟨k + 1, by go_num, by omega, oR, G, sl, tl, K, O, ka, nk, kc, rfl, HWG.out, HSh.out.le (by omega) (by omega), HKM.out, HKA.out, HNk.out⟩
              case measure => simp [intOf]; omega
      · go_wp2_with (go_at_call 8; go_must (refine (HAl.out WR).mono ?_; rintro r w9 ⟨rfl, hb9⟩))
        go_ret
        exact ⟨rfl, bnext HWG.out.bel hb9⟩
end Go.Proofs.YtkoeocghoabmbaaGreat
