/-
  The walk of JournalScans: the records that stand in any sectors.
-/
import Derived.Test.YtngmgdngimnljaaAlv
import Derived.Test.YtngmgdngimnljaaRef4
import Derived.Test.YtngmgdngimnljaaLawH
namespace Go.Proofs.Ytngmgdngimnljaa
set_option linter.unusedVariables false
set_option linter.unusedSimpArgs false
set_option synthInstance.maxSize 20000
set_option maxHeartbeats 4000000
set_option maxRecDepth 20000
open Go.RowKit Go.Maps

/-- A list of sectors that grows. -/
structure Grw (w wr : World) (v : Value) (rs : List VB) (i : Nat) : Prop where
  rcs : RecAt w.heap.size wr v rs
  len : rs.length = i
  bel : Below w.heap.size w wr
theorem grw_zero (w : World) : Grw w w nilv [] 0 := ⟨recAt_nil _ _, rfl, Below.refl _ _⟩
theorem Grw.step {w wr w1 w3 : World} {v v' ev : Value} {s : List Int} {rs : List VB} {i : Nat} (h : Grw w wr v rs i) (hb : Below wr.heap.size wr w1) (he : OutR wr.heap.size w1 ev s)
    (k1 : w3.ownsRow 0 23 1 v' (rs ++ [(ev, s)]).length (flat lc (rs ++ [(ev, s)]))) (k2 : (w1.alloc (.cells #[ev] 23)).grownBy w3 v.ownBlock) (k3 : ∀ j, v'.ownBlock = some j → v.ownBlock = some j ∨ (w1.alloc (.cells #[ev] 23)).heap.size ≤ j) :
    Grw w w3 v' (rs ++ [(ev, s)]) (i + 1) := by
  have hsz := hb.size
  have hb0 := h.bel.size
  obtain ⟨r1, r2⟩ := (h.rcs.below hb).add (by omega) he.1 (fun _ j hj e => by
    have h1 := he.2 j hj
    have h2 := (h.rcs.own.lt j e).2
    omega) k1 k2 k3
  exact ⟨r1, by simp [h.len], (h.rcs.below hb).grown (bnext h.bel hb) (Nat.le_refl _) r2⟩
theorem RawOk.below {w w' : World} {q : RawJ} (h : RawOk w q) (hb : Below w.heap.size w w') : RawOk w' q := ⟨h.g, h.r, h.s, h.b.below hb, h.p, h.a, h.y⟩
theorem zeros_out (w : World) : OutR w.heap.size (w.alloc (.cells (cs8 (List.replicate 64 0)).toArray 5)) (.slice (some ⟨w.heap.size, 0, none⟩) 64 64) (List.replicate 64 0) := by
  have := rd_row w (List.replicate 64 0) 5 (0, 0) (Oct.zeros _) (by simp [maxLen])
  rw [List.length_replicate] at this
  exact ⟨this, fun k hk => by have := Option.some.inj hk; simp at this; omega⟩

theorem scans_walk (v : Value) (qs : List RawJ) (gv : Value) (gs : List Bool) (gen : Int) (w : World) (hv : RowF rwc w v qs) (hq : ∀ q ∈ qs, RawOk w q) (hgv : RowF bc w gv gs) (hg : U32 gen) : Calls Try.prog 4 #[v, gv, .int .u32 gen] w fun r w' => r = .returned (.bool true) ∧ Below w.heap.size w w' := by
  obtain ⟨a, cap, rfl⟩ := hv.len
  obtain ⟨ga, gc, rfl⟩ := hgv.len
  have hcap := hv.caps
  have hm1 : qs.length ≤ cap := hcap.2.1
  have hm2 : cap ≤ 9223372036854775807 := hcap.2.2
  have hgcap := hgv.caps
  have hgm1 : gs.length ≤ gc := hgcap.2.1
  have hgm2 : gc ≤ 9223372036854775807 := hgcap.2.2
  have HAl : Hid (∀ w, Calls Try.prog 9 #[] w fun r w' => r = .returned (.bool true) ∧ Below w.heap.size w w') := alive9
  have H15 : Hid (Calls Try.prog 15 #[.slice a qs.length cap] w fun r w' => r = .returned (.bool (lightB qs)) ∧ w' = w) := lightRaw15 hv hq
  clear hcap hgcap
  cases hlt : lightB qs
  · rw [hlt] at H15
    generalize qs.length = m at *
    generalize gs.length = gm at *
    clear hv hgv
    go_enter Try.func4, Try.ntmps4
    go_wp2_with (first
      | (go_at_call 15; go_must (refine H15.out.mono ?_; rintro r w2 ⟨rfl, hw2⟩; replace hw2 := hw2.symm; subst hw2))
      | (go_at_call 9; go_must (refine (HAl.out _).mono ?_; rintro r w2 ⟨rfl, hb2⟩; have HB2 : Hid (Below w.heap.size w w2) := hb2; clear hb2)))
    go_ret
    exact ⟨rfl, HB2.out⟩
  · rw [hlt] at H15
    obtain ⟨l40, l500⟩ := lightB_true hlt
    have HV : Hid (RowF rwc w (.slice a qs.length cap) qs) := hv
    have HG : Hid (RowF bc w (.slice ga gs.length gc) gs) := hgv
    have HQ : Hid (∀ q ∈ qs, RawOk w q ∧ q.b.length ≤ 500) := fun q h => ⟨hq q h, l500 q h⟩
    obtain ⟨m, hm⟩ : ∃ m, m = qs.length := ⟨_, rfl⟩
    have HM : Hid (m = qs.length) := hm
    obtain ⟨gm, hgm⟩ : ∃ gm, gm = gs.length := ⟨_, rfl⟩
    have HGM : Hid (gm = gs.length) := hgm
    rw [← hm] at hm1 l40 HV H15 ⊢
    rw [← hgm] at hgm1 HG ⊢
    clear hv hgv hq hm hgm hlt l500
    go_enter Try.func4, Try.ntmps4
    go_wp2_with (go_at_call 15; go_must (refine H15.out.mono ?_; rintro r w2 ⟨rfl, hw2⟩; replace hw2 := hw2.symm; subst hw2))
    go_loopw [7, 8] (fun sv iv wr => ∃ (i : Nat) (rs : List VB) (ra : Option Addr) (rc : Nat), i ≤ m ∧ iv = .int .i64 i ∧ sv = .slice ra i rc ∧ Hid (Grw w wr (.slice ra i rc) rs i)) (fun _ iv _ => m - (intOf iv).toNat)
    case atStart => exact ⟨0, [], none, 0, Nat.zero_le _, rfl, rfl, grw_zero w⟩
    case round =>
      obtain ⟨i, rs, ra, rc, hi, rfl, rfl, hK⟩ := hrel
      have hrc := slice_of_own hK.out.rcs.own
      obtain ⟨ra', rc', hra, hrc1, hrc2⟩ := hrc
      obtain ⟨rfl, hx9, rfl⟩ : ra = ra' ∧ i = rs.length ∧ rc = rc' := by simpa using hra
      rw [hK.out.len] at hrc1
      clear hra hx9
      by_cases hlt : i < m
      · obtain ⟨q, hq⟩ : ∃ q, qs[i]? = some q := ⟨_, List.getElem?_eq_getElem (by rw [← HM.out]; exact hlt)⟩
        have hvr := HV.out.below hK.out.bel
        obtain ⟨bb, off, rfl, hr⟩ := rwc_cell hvr hq
        have hqo := HQ.out q (List.mem_of_getElem? hq)
        have H16 := bytes16 (hqo.1.below hK.out.bel) (by omega)
        obtain ⟨qa, qc, hqv⟩ := (hqo.1.below hK.out.bel).b.len
        have c0 := hr 0 _ rfl
        have c1 := hr 1 _ rfl
        have c2 := hr 2 _ rfl
        have c3 := hr 3 _ rfl
        have c4 := hr 4 _ rfl
        have c5 := hr 5 _ rfl
        have c6 := hr 6 _ rfl
        obtain ⟨gen', round', seq', bv', b', part', at', by'⟩ := q
        simp only at hqv c0 c1 c2 c3 c4 c5 c6
        rw [Nat.add_zero] at c0
        subst hqv
        have H16' : Hid (Calls Try.prog 16 #[.agg #[.int .u32 gen', .int .u32 round', .int .u32 seq', .slice qa b'.length qc, .int .i64 part', .int .i64 at', .int .u8 by']] wr fun r w' => OutBk wr w' r) := H16
        have HStep : Hid (∀ w1 w3 v' ev s, Below wr.heap.size wr w1 → OutR wr.heap.size w1 ev s → w3.ownsRow 0 23 1 v' (rs ++ [(ev, s)]).length (flat lc (rs ++ [(ev, s)])) → (w1.alloc (.cells #[ev] 23)).grownBy w3 (Value.slice ra i rc).ownBlock → (∀ j, v'.ownBlock = some j → (Value.slice ra i rc).ownBlock = some j ∨ (w1.alloc (.cells #[ev] 23)).heap.size ≤ j) → Grw w w3 v' (rs ++ [(ev, s)]) (i + 1)) := fun w1 w3 v' ev s hb he k1 k2 k3 => hK.out.step hb he k1 k2 k3
        have HRow : Hid (∀ w1 ev, Below wr.heap.size wr w1 → (w1.alloc (.cells #[ev] 23)).ownsRow 0 23 1 (.slice ra i rc) rs.length (flat lc rs)) := fun w1 ev hb => ((hK.out.rcs.below hb).own).alloc _
        have HRL : Hid (rs.length = i) := hK.out.len
        have HGw : Hid (∀ w1, Below wr.heap.size wr w1 → RowF bc w1 (.slice ga gm gc) gs) := fun w1 hb => HG.out.below (bnext hK.out.bel hb)
        generalize b'.length = bl at *
        clear hr hqo hvr hq H16
        go_wp2_with fail
        refine H16'.out.mono ?_
        rintro r w2 ⟨v2, k2, rfl, ⟨s2, ho2⟩, hb2⟩
        obtain ⟨a2, c2', hv2⟩ := ho2.1.len
        subst hv2
        generalize s2.length = sl at *
        have HO2 : Hid (OutR wr.heap.size w2 (.slice a2 sl c2') s2) := ho2
        have HB2 : Hid (Below wr.heap.size wr w2) := hb2
        have hgr := HGw.out w2 hb2
        clear ho2 hb2 c0 c1 c2 c3 c4 c5 c6
        cases k2
        · skip
          obtain ⟨wz, hwz⟩ : ∃ wz, wz = w2.alloc (.cells (cs8 (List.replicate 64 0)).toArray 5) := ⟨_, rfl⟩
          have HWZ : Hid (wz = w2.alloc (.cells (cs8 (List.replicate 64 0)).toArray 5)) := hwz
          have hbz2 : Below w2.heap.size w2 wz := by rw [hwz]; exact balloc (Below.refl _ _) _
          have HBz : Hid (Below wr.heap.size wr wz) := bnext HB2.out hbz2
          have HCZ : Hid (∀ b o v, w2.cell? ⟨b, o, none⟩ = some v → wz.cell? ⟨b, o, none⟩ = some v) := fun b o v h => (hbz2.cell (World.block_lt_of_cell? w2 _ h)).trans h
          obtain ⟨zl, hzl⟩ : ∃ zl : List Int, zl = List.replicate 64 0 := ⟨_, rfl⟩
          have HZ : Hid (OutR wr.heap.size wz (.slice (some ⟨w2.heap.size, 0, none⟩) 64 64) zl) := by
            rw [hwz, hzl]
            exact ⟨(zeros_out w2).1, fun k hk => Nat.le_trans HB2.out.size ((zeros_out w2).2 k hk)⟩
          clear hwz hbz2 hzl
          by_cases hgi : i < gm
          · obtain ⟨gb, hgb⟩ : ∃ gb, gs[i]? = some gb := ⟨_, List.getElem?_eq_getElem (by rw [← HGM.out]; exact hgi)⟩
            obtain ⟨gbb, goff, ega, hgr2⟩ := hgr.at bc_len hgb
            subst ega
            have hgc := hgr2 0 _ rfl
            rw [Nat.mul_one, Nat.add_zero] at hgc
            have hgcz := (HCZ.out (gbb) (goff + i) _ hgc)
            cases gb
            · clear hgr hgr2 hgb
              go_wp2_with (first | (at_make; go_must (refine wpList_make_bytes 23 5 byteTy rfl _ _ rfl .i64 .i64 64 64 64 64 rfl rfl rfl rfl (by omega) (by omega) ?_; rw [← HWZ.out])) | (at_builtin; go_must (refine wpList_append_rows ty25 lc_len (by omega) rfl (.tmp 48) (.tmp 50) rfl _ rs rfl (HRow.out (wz) (.slice (some ⟨w2.heap.size, 0, none⟩) 64 64) (HBz.out)) _ [(.slice (some ⟨w2.heap.size, 0, none⟩) 64 64, zl)] rfl (rowF_one (f := lc) (wz) (.slice (some ⟨w2.heap.size, 0, none⟩) 64 64, zl) 23) (flat_lc_one _ (fun q hq => by simp at hq; subst hq; rfl)) (by have := HRL.out; simp; omega) ?_; intro v3 w3 k1 k2 k3; have HF3 : Hid (Grw w w3 v3 (rs ++ [(.slice (some ⟨w2.heap.size, 0, none⟩) 64 64, zl)]) (i + 1)) := HStep.out (wz) w3 v3 _ _ (HBz.out) (HZ.out) k1 k2 k3; obtain ⟨a3, c3, hv3, hc31, hc32⟩ := slice_of_own k1; rw [lenR HRL.out] at hv3; subst hv3; clear k1 k2 k3)))
              go_roundw
              case rel => exact ⟨i + 1, _, a3, c3, by omega, by go_num, rfl, HF3⟩
              case measure => simp [intOf]; omega
            · clear hgr hgr2 hgb
              go_wp2_with (first | (at_make; go_must (refine wpList_make_bytes 23 5 byteTy rfl _ _ rfl .i64 .i64 64 64 64 64 rfl rfl rfl rfl (by omega) (by omega) ?_; rw [← HWZ.out])) | (at_builtin; go_must (refine wpList_append_rows ty25 lc_len (by omega) rfl (.tmp 48) (.tmp 50) rfl _ rs rfl (HRow.out (wz) (.slice none 0 0) (HBz.out)) _ [(.slice none 0 0, [])] rfl (rowF_one (f := lc) (wz) (.slice none 0 0, []) 23) (flat_lc_one _ (fun q hq => by simp at hq; subst hq; rfl)) (by have := HRL.out; simp; omega) ?_; intro v3 w3 k1 k2 k3; have HF3 : Hid (Grw w w3 v3 (rs ++ [(.slice none 0 0, [])]) (i + 1)) := HStep.out (wz) w3 v3 _ _ (HBz.out) (outR_nil _ _) k1 k2 k3; obtain ⟨a3, c3, hv3, hc31, hc32⟩ := slice_of_own k1; rw [lenR HRL.out] at hv3; subst hv3; clear k1 k2 k3)))
              go_roundw
              case rel => exact ⟨i + 1, _, a3, c3, by omega, by go_num, rfl, HF3⟩
              case measure => simp [intOf]; omega
          · clear hgr
            go_wp2_with (first | (at_make; go_must (refine wpList_make_bytes 23 5 byteTy rfl _ _ rfl .i64 .i64 64 64 64 64 rfl rfl rfl rfl (by omega) (by omega) ?_; rw [← HWZ.out])) | (at_builtin; go_must (refine wpList_append_rows ty25 lc_len (by omega) rfl (.tmp 48) (.tmp 50) rfl _ rs rfl (HRow.out (wz) (.slice (some ⟨w2.heap.size, 0, none⟩) 64 64) (HBz.out)) _ [(.slice (some ⟨w2.heap.size, 0, none⟩) 64 64, zl)] rfl (rowF_one (f := lc) (wz) (.slice (some ⟨w2.heap.size, 0, none⟩) 64 64, zl) 23) (flat_lc_one _ (fun q hq => by simp at hq; subst hq; rfl)) (by have := HRL.out; simp; omega) ?_; intro v3 w3 k1 k2 k3; have HF3 : Hid (Grw w w3 v3 (rs ++ [(.slice (some ⟨w2.heap.size, 0, none⟩) 64 64, zl)]) (i + 1)) := HStep.out (wz) w3 v3 _ _ (HBz.out) (HZ.out) k1 k2 k3; obtain ⟨a3, c3, hv3, hc31, hc32⟩ := slice_of_own k1; rw [lenR HRL.out] at hv3; subst hv3; clear k1 k2 k3)))
            go_roundw
            case rel => exact ⟨i + 1, _, a3, c3, by omega, by go_num, rfl, HF3⟩
            case measure => simp [intOf]; omega
        · skip
          by_cases hgi : i < gm
          · obtain ⟨gb, hgb⟩ : ∃ gb, gs[i]? = some gb := ⟨_, List.getElem?_eq_getElem (by rw [← HGM.out]; exact hgi)⟩
            obtain ⟨gbb, goff, ega, hgr2⟩ := hgr.at bc_len hgb
            subst ega
            have hgc := hgr2 0 _ rfl
            rw [Nat.mul_one, Nat.add_zero] at hgc
            cases gb
            · clear hgr hgr2 hgb
              go_wp2_with (at_builtin; go_must (refine wpList_append_rows ty25 lc_len (by omega) rfl (.tmp 48) (.tmp 50) rfl _ rs rfl (HRow.out (w2) (.slice a2 sl c2') (HB2.out)) _ [(.slice a2 sl c2', s2)] rfl (rowF_one (f := lc) (w2) (.slice a2 sl c2', s2) 23) (flat_lc_one _ (fun q hq => by simp at hq; subst hq; rfl)) (by have := HRL.out; simp; omega) ?_; intro v3 w3 k1 k2 k3; have HF3 : Hid (Grw w w3 v3 (rs ++ [(.slice a2 sl c2', s2)]) (i + 1)) := HStep.out (w2) w3 v3 _ _ (HB2.out) (HO2.out) k1 k2 k3; obtain ⟨a3, c3, hv3, hc31, hc32⟩ := slice_of_own k1; rw [lenR HRL.out] at hv3; subst hv3; clear k1 k2 k3))
              go_roundw
              case rel => exact ⟨i + 1, _, a3, c3, by omega, by go_num, rfl, HF3⟩
              case measure => simp [intOf]; omega
            · clear hgr hgr2 hgb
              go_wp2_with (at_builtin; go_must (refine wpList_append_rows ty25 lc_len (by omega) rfl (.tmp 48) (.tmp 50) rfl _ rs rfl (HRow.out (w2) (.slice none 0 0) (HB2.out)) _ [(.slice none 0 0, [])] rfl (rowF_one (f := lc) (w2) (.slice none 0 0, []) 23) (flat_lc_one _ (fun q hq => by simp at hq; subst hq; rfl)) (by have := HRL.out; simp; omega) ?_; intro v3 w3 k1 k2 k3; have HF3 : Hid (Grw w w3 v3 (rs ++ [(.slice none 0 0, [])]) (i + 1)) := HStep.out (w2) w3 v3 _ _ (HB2.out) (outR_nil _ _) k1 k2 k3; obtain ⟨a3, c3, hv3, hc31, hc32⟩ := slice_of_own k1; rw [lenR HRL.out] at hv3; subst hv3; clear k1 k2 k3))
              go_roundw
              case rel => exact ⟨i + 1, _, a3, c3, by omega, by go_num, rfl, HF3⟩
              case measure => simp [intOf]; omega
          · clear hgr
            go_wp2_with (at_builtin; go_must (refine wpList_append_rows ty25 lc_len (by omega) rfl (.tmp 48) (.tmp 50) rfl _ rs rfl (HRow.out (w2) (.slice a2 sl c2') (HB2.out)) _ [(.slice a2 sl c2', s2)] rfl (rowF_one (f := lc) (w2) (.slice a2 sl c2', s2) 23) (flat_lc_one _ (fun q hq => by simp at hq; subst hq; rfl)) (by have := HRL.out; simp; omega) ?_; intro v3 w3 k1 k2 k3; have HF3 : Hid (Grw w w3 v3 (rs ++ [(.slice a2 sl c2', s2)]) (i + 1)) := HStep.out (w2) w3 v3 _ _ (HB2.out) (HO2.out) k1 k2 k3; obtain ⟨a3, c3, hv3, hc31, hc32⟩ := slice_of_own k1; rw [lenR HRL.out] at hv3; subst hv3; clear k1 k2 k3))
            go_roundw
            case rel => exact ⟨i + 1, _, a3, c3, by omega, by go_num, rfl, HF3⟩
            case measure => simp [intOf]; omega
      · obtain rfl : i = m := by omega
        have H17 := scan17 (gen := gen) hK.out.rcs.rl (by rw [hK.out.len]; omega) hg
        have H18 : Hid (∀ w1, Below wr.heap.size wr w1 → Calls Try.prog 18 #[.slice ra i rc, .int .u32 gen] w1 fun r w' => ∃ v', r = .returned (.tuple #[v', .int .i64 ((scan (LL rs) gen).2 : Nat), .int .u32 (latest (LL rs) gen)]) ∧ OutL w1.heap.size w' v' (scan (LL rs) gen).1 ∧ Below w1.heap.size w1 w') := fun w1 hb => rscan18 (hK.out.rcs.below hb).rl (by rw [hK.out.len]; omega) hg
        have H17' : Hid (Calls Try.prog 17 #[.slice ra i rc, .int .u32 gen] wr fun r w' => ∃ v', r = .returned (.tuple #[v', .int .i64 ((scan (LL rs) gen).2 : Nat), .int .u32 (latest (LL rs) gen)]) ∧ OutL wr.heap.size w' v' (scan (LL rs) gen).1 ∧ Below wr.heap.size wr w') := H17
        have hse := (scan_end (LL rs) gen).1
        have hs1 := hse.1
        have hs2 := hse.2.1
        rw [LL_len, hK.out.len] at hs1
        have H12 : Hid (∀ w2 x y B C, OutL B w2 x (scan (LL rs) gen).1 → OutL C w2 y (scan (LL rs) gen).1 → Calls Try.prog 12 #[x, y] w2 fun r w' => r = .returned (.bool true) ∧ Below w2.heap.size w2 w') := fun w2 x y B C hx hy => by
          obtain ⟨ps, p1, p2, p3⟩ := hx
          obtain ⟨qs', q1, q2, q3⟩ := hy
          have := lists12 p1 q1 (by rw [← LL_len, p2]; omega)
          rwa [p2, q2, decide_eq_true rfl] at this
        have HBw : Hid (Below w.heap.size w wr) := hK.out.bel
        have e1 : (((scan (LL rs) gen).2 : Int) == ((scan (LL rs) gen).2 : Int)) = true := by simp
        have e2 : (latest (LL rs) gen == latest (LL rs) gen) = true := by simp
        generalize (scan (LL rs) gen).2 = T at *
        generalize (scan (LL rs) gen).1 = S at *
        generalize latest (LL rs) gen = R at *
        clear H17 hse
        go_wp2_with (first
          | (go_at_call 17; go_must (refine H17'.out.mono ?_; rintro r w2 ⟨v2, rfl, ho2, hb2⟩; have HO2 : Hid (OutL wr.heap.size w2 v2 S) := ho2; have HB2 : Hid (Below wr.heap.size wr w2) := hb2; obtain ⟨q2, q21, q22, _⟩ := ho2; obtain ⟨a2, c2, hv2⟩ := q21.len; subst hv2; clear q21 q22 hb2))
          | (go_at_call 18; go_must (refine (H18.out _ HB2.out).mono ?_; rintro r w3 ⟨v3, rfl, ho3, hb3⟩; have HC := H12.out w3 _ _ _ _ (HO2.out.below hb3) ho3; have HB3 : Hid (Below w.heap.size w w3) := bnext HBw.out (bnext HB2.out hb3); obtain ⟨q3, q31, q32, _⟩ := ho3; obtain ⟨a3, c3, hv3⟩ := q31.len; subst hv3; clear q31 q32 hb3))
          | (go_at_call 12; go_must (refine HC.mono ?_; rintro r w4 ⟨rfl, hb4⟩; have HB4 : Hid (Below w.heap.size w w4) := bnext HB3.out hb4; clear hb4))
          | (go_at_call 9; go_must (refine (HAl.out _).mono ?_; rintro r w6 ⟨rfl, hb6⟩; have HB6 : Hid (Below w.heap.size w w6) := bnext HB4.out hb6; clear hb6)))
        go_ret
        exact ⟨rfl, HB6.out⟩
end Go.Proofs.Ytngmgdngimnljaa
