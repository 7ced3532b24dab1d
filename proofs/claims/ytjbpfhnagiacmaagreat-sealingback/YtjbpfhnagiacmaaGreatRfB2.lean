/-
  Apply of the document's answer: a new state lies in rows of its own, or where the old one lay.
-/
import Derived.Test.YtjbpfhnagiacmaaGreatRfB
import Derived.Test.YtjbpfhnagiacmaaGreatRfP2
namespace Go.Proofs.YtjbpfhnagiacmaaGreat
set_option linter.unusedVariables false
set_option linter.unusedSimpArgs false
set_option synthInstance.maxSize 20000
set_option maxHeartbeats 2000000
set_option maxRecDepth 20000
open Go.RowKit Go.Maps
set_option maxHeartbeats 16000000 in
theorem rapply14f {w : World} {lv a b : Value} {S : Sm} {c : Cg} {qs : List Wq} (hl : RowF mc w lv S.l) (hlen : S.l.length ≤ 900) (hs : MOk S) (hc : CgAt w c a b qs) :
    Calls Tryz.prog 29 #[stv lv S.e, cv c a b] w fun r w' => ∃ v', r = .returned (.tuple #[stv v' (applyM S c).1.e, .int .i64 (applyM S c).2]) ∧ RowF mc w' v' (applyM S c).1.l ∧ (∀ j, v'.ownBlock = some j → w.heap.size ≤ j ∨ lv.ownBlock = some j) ∧ Below w.heap.size w w' := by
  obtain ⟨al, cl, rfl⟩ := hl.len
  obtain ⟨sl, hsl⟩ : ∃ sl, sl = S.l.length := ⟨_, rfl⟩
  have HSl : Hid (sl = S.l.length) := hsl
  rw [← hsl] at hl hlen ⊢
  clear hsl
  obtain ⟨w1, hw1⟩ : ∃ w1, w1 = ((w.alloc (.cells #[.slice al sl cl, .int .i64 S.e] 71)).alloc (.cells (cc c a b).toArray 80)).alloc (.cells #[.slice none 0 0, .int .i64 0] 71) := ⟨_, rfl⟩
  have hb1 : Below w.heap.size w w1 := by rw [hw1]; exact balloc (balloc2 _ _ _) _
  have X0 : Blk w1 w.heap.size 71 [.slice al sl cl, .int .i64 S.e] := by rw [hw1]; exact blk3_0 w [.slice al sl cl, .int .i64 S.e] (cc c a b) [.slice none 0 0, .int .i64 0] 71 80 71
  have X1 : Blk w1 (w.heap.size + 1) 80 (cc c a b) := by rw [hw1]; exact blk3_1 w [.slice al sl cl, .int .i64 S.e] (cc c a b) [.slice none 0 0, .int .i64 0] 71 80 71
  have X2 : Blk w1 (w.heap.size + 2) 71 [.slice none 0 0, .int .i64 0] := by rw [hw1]; exact blk3_2 w [.slice al sl cl, .int .i64 S.e] (cc c a b) [.slice none 0 0, .int .i64 0] 71 80 71
  have HB1a : Hid (Below w.heap.size w w1) := hb1
  have HR : Hid (Calls Tryz.prog 67 #[cv c a b] w1 fun r w' => r = .returned (.bool (rightB c)) ∧ Below w1.heap.size w1 w') := (show Calls _ _ _ _ _ from rright36 (hc.below hb1))
  have HV : Hid (∀ w', Below w1.heap.size w1 w' → RowF mc w' (.slice al sl cl) S.l) := fun w' hb => (hl.below hb1).below hb
  have HX : Hid (∀ w', Below w1.heap.size w1 w' → Blk w' w.heap.size 71 [.slice al sl cl, .int .i64 S.e] ∧ Blk w' (w.heap.size + 1) 80 (cc c a b) ∧ Blk w' (w.heap.size + 2) 71 [.slice none 0 0, .int .i64 0]) := fun w' hb => ⟨X0.below hb, X1.below hb, X2.below hb⟩
  have HFin : Hid (∀ w' v l e', Below w1.heap.size w1 w' → RowF mc w' v l → RowF mc (putS w' (w.heap.size + 2) v e') v l ∧ Below w.heap.size w (putS w' (w.heap.size + 2) v e')) := fun w' v l e' hb hv => by
    have hva : VarAt w' (w.heap.size + 2) 71 (.slice none 0 0) ⟨[], 0⟩ := ⟨X2.below hb, rowF_nil w'⟩
    exact ⟨putS_row hva hv hv, putS_below (bnext hb1 hb) (by omega)⟩
  have HRow : Hid (RowF wq w a qs) := hc.row
  have HLq : Hid (qs.length = c.ws.length) := hc.len
  have HWq : Hid (qs.map (·.1) = c.ws) := hc.ws
  have HCq : Hid (∀ w', Below w1.heap.size w1 w' → RowF wq w' a qs) := fun w' hb => (hc.row.below hb1).below hb
  have HMo : Hid (MOk S) := hs
  obtain ⟨hs1, hs2⟩ := hs.e
  have HW1 : Hid (w1 = ((w.alloc (.cells #[.slice al sl cl, .int .i64 S.e] 71)).alloc (.cells (cc c a b).toArray 80)).alloc (.cells #[.slice none 0 0, .int .i64 0] 71)) := hw1
  obtain ⟨⟨xa, na, qa, rfl⟩, xb, nb, qb, rfl⟩ := slices_of hc
  have hna : na = qs.length := by obtain ⟨x, y, e⟩ := hc.row.len; cases e; rfl
  have hnb : nb = c.o.length := by obtain ⟨x, y, e⟩ := hc.old.len; cases e; rfl
  have hca1 : na ≤ qa := hc.row.caps.2.1
  have hca2 : qa ≤ 9223372036854775807 := hc.row.caps.2.2
  have HNa : Hid (na = qs.length) := hna
  have HNb : Hid (nb = c.o.length) := hnb
  have hcl1 : sl ≤ cl := hl.caps.2.1
  have hcl2 : cl ≤ 9223372036854775807 := hl.caps.2.2
  have HF : Hid (∀ w', Below w1.heap.size w1 w' → Calls Tryz.prog 68 #[.agg #[.slice al sl cl, .int .i64 S.e], .int .i64 c.w] w' fun r w'' => r = .returned (.tuple #[mv ((findM S.l c.w).getD zm), .bool (findM S.l c.w).isSome]) ∧ Below w1.heap.size w1 w'') := fun w' hb => by
    refine (rfind18 (HV.out w' hb) c.w S.e).mono ?_
    rintro r w'' ⟨rfl, hb'⟩
    exact ⟨rfl, bnext hb hb'⟩
  have HPut : Hid (∀ w' m, Below w1.heap.size w1 w' → Calls Tryz.prog 69 #[.agg #[.slice al sl cl, .int .i64 S.e], mv m] w' fun r w'' => ∃ x n q, r = .returned (.agg #[.slice x n q, .int .i64 S.e]) ∧ RowF mc w'' (.slice x n q) (putM S.l m) ∧ (∀ j, (Value.slice x n q).ownBlock = some j → w.heap.size ≤ j) ∧ Below w1.heap.size w1 w'') := fun w' m hb => by
    refine (rput37f m (HV.out w' hb) (by have := HSl.out; omega)).mono ?_
    rintro r w'' ⟨v, rfl, hr, hn, hb'⟩
    obtain ⟨x, q, e⟩ := hr.len
    subst e
    exact ⟨x, _, q, rfl, hr, (fun j hj => Nat.le_trans (bnext HB1a.out hb).size (hn j hj)), bnext hb hb'⟩
  have HNow : Hid (∀ w', Below w1.heap.size w1 w' → Calls Tryz.prog 58 #[.agg #[.slice al sl cl, .int .i64 S.e]] w' fun r w'' => ∃ x q, r = .returned (.slice x (nowM S.l).length q) ∧ RowF mc w'' (.slice x (nowM S.l).length q) (nowM S.l) ∧ Below w1.heap.size w1 w'') := fun w' hb => by
    refine (rnow20 (HV.out w' hb) (by have := HSl.out; omega) S.e).mono ?_
    rintro r w'' ⟨v, rfl, hr, hb'⟩
    obtain ⟨x, q, e⟩ := hr.len
    subst e
    exact ⟨x, q, rfl, hr, bnext hb hb'⟩
  obtain ⟨R, hRe⟩ : ∃ R, R = applyM S c := ⟨_, rfl⟩
  have HRe : Hid (R = applyM S c) := hRe
  rw [← hRe]
  have x00 := X0.cell 0 _ rfl; have x01 := X0.cell 1 _ rfl
  have x10 := X1.cell 0 _ rfl; have x11 := X1.cell 1 _ rfl; have x12 := X1.cell 2 _ rfl; have x13 := X1.cell 3 _ rfl; have x14 := X1.cell 4 _ rfl; have x15 := X1.cell 5 _ rfl
  clear hl hw1 hb1 X0 X1 X2 hc hna hnb hRe
  obtain ⟨ck, cw, cp, cm, cws, co⟩ := c
  unfold stv cv cc at *
  dsimp only at *
  have HZz : Hid (∀ w', RowF mc w' (.slice none 0 0) []) := fun w' => rowF_nil w'
  cases hrb : rightB ⟨ck, cw, cp, cm, cws, co⟩
  · rw [hrb] at HR
    have hA : R = (zsm, 1) := by rw [HRe.out, apply_bad hrb]
    subst hA
    clear HRe hrb
    go_enter Tryz.func29, Tryz.ntmps29
    go_upto_region 1 with fail
    rw [← HW1.out]
    go_wp2_with (go_at_call 67; go_must (refine HR.out.mono ?_; rintro r w2 ⟨rfl, hb2⟩; have HB2 : Hid (Below w1.heap.size w1 w2) := hb2; clear hb2; have j0 := (HX.out w2 HB2.out).2.2.cell 0 _ rfl; have j1 := (HX.out w2 HB2.out).2.2.cell 1 _ rfl; have i0 := (HX.out w2 HB2.out).2.2.frozen 0; have i1 := (HX.out w2 HB2.out).2.2.frozen 1))
    have hz := HFin.out w2 (.slice none 0 0) [] 0 HB2.out (rowF_nil _)
    refine bodyPost_ret (v := .tuple #[.agg #[.slice none 0 0, .int .i64 0], .int .i64 1]) ?_ rfl ⟨.slice none 0 0, rfl, hz.1, (fun j hj => by cases hj), hz.2⟩
    rw [results_cell_tmp rfl]
    go_simp
  · rw [hrb] at HR
    have hkk := right_kind hrb
    dsimp only at hkk
    clear hlen
    obtain ⟨fm, hfm⟩ : ∃ fm, fm = findM S.l cw := ⟨_, rfl⟩
    have HFm : Hid (fm = findM S.l cw) := hfm
    rw [← hfm] at HF
    have HRb : Hid (rightB ⟨ck, cw, cp, cm, cws, co⟩ = true) := hrb
    clear hfm hrb
    obtain ⟨⟨m0, m1, m2, m3, m4⟩, hm⟩ : ∃ m, m = fm.getD zm := ⟨_, rfl⟩
    have HMm : Hid (fm.getD zm = ⟨m0, m1, m2, m3, m4⟩) := hm.symm
    rw [← hm] at HF
    obtain ⟨fb, hfb⟩ : ∃ fb, fb = fm.isSome := ⟨_, rfl⟩
    have HFb : Hid (fb = fm.isSome) := hfb
    rw [← hfb] at HF
    clear hm hfb
    unfold mv at HF HPut
    dsimp only at HF
    go_enter Tryz.func29, Tryz.ntmps29
    go_upto_region 1 with fail
    rw [← HW1.out]
    go_upto_region 3 with (go_at_call 67; go_must (refine HR.out.mono ?_; rintro r w2 ⟨rfl, hb2⟩; have HB2 : Hid (Below w1.heap.size w1 w2) := hb2; clear hb2))
    clear x00 x01 x10 x11 x12 x13 x14 x15
    have y0 := (HX.out w2 HB2.out).2.2.cell 0 _ rfl; have y1 := (HX.out w2 HB2.out).2.2.cell 1 _ rfl; have y2 := (HX.out w2 HB2.out).2.2.frozen 0; have y3 := (HX.out w2 HB2.out).2.2.frozen 1
    have y4 := (HX.out w2 HB2.out).1.cell 0 _ rfl; have y5 := (HX.out w2 HB2.out).1.cell 1 _ rfl
    have y6 := (HX.out w2 HB2.out).2.1.cell 0 _ rfl; have y7 := (HX.out w2 HB2.out).2.1.cell 1 _ rfl; have y8 := (HX.out w2 HB2.out).2.1.cell 2 _ rfl; have y9 := (HX.out w2 HB2.out).2.1.cell 3 _ rfl; have yA := (HX.out w2 HB2.out).2.1.cell 4 _ rfl; have yB := (HX.out w2 HB2.out).2.1.cell 5 _ rfl
    go_upto_region 4 with (go_at_call 68; go_must (refine (HF.out w2 HB2.out).mono ?_; rintro r w3 ⟨rfl, hb3⟩; have HB3 : Hid (Below w1.heap.size w1 w3) := hb3; clear hb3))
    clear y0 y1 y2 y3 y4 y5 y6 y7 y8 y9 yA yB
    have HB4 : Hid (Below w1.heap.size w1 (w3.alloc (.cells #[.int .i64 m0, .int .u64 m1, .int .i64 m2, .int .i64 m3, .int .i64 m4] 117))) := (show Below _ _ _ from balloc HB3.out _)
    have HMb : Hid (Blk (w3.alloc (.cells #[.int .i64 m0, .int .u64 m1, .int .i64 m2, .int .i64 m3, .int .i64 m4] 117)) w3.heap.size 117 [.int .i64 m0, .int .u64 m1, .int .i64 m2, .int .i64 m3, .int .i64 m4]) := (show Blk _ _ _ _ from blk_new w3 [.int .i64 m0, .int .u64 m1, .int .i64 m2, .int .i64 m3, .int .i64 m4] 117)
    obtain ⟨mb, hmb⟩ : ∃ mb, mb = w3.heap.size := ⟨_, rfl⟩
    have HMg : Hid (w1.heap.size ≤ mb) := (show _ ≤ _ by rw [hmb]; exact HB3.out.size)
    rw [← hmb] at HMb ⊢
    generalize w3.alloc (.cells #[.int .i64 m0, .int .u64 m1, .int .i64 m2, .int .i64 m3, .int .i64 m4] 117) = w4 at *
    clear hmb HF HR
    have z0 := (HX.out w4 HB4.out).2.2.cell 0 _ rfl; have z1 := (HX.out w4 HB4.out).2.2.cell 1 _ rfl; have z2 := (HX.out w4 HB4.out).2.2.frozen 0; have z3 := (HX.out w4 HB4.out).2.2.frozen 1
    have z4 := (HX.out w4 HB4.out).1.cell 0 _ rfl; have z5 := (HX.out w4 HB4.out).1.cell 1 _ rfl
    have z6 := (HX.out w4 HB4.out).2.1.cell 0 _ rfl; have z7 := (HX.out w4 HB4.out).2.1.cell 1 _ rfl; have z8 := (HX.out w4 HB4.out).2.1.cell 2 _ rfl; have z9 := (HX.out w4 HB4.out).2.1.cell 3 _ rfl; have zA := (HX.out w4 HB4.out).2.1.cell 4 _ rfl; have zB := (HX.out w4 HB4.out).2.1.cell 5 _ rfl
    rcases hkk with hk1 | hk1 | hk1
    · cases fb
      · have hfn : findM S.l cw = none := by
          have h1 := HFb.out; rw [HFm.out] at h1
          cases hh : findM S.l cw with
          | none => rfl
          | some x => rw [hh] at h1; cases h1
        have hA : R = (⟨putM S.l ⟨cw, cp, S.e + 1, -1, 0⟩, S.e⟩, 0) := by rw [HRe.out, apply_1b HRb.out hk1 hfn HMo.out]; rfl
        have HA : Hid (R = (⟨putM S.l ⟨cw, cp, S.e + 1, -1, 0⟩, S.e⟩, 0)) := hA
        have HP2 := HPut.out w4 ⟨cw, cp, S.e + 1, -1, 0⟩ HB4.out
        dsimp only at HP2
        have HP3 : Hid (Calls Tryz.prog 69 #[.agg #[.slice al sl cl, .int .i64 S.e], .agg #[.int .i64 cw, .int .u64 cp, .int .i64 (S.e + 1), .int .i64 (-1), .int .i64 0]] w4 fun r w'' => ∃ x n q, r = .returned (.agg #[.slice x n q, .int .i64 S.e]) ∧ RowF mc w'' (.slice x n q) (putM S.l ⟨cw, cp, S.e + 1, -1, 0⟩) ∧ (∀ j, (Value.slice x n q).ownBlock = some j → w.heap.size ≤ j) ∧ Below w1.heap.size w1 w'') := HP2
        clear HP2 hA hfn
        subst hk1
        go_wp2_with (go_at_call 69; go_must (refine HP3.out.mono ?_; rintro r w5 ⟨px, pn, pq, rfl, hr5, hn5, hb5⟩; have HN5 : Hid (∀ j, (Value.slice px pn pq).ownBlock = some j → w.heap.size ≤ j) := hn5; clear hn5; have HB5 : Hid (Below w1.heap.size w1 w5) := hb5; have HR5 : Hid (RowF mc w5 (.slice px pn pq) (putM S.l ⟨cw, cp, S.e + 1, -1, 0⟩)) := hr5; clear hr5 hb5; have r0 := (HX.out w5 HB5.out).2.2.cell 0 _ rfl; have r1 := (HX.out w5 HB5.out).2.2.cell 1 _ rfl; have r2 := (HX.out w5 HB5.out).2.2.frozen 0; have r3 := (HX.out w5 HB5.out).2.2.frozen 1))
        have hz := HFin.out w5 _ _ S.e HB5.out HR5.out
        refine bodyPost_ret (v := .tuple #[.agg #[.slice px pn pq, .int .i64 S.e], .int .i64 0]) ?_ rfl ⟨.slice px pn pq, by rw [HA.out], by rw [HA.out]; exact hz.1, (fun j hj => .inl (HN5.out j hj)), hz.2⟩
        rw [results_cell_tmp rfl]
        go_simp
      · obtain ⟨x, hx⟩ : ∃ x, findM S.l cw = some x := by
          have h1 := HFb.out; rw [HFm.out] at h1
          cases hh : findM S.l cw with
          | none => rw [hh] at h1; cases h1
          | some x => exact ⟨x, rfl⟩
        have hA : R = (zsm, 13) := by rw [HRe.out, apply_1a HRb.out hk1 hx]
        subst hA
        clear hx HRe
        subst hk1
        go_wp2
        have hz := HFin.out w4 (.slice none 0 0) [] 0 HB4.out (rowF_nil _)
        refine bodyPost_ret (v := .tuple #[.agg #[.slice none 0 0, .int .i64 0], .int .i64 13]) ?_ rfl ⟨.slice none 0 0, rfl, hz.1, (fun j hj => by cases hj), hz.2⟩
        rw [results_cell_tmp rfl]
        go_simp
    · cases fb
      · have hfn : findM S.l cw = none := by
          have h1 := HFb.out; rw [HFm.out] at h1
          cases hh : findM S.l cw with
          | none => rfl
          | some x => rw [hh] at h1; cases h1
        have hA : R = (zsm, 20) := by rw [HRe.out, apply_2a HRb.out hk1 hfn]
        subst hA
        clear hfn HRe
        subst hk1
        go_wp2
        have hz := HFin.out w4 (.slice none 0 0) [] 0 HB4.out (rowF_nil _)
        refine bodyPost_ret (v := .tuple #[.agg #[.slice none 0 0, .int .i64 0], .int .i64 20]) ?_ rfl ⟨.slice none 0 0, rfl, hz.1, (fun j hj => by cases hj), hz.2⟩
        rw [results_cell_tmp rfl]
        go_simp
      · have hx : findM S.l cw = some ⟨m0, m1, m2, m3, m4⟩ := by
          have h1 := HFb.out; have h2 := HMm.out; rw [HFm.out] at h1 h2
          cases hh : findM S.l cw with
          | none => rw [hh] at h1; cases h1
          | some x => rw [hh] at h2; rw [← h2]; rfl
        have mb0 := HMb.out.cell 0 _ rfl; have mb1 := HMb.out.cell 1 _ rfl; have mb2 := HMb.out.cell 2 _ rfl; have mb3 := HMb.out.cell 3 _ rfl; have mb4 := HMb.out.cell 4 _ rfl
        by_cases ht : m3 = -1
        · have hA : R = (⟨putM S.l (goneM ⟨m0, m1, m2, m3, m4⟩ S.e cm), S.e⟩, 0) := by rw [HRe.out, apply_2c HRb.out hk1 hx ht HMo.out]
          have HA0 : Hid (R = (⟨putM S.l (goneM ⟨m0, m1, m2, m3, m4⟩ S.e cm), S.e⟩, 0)) := hA
          clear hA hx HRe
          subst hk1 ht
          have mf3 := HMb.out.frozen 3
          go_upto_region 15 with fail
          clear z0 z1 z2 z3 z4 z5 z6 z7 z8 z9 zA zB
          clear mb0 mb1 mb2 mb3 mb4 mf3
          have HB5 : Hid (Below w1.heap.size w1 (w4.setCell ⟨mb, 3, none⟩ (.int .i64 S.e))) := (show Below _ _ _ from HB4.out.setCell HMg.out _)
          have HM5 : Hid (Blk (w4.setCell ⟨mb, 3, none⟩ (.int .i64 S.e)) mb 117 [.int .i64 m0, .int .u64 m1, .int .i64 m2, .int .i64 S.e, .int .i64 m4]) := (show Blk _ _ _ _ from HMb.out.set 3 (.int .i64 S.e))
          generalize w4.setCell ⟨mb, 3, none⟩ (.int .i64 S.e) = w5 at *
          have y0 := (HX.out w5 HB5.out).2.2.cell 0 _ rfl; have y1 := (HX.out w5 HB5.out).2.2.cell 1 _ rfl; have y2 := (HX.out w5 HB5.out).2.2.frozen 0; have y3 := (HX.out w5 HB5.out).2.2.frozen 1
          have y4 := (HX.out w5 HB5.out).1.cell 0 _ rfl; have y5 := (HX.out w5 HB5.out).1.cell 1 _ rfl
          have y6 := (HX.out w5 HB5.out).2.1.cell 0 _ rfl; have y7 := (HX.out w5 HB5.out).2.1.cell 1 _ rfl; have y8 := (HX.out w5 HB5.out).2.1.cell 2 _ rfl; have y9 := (HX.out w5 HB5.out).2.1.cell 3 _ rfl; have yA := (HX.out w5 HB5.out).2.1.cell 4 _ rfl; have yB := (HX.out w5 HB5.out).2.1.cell 5 _ rfl
          have mb0 := HM5.out.cell 0 _ rfl; have mb1 := HM5.out.cell 1 _ rfl; have mb2 := HM5.out.cell 2 _ rfl; have mb3 := HM5.out.cell 3 _ rfl; have mb4 := HM5.out.cell 4 _ rfl; have mf3 := HM5.out.frozen 3; have mf4 := HM5.out.frozen 4
          by_cases he : S.e < 0
          · have he1 : S.e = -1 := by omega
            have HE1 : Hid (S.e = -1) := he1
            clear he1
            go_upto_region 17 with fail
            clear mb0 mb1 mb2 mb3 mb4 mf3 mf4
            clear y0 y1 y2 y3 y4 y5 y6 y7 y8 y9 yA yB
            have HB6 : Hid (Below w1.heap.size w1 (w5.setCell ⟨mb, 3, none⟩ (.int .i64 (-2)))) := (show Below _ _ _ from HB5.out.setCell HMg.out _)
            have HM6 : Hid (Blk (w5.setCell ⟨mb, 3, none⟩ (.int .i64 (-2))) mb 117 [.int .i64 m0, .int .u64 m1, .int .i64 m2, .int .i64 (-2), .int .i64 m4]) := (show Blk _ _ _ _ from HM5.out.set 3 (.int .i64 (-2)))
            generalize w5.setCell ⟨mb, 3, none⟩ (.int .i64 (-2)) = w6 at *
            have z0 := (HX.out w6 HB6.out).2.2.cell 0 _ rfl; have z1 := (HX.out w6 HB6.out).2.2.cell 1 _ rfl; have z2 := (HX.out w6 HB6.out).2.2.frozen 0; have z3 := (HX.out w6 HB6.out).2.2.frozen 1
            have z4 := (HX.out w6 HB6.out).1.cell 0 _ rfl; have z5 := (HX.out w6 HB6.out).1.cell 1 _ rfl
            have z6 := (HX.out w6 HB6.out).2.1.cell 0 _ rfl; have z7 := (HX.out w6 HB6.out).2.1.cell 1 _ rfl; have z8 := (HX.out w6 HB6.out).2.1.cell 2 _ rfl; have z9 := (HX.out w6 HB6.out).2.1.cell 3 _ rfl; have zA := (HX.out w6 HB6.out).2.1.cell 4 _ rfl; have zB := (HX.out w6 HB6.out).2.1.cell 5 _ rfl
            have mb0 := HM6.out.cell 0 _ rfl; have mb1 := HM6.out.cell 1 _ rfl; have mb2 := HM6.out.cell 2 _ rfl; have mb3 := HM6.out.cell 3 _ rfl; have mb4 := HM6.out.cell 4 _ rfl; have mf3 := HM6.out.frozen 3; have mf4 := HM6.out.frozen 4
            go_upto_region 18 with fail
            clear mb0 mb1 mb2 mb3 mb4 mf3 mf4
            clear z0 z1 z2 z3 z4 z5 z6 z7 z8 z9 zA zB
            have HB7 : Hid (Below w1.heap.size w1 (w6.setCell ⟨mb, 4, none⟩ (.int .i64 cm))) := (show Below _ _ _ from HB6.out.setCell HMg.out _)
            have HM7 : Hid (Blk (w6.setCell ⟨mb, 4, none⟩ (.int .i64 cm)) mb 117 [.int .i64 m0, .int .u64 m1, .int .i64 m2, .int .i64 (-2), .int .i64 cm]) := (show Blk _ _ _ _ from HM6.out.set 4 (.int .i64 cm))
            generalize w6.setCell ⟨mb, 4, none⟩ (.int .i64 cm) = w7 at *
            have z0 := (HX.out w7 HB7.out).2.2.cell 0 _ rfl; have z1 := (HX.out w7 HB7.out).2.2.cell 1 _ rfl; have z2 := (HX.out w7 HB7.out).2.2.frozen 0; have z3 := (HX.out w7 HB7.out).2.2.frozen 1
            have z4 := (HX.out w7 HB7.out).1.cell 0 _ rfl; have z5 := (HX.out w7 HB7.out).1.cell 1 _ rfl
            have z6 := (HX.out w7 HB7.out).2.1.cell 0 _ rfl; have z7 := (HX.out w7 HB7.out).2.1.cell 1 _ rfl; have z8 := (HX.out w7 HB7.out).2.1.cell 2 _ rfl; have z9 := (HX.out w7 HB7.out).2.1.cell 3 _ rfl; have zA := (HX.out w7 HB7.out).2.1.cell 4 _ rfl; have zB := (HX.out w7 HB7.out).2.1.cell 5 _ rfl
            have mb0 := HM7.out.cell 0 _ rfl; have mb1 := HM7.out.cell 1 _ rfl; have mb2 := HM7.out.cell 2 _ rfl; have mb3 := HM7.out.cell 3 _ rfl; have mb4 := HM7.out.cell 4 _ rfl; have mf3 := HM7.out.frozen 3; have mf4 := HM7.out.frozen 4
            have HA : Hid (R = (⟨putM S.l ⟨m0, m1, m2, -2, cm⟩, S.e⟩, 0)) := (show _ = _ by rw [HA0.out]; unfold goneM; simp [HE1.out])
            have HP2 := HPut.out w7 ⟨m0, m1, m2, -2, cm⟩ HB7.out
            dsimp only at HP2
            have HP3 : Hid (Calls Tryz.prog 69 #[.agg #[.slice al sl cl, .int .i64 S.e], .agg #[.int .i64 m0, .int .u64 m1, .int .i64 m2, .int .i64 (-2), .int .i64 cm]] w7 fun r w'' => ∃ x n q, r = .returned (.agg #[.slice x n q, .int .i64 S.e]) ∧ RowF mc w'' (.slice x n q) (putM S.l ⟨m0, m1, m2, -2, cm⟩) ∧ (∀ j, (Value.slice x n q).ownBlock = some j → w.heap.size ≤ j) ∧ Below w1.heap.size w1 w'') := HP2
            clear HP2
            go_wp2_with (go_at_call 69; go_must (refine HP3.out.mono ?_; rintro r w8 ⟨px, pn, pq, rfl, hr5, hn5, hb5⟩; have HN5 : Hid (∀ j, (Value.slice px pn pq).ownBlock = some j → w.heap.size ≤ j) := hn5; clear hn5; have HB8 : Hid (Below w1.heap.size w1 w8) := hb5; have HR8 : Hid (RowF mc w8 (.slice px pn pq) (putM S.l ⟨m0, m1, m2, -2, cm⟩)) := hr5; clear hr5 hb5; have r0 := (HX.out w8 HB8.out).2.2.cell 0 _ rfl; have r1 := (HX.out w8 HB8.out).2.2.cell 1 _ rfl; have r2 := (HX.out w8 HB8.out).2.2.frozen 0; have r3 := (HX.out w8 HB8.out).2.2.frozen 1))
            have hz := HFin.out w8 _ _ S.e HB8.out HR8.out
            refine bodyPost_ret (v := .tuple #[.agg #[.slice px pn pq, .int .i64 S.e], .int .i64 0]) ?_ rfl ⟨.slice px pn pq, by rw [HA.out], by rw [HA.out]; exact hz.1, (fun j hj => .inl (HN5.out j hj)), hz.2⟩
            rw [results_cell_tmp rfl]
            go_simp
          · have HE1 : Hid (¬ S.e = -1) := (show ¬ _ by omega)
            go_upto_region 18 with fail
            clear mb0 mb1 mb2 mb3 mb4 mf3 mf4
            clear y0 y1 y2 y3 y4 y5 y6 y7 y8 y9 yA yB
            have HB7 : Hid (Below w1.heap.size w1 (w5.setCell ⟨mb, 4, none⟩ (.int .i64 cm))) := (show Below _ _ _ from HB5.out.setCell HMg.out _)
            have HM7 : Hid (Blk (w5.setCell ⟨mb, 4, none⟩ (.int .i64 cm)) mb 117 [.int .i64 m0, .int .u64 m1, .int .i64 m2, .int .i64 S.e, .int .i64 cm]) := (show Blk _ _ _ _ from HM5.out.set 4 (.int .i64 cm))
            generalize w5.setCell ⟨mb, 4, none⟩ (.int .i64 cm) = w7 at *
            have z0 := (HX.out w7 HB7.out).2.2.cell 0 _ rfl; have z1 := (HX.out w7 HB7.out).2.2.cell 1 _ rfl; have z2 := (HX.out w7 HB7.out).2.2.frozen 0; have z3 := (HX.out w7 HB7.out).2.2.frozen 1
            have z4 := (HX.out w7 HB7.out).1.cell 0 _ rfl; have z5 := (HX.out w7 HB7.out).1.cell 1 _ rfl
            have z6 := (HX.out w7 HB7.out).2.1.cell 0 _ rfl; have z7 := (HX.out w7 HB7.out).2.1.cell 1 _ rfl; have z8 := (HX.out w7 HB7.out).2.1.cell 2 _ rfl; have z9 := (HX.out w7 HB7.out).2.1.cell 3 _ rfl; have zA := (HX.out w7 HB7.out).2.1.cell 4 _ rfl; have zB := (HX.out w7 HB7.out).2.1.cell 5 _ rfl
            have mb0 := HM7.out.cell 0 _ rfl; have mb1 := HM7.out.cell 1 _ rfl; have mb2 := HM7.out.cell 2 _ rfl; have mb3 := HM7.out.cell 3 _ rfl; have mb4 := HM7.out.cell 4 _ rfl; have mf3 := HM7.out.frozen 3; have mf4 := HM7.out.frozen 4
            have HA : Hid (R = (⟨putM S.l ⟨m0, m1, m2, S.e, cm⟩, S.e⟩, 0)) := (show _ = _ by rw [HA0.out]; unfold goneM; simp [HE1.out])
            have HP2 := HPut.out w7 ⟨m0, m1, m2, S.e, cm⟩ HB7.out
            dsimp only at HP2
            have HP3 : Hid (Calls Tryz.prog 69 #[.agg #[.slice al sl cl, .int .i64 S.e], .agg #[.int .i64 m0, .int .u64 m1, .int .i64 m2, .int .i64 S.e, .int .i64 cm]] w7 fun r w'' => ∃ x n q, r = .returned (.agg #[.slice x n q, .int .i64 S.e]) ∧ RowF mc w'' (.slice x n q) (putM S.l ⟨m0, m1, m2, S.e, cm⟩) ∧ (∀ j, (Value.slice x n q).ownBlock = some j → w.heap.size ≤ j) ∧ Below w1.heap.size w1 w'') := HP2
            clear HP2
            go_wp2_with (go_at_call 69; go_must (refine HP3.out.mono ?_; rintro r w8 ⟨px, pn, pq, rfl, hr5, hn5, hb5⟩; have HN5 : Hid (∀ j, (Value.slice px pn pq).ownBlock = some j → w.heap.size ≤ j) := hn5; clear hn5; have HB8 : Hid (Below w1.heap.size w1 w8) := hb5; have HR8 : Hid (RowF mc w8 (.slice px pn pq) (putM S.l ⟨m0, m1, m2, S.e, cm⟩)) := hr5; clear hr5 hb5; have r0 := (HX.out w8 HB8.out).2.2.cell 0 _ rfl; have r1 := (HX.out w8 HB8.out).2.2.cell 1 _ rfl; have r2 := (HX.out w8 HB8.out).2.2.frozen 0; have r3 := (HX.out w8 HB8.out).2.2.frozen 1))
            have hz := HFin.out w8 _ _ S.e HB8.out HR8.out
            refine bodyPost_ret (v := .tuple #[.agg #[.slice px pn pq, .int .i64 S.e], .int .i64 0]) ?_ rfl ⟨.slice px pn pq, by rw [HA.out], by rw [HA.out]; exact hz.1, (fun j hj => .inl (HN5.out j hj)), hz.2⟩
            rw [results_cell_tmp rfl]
            go_simp
        · have hA : R = (zsm, 10) := by rw [HRe.out, apply_2b HRb.out hk1 hx ht]
          subst hA
          clear hx HRe
          subst hk1
          go_wp2
          have hz := HFin.out w4 (.slice none 0 0) [] 0 HB4.out (rowF_nil _)
          refine bodyPost_ret (v := .tuple #[.agg #[.slice none 0 0, .int .i64 0], .int .i64 10]) ?_ rfl ⟨.slice none 0 0, rfl, hz.1, (fun j hj => by cases hj), hz.2⟩
          rw [results_cell_tmp rfl]
          go_simp
    · have HA3 : Hid (R = if 19 ≤ S.e then (zsm, 2) else if (nowM S.l).map (·.w) = cws.map (·.w) ∧ (co.length = 0 ↔ S.e = -1) then (⟨S.l, S.e + 1⟩, 0) else (zsm, 10)) := (show _ = _ by rw [HRe.out]; exact apply_3 HRb.out hk1 HMo.out)
      clear HRe HMb
      subst hk1
      by_cases h19 : 19 ≤ S.e
      · have HA : Hid (R = (zsm, 2)) := (show _ = _ by rw [HA3.out, if_pos h19])
        go_wp2
        have hz := HFin.out w4 (.slice none 0 0) [] 0 HB4.out (rowF_nil _)
        refine bodyPost_ret (v := .tuple #[.agg #[.slice none 0 0, .int .i64 0], .int .i64 2]) ?_ rfl ⟨.slice none 0 0, by rw [HA.out]; rfl, by rw [HA.out]; exact hz.1, (fun j hj => by cases hj), hz.2⟩
        rw [results_cell_tmp rfl]
        go_simp
      · have HA4 : Hid (R = if (nowM S.l).map (·.w) = cws.map (·.w) ∧ (nb = 0 ↔ S.e = -1) then (⟨S.l, S.e + 1⟩, 0) else (zsm, 10)) := (show _ = _ by rw [HA3.out, if_neg h19, HNb.out])
        obtain ⟨nw, hnw⟩ : ∃ nw, nw = nowM S.l := ⟨_, rfl⟩
        rw [← hnw] at HNow HA4
        obtain ⟨nn, hnn⟩ : ∃ nn, nn = nw.length := ⟨_, rfl⟩
        rw [← hnn] at HNow
        have HNn : Hid (nn = nw.length) := hnn
        clear hnw hnn HA3
        go_upto_region 22 with (go_at_call 58; go_must (refine (HNow.out w4 HB4.out).mono ?_; rintro r w5 ⟨nx, nq, rfl, hr5, hb5⟩; have HB5 : Hid (Below w1.heap.size w1 w5) := hb5; have HR5 : Hid (RowF mc w5 (.slice nx nn nq) nw) := hr5; clear hr5 hb5))
        clear z0 z1 z2 z3 z4 z5 z6 z7 z8 z9 zA zB
        have y0 := (HX.out w5 HB5.out).2.2.cell 0 _ rfl; have y1 := (HX.out w5 HB5.out).2.2.cell 1 _ rfl; have y2 := (HX.out w5 HB5.out).2.2.frozen 0; have y3 := (HX.out w5 HB5.out).2.2.frozen 1
        have y4 := (HX.out w5 HB5.out).1.cell 0 _ rfl; have y5 := (HX.out w5 HB5.out).1.cell 1 _ rfl
        have y6 := (HX.out w5 HB5.out).2.1.cell 0 _ rfl; have y7 := (HX.out w5 HB5.out).2.1.cell 1 _ rfl; have y8 := (HX.out w5 HB5.out).2.1.cell 2 _ rfl; have y9 := (HX.out w5 HB5.out).2.1.cell 3 _ rfl; have yA := (HX.out w5 HB5.out).2.1.cell 4 _ rfl; have yB := (HX.out w5 HB5.out).2.1.cell 5 _ rfl
        have hnq1 : nn ≤ nq := HR5.out.caps.2.1
        have hnq2 : nq ≤ 9223372036854775807 := HR5.out.caps.2.2
        have hge : ¬ S.e ≥ 19 := by omega
        by_cases hln : nn = na
        · have he2 : S.e = -1 ∨ ¬ S.e = -1 := by omega
          have hn2 : nb = 0 ∨ ¬ nb = 0 := by omega
          by_cases hio : nb = 0 ↔ S.e = -1
          · have HA5 : Hid (R = if nw.map (·.w) = cws.map (·.w) then (⟨S.l, S.e + 1⟩, 0) else (zsm, 10)) := (show _ = _ by
              rw [HA4.out]
              by_cases h1 : nw.map (·.w) = cws.map (·.w)
              · rw [if_pos ⟨h1, hio⟩, if_pos h1]
              · rw [if_neg (fun h => h1 h.1), if_neg h1])
            clear HA4
            have hcase : (nb = 0 ∧ (S.e == -1) = true) ∨ (((nb : Int) == 0) = false ∧ (S.e == -1) = false) := by
              by_cases h1 : nb = 0
              · exact .inl ⟨h1, by simp [hio.1 h1]⟩
              · refine .inr ⟨by simp; omega, ?_⟩
                have : ¬ S.e = -1 := fun h => h1 (hio.2 h)
                simp [this]
            clear hio he2 hn2
            have HLn : Hid (nn = na) := hln
            have hln2 : na = nn := hln.symm
            clear hln
            subst hln2
            have hcase2 : (((nb : Int) == 0) = true ∧ (S.e == -1) = true) ∨ (((nb : Int) == 0) = false ∧ (S.e == -1) = false) := by
              rcases hcase with ⟨h1, h2⟩ | h
              · exact .inl ⟨by simp [h1], h2⟩
              · exact .inr h
            clear hcase
            rcases hcase2 with ⟨h1, h2⟩ | ⟨h1, h2⟩
            all_goals
              go_wp2
              go_loopw [9] (fun iv wr => ∃ k : Nat, iv = .int .i64 k ∧ k ≤ na ∧ Hid ((nw.take k).map (·.w) = (cws.take k).map (·.w)) ∧ Hid (Below w5.heap.size w5 wr)) (fun iv _ => na - (intOf iv).toNat)
              case atStart => exact ⟨0, rfl, by omega, (show _ = _ by simp), (show Below _ _ _ from Below.refl _ _)⟩
              case round =>
                obtain ⟨k, rfl, hk, HI, HB⟩ := hrel
                have HBr : Hid (Below w1.heap.size w1 wr) := (show Below _ _ _ from bnext HB5.out HB.out)
                have HBd : Hid (Below w1.heap.size w1 wr.drew) := (show Below _ _ _ from HBr.out.drew)
                have HBe : Hid (Below w5.heap.size w5 wr.drew) := (show Below _ _ _ from HB.out.drew)
                clear y0 y1 y2 y3 y4 y5 y6 y7 y8 y9 yA yB
                by_cases hkn : k < na
                · obtain ⟨x, hx⟩ : ∃ x, nw[k]? = some x := ⟨_, List.getElem?_eq_getElem (by have := HNn.out; omega)⟩
                  obtain ⟨q, hq⟩ : ∃ q, qs[k]? = some q := ⟨_, List.getElem?_eq_getElem (by have := HNa.out; omega)⟩
                  have hq1 : cws[k]? = some q.1 := by rw [← HWq.out, List.getElem?_map, hq]; rfl
                  obtain ⟨g, off, ea, hr⟩ := (HR5.out.below HB.out).at mc_len hx
                  obtain ⟨g2, off2, ea2, hr2⟩ := (HCq.out wr HBr.out).at wq_len hq
                  subst ea ea2
                  have hcl : ∀ (z : WIn (fun w' => w' = wr.drew)) p v, wr.cell? p = some v → z.w.cell? p = some v := fun z p v hp => by rw [z.ok]; exact hp
                  have s4 := fun z => hcl z _ _ ((HX.out wr HBr.out).2.1.cell 4 _ rfl)
                  have e0 := fun z => hcl z _ _ (hr 0 _ rfl)
                  have f0 := fun z => hcl z _ _ (hr2 0 _ rfl)
                  simp only [Nat.add_zero] at e0 f0
                  have ne : Nonempty (WIn (fun w' => w' = wr.drew)) := ⟨⟨wr.drew, rfl⟩⟩
                  have HGo : Hid (x.w = q.1.w → (nw.take (k + 1)).map (·.w) = (cws.take (k + 1)).map (·.w)) := fun h => by
                    have h3 := List.getElem?_eq_some_iff.1 hx
                    have h4 := List.getElem?_eq_some_iff.1 hq1
                    rw [List.take_succ_eq_append_getElem h3.1, List.take_succ_eq_append_getElem h4.1, List.map_append, List.map_append, HI.out, h3.2, h4.2]
                    simp [h]
                  have HSt : Hid (x.w ≠ q.1.w → R = (zsm, 10)) := fun h => by
                    rw [HA5.out, if_neg]
                    intro h5
                    have h6 := congrArg (fun t => t[k]?) h5
                    simp only [List.getElem?_map, hx, hq1] at h6
                    exact h (by simpa using h6)
                  obtain ⟨x0, x1, x2, x3, x4⟩ := x
                  obtain ⟨⟨qw, qb'⟩, qv⟩ := q
                  dsimp only at e0 f0 HGo HSt
                  clear hr hr2 hx hq hq1 hcl
                  by_cases hxw : x0 = qw
                  · have HG2 : Hid ((nw.take (k + 1)).map (·.w) = (cws.take (k + 1)).map (·.w)) := HGo.out hxw
                    clear HGo HSt
                    subst hxw
                    go_upto_region 27 with fail
                    refine wp_region_ord (C := fun w' => ∃ z : WIn (fun w' => w' = wr.drew), w' = z.w) [(false, 0), (false, 1), (false, 2), (false, 3), (false, 4), (false, 5), (false, 6), (false, 7), (false, 8), (false, 9), (false, 10), (false, 11)] (by kernel_rfl) (by kernel_rfl) ⟨⟨wr.drew, rfl⟩, rfl⟩ ?_
                    iterate 12 (refine ord_still rfl rfl ?_; go_big_quiet_step (exact rfl); refine wpQuiet_nil ?_)
                    refine ord_end ?_
                    clear s4 e0 f0 ne
                    go_wp2
                    go_roundw
                    case rel => exact ⟨k + 1, by go_num, by omega, HG2, HBe⟩
                    case measure => simp [intOf]; omega
                  · have HA : Hid (R = (zsm, 10)) := HSt.out hxw
                    clear HGo HSt
                    have hxq : (x0 != qw) = true := by simp [hxw]
                    go_upto_region 27 with fail
                    refine wp_region_ord (C := fun w' => ∃ z : WIn (fun w' => w' = wr.drew), w' = z.w) [(false, 0), (false, 1), (false, 2), (false, 3), (false, 4), (false, 5), (false, 6), (false, 7), (false, 8), (false, 9), (false, 10), (false, 11)] (by kernel_rfl) (by kernel_rfl) ⟨⟨wr.drew, rfl⟩, rfl⟩ ?_
                    iterate 12 (refine ord_still rfl rfl ?_; go_big_quiet_step (exact rfl); refine wpQuiet_nil ?_)
                    refine ord_end ?_
                    clear s4 e0 f0 ne
                    have y0 := (HX.out wr.drew HBd.out).2.2.cell 0 _ rfl; have y1 := (HX.out wr.drew HBd.out).2.2.cell 1 _ rfl; have y2 := (HX.out wr.drew HBd.out).2.2.frozen 0; have y3 := (HX.out wr.drew HBd.out).2.2.frozen 1
                    have y4 := (HX.out wr.drew HBd.out).1.cell 0 _ rfl; have y5 := (HX.out wr.drew HBd.out).1.cell 1 _ rfl
                    generalize wr.drew = wd at *
                    go_wp2
                    have hz := HFin.out wd (.slice none 0 0) [] 0 HBd.out (rowF_nil _)
                    refine bodyPost_ret (v := .tuple #[.agg #[.slice none 0 0, .int .i64 0], .int .i64 10]) ?_ rfl ⟨.slice none 0 0, by rw [HA.out]; rfl, by rw [HA.out]; exact hz.1, (fun j hj => by cases hj), hz.2⟩
                    rw [results_cell_tmp rfl]
                    go_simp
                · have HA : Hid (R = (⟨S.l, S.e + 1⟩, 0)) := (show _ = _ by
                    rw [HA5.out, if_pos]
                    have h3 := HI.out
                    have h4 := HNn.out
                    have h5 := HNa.out
                    have h6 := HLq.out
                    rwa [List.take_of_length_le (by omega), List.take_of_length_le (by omega)] at h3)
                  have y0 := (HX.out wr HBr.out).2.2.cell 0 _ rfl; have y1 := (HX.out wr HBr.out).2.2.cell 1 _ rfl; have y2 := (HX.out wr HBr.out).2.2.frozen 0; have y3 := (HX.out wr HBr.out).2.2.frozen 1
                  have y4 := (HX.out wr HBr.out).1.cell 0 _ rfl; have y5 := (HX.out wr HBr.out).1.cell 1 _ rfl
                  have HRs : Hid (RowF mc wr (.slice al sl cl) S.l) := HV.out wr HBr.out
                  go_wp2
                  have hz := HFin.out wr (.slice al sl cl) S.l (S.e + 1) HBr.out HRs.out
                  refine bodyPost_ret (v := .tuple #[.agg #[.slice al sl cl, .int .i64 (S.e + 1)], .int .i64 0]) ?_ rfl ⟨.slice al sl cl, by rw [HA.out], by rw [HA.out]; exact hz.1, (fun j hj => .inr hj), hz.2⟩
                  rw [results_cell_tmp rfl]
                  go_simp
          · have HA : Hid (R = (zsm, 10)) := (show _ = _ by rw [HA4.out, if_neg (fun h => hio h.2)])
            have hcase : (nb = 0 ∧ (S.e == -1) = false) ∨ (((nb : Int) == 0) = false ∧ S.e = -1) := by
              by_cases h1 : nb = 0
              · refine .inl ⟨h1, ?_⟩
                have : ¬ S.e = -1 := fun h => hio ⟨fun _ => h, fun _ => h1⟩
                simp [this]
              · refine .inr ⟨by simp; omega, ?_⟩
                by_cases h2 : S.e = -1
                · exact h2
                · exact absurd ⟨fun h => absurd h h1, fun h => absurd h h2⟩ hio
            clear hio he2 hn2 HA4
            have hln2 : na = nn := hln.symm
            subst hln2
            rcases hcase with ⟨h1, h2⟩ | ⟨h1, h2⟩
            · subst h1
              go_wp2
              have hz := HFin.out w5 (.slice none 0 0) [] 0 HB5.out (rowF_nil _)
              refine bodyPost_ret (v := .tuple #[.agg #[.slice none 0 0, .int .i64 0], .int .i64 10]) ?_ rfl ⟨.slice none 0 0, by rw [HA.out]; rfl, by rw [HA.out]; exact hz.1, (fun j hj => by cases hj), hz.2⟩
              rw [results_cell_tmp rfl]
              go_simp
            · go_wp2
              have hz := HFin.out w5 (.slice none 0 0) [] 0 HB5.out (rowF_nil _)
              refine bodyPost_ret (v := .tuple #[.agg #[.slice none 0 0, .int .i64 0], .int .i64 10]) ?_ rfl ⟨.slice none 0 0, by rw [HA.out]; rfl, by rw [HA.out]; exact hz.1, (fun j hj => by cases hj), hz.2⟩
              rw [results_cell_tmp rfl]
              go_simp
        · have HA : Hid (R = (zsm, 10)) := (show _ = _ by
            rw [HA4.out, if_neg]
            rintro ⟨h1, _⟩
            have h2 := congrArg List.length h1
            rw [List.length_map, List.length_map, ← HNn.out, ← HLq.out, ← HNa.out] at h2
            exact hln h2)
          have hln2 : ((nn : Int) != (na : Int)) = true := by simp; omega
          clear HA4
          go_wp2
          have hz := HFin.out w5 (.slice none 0 0) [] 0 HB5.out (rowF_nil _)
          refine bodyPost_ret (v := .tuple #[.agg #[.slice none 0 0, .int .i64 0], .int .i64 10]) ?_ rfl ⟨.slice none 0 0, by rw [HA.out]; rfl, by rw [HA.out]; exact hz.1, (fun j hj => by cases hj), hz.2⟩
          rw [results_cell_tmp rfl]
          go_simp
end Go.Proofs.YtjbpfhnagiacmaaGreat
