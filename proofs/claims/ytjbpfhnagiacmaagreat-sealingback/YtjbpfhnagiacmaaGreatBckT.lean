/-
  SealingBack, the walk itself.
-/
import Derived.Test.YtjbpfhnagiacmaaGreatBckS
namespace Go.Proofs.YtjbpfhnagiacmaaGreat
set_option linter.unusedVariables false
set_option linter.unusedSimpArgs false
set_option synthInstance.maxSize 20000
set_option maxHeartbeats 2000000
set_option maxRecDepth 20000
open Go.RowKit Go.Maps

set_option maxHeartbeats 8000000 in
theorem back4 (dv : Value) (ds : List Int) (x y n : Int) (tv : Value) (tl : List Int) (a b c : Int) (w : World) (hd : RdU w dv ds) (hp : I64 x ∧ I64 y ∧ I64 n) (ht : Rd w tv tl) (hq : I64 a ∧ I64 b ∧ I64 c) : Calls Tryz.prog 4 #[dv, .agg #[.int .i64 x, .int .i64 y, .int .i64 n], tv, .agg #[.int .i64 a, .int .i64 b, .int .i64 c]] w fun r w' => r = .returned (.bool true) ∧ Below w.heap.size w w' := by
  have HAl : Hid (∀ w', Calls Tryz.prog 7 #[] w' fun r w'' => r = .returned (.bool true) ∧ Below w'.heap.size w' w'') := fun w' => alive7 w'
  have htcap : tl.length ≤ 9223372036854775807 := by obtain ⟨a, cap, rfl⟩ := ht.len; have := ht.cap; omega
  have HRt : Hid (∀ w', Below w.heap.size w w' → Rd w' tv tl) := fun w' h => ht.below h
  have HOt : Hid (Oct tl) := ht.oct
  have HDs : Hid (∀ d ∈ ds, U64 d) := hd.1
  have HRd : Hid (∀ w', Below w.heap.size w w' → RdU w' dv ds) := fun w' h => hd.block (fun k _ hk => h.block k hk)
  have HQ : Hid ((I64 x ∧ I64 y ∧ I64 n) ∧ I64 a ∧ I64 b ∧ I64 c) := ⟨hp, hq⟩
  obtain ⟨_, da, dc, rfl, hdc, hdm, _⟩ := hd
  have hdm' : dc ≤ 9223372036854775807 := hdm
  obtain ⟨ta, tc, rfl⟩ := ht.len
  obtain ⟨dn, hdn⟩ : ∃ dn, dn = ds.length := ⟨_, rfl⟩
  obtain ⟨tn, htn⟩ : ∃ tn, tn = tl.length := ⟨_, rfl⟩
  have HDn : Hid (dn = ds.length) := hdn
  have HTn : Hid (tn = tl.length) := htn
  rw [← hdn] at HRd hdc ⊢
  rw [← htn] at HRt htcap ⊢
  obtain ⟨W1, hW1⟩ : ∃ W1, W1 = (w.alloc (.cells #[.int .i64 x, .int .i64 y, .int .i64 n] 24)).alloc (.cells #[.int .i64 a, .int .i64 b, .int .i64 c] 24) := ⟨_, rfl⟩
  have HB1 : Hid (Below w.heap.size w W1) := by show Below _ _ _; rw [hW1]; exact balloc (balloc (Below.refl _ _) _) _
  have hP1 : Blk W1 w.heap.size 24 [.int .i64 x, .int .i64 y, .int .i64 n] := by rw [hW1]; exact (blk_new w [.int .i64 x, .int .i64 y, .int .i64 n] 24).below (balloc (Below.refl _ _) _)
  have hQ1 : Blk W1 (w.heap.size + 1) 24 [.int .i64 a, .int .i64 b, .int .i64 c] := by
    rw [hW1]
    have h1 := blk_new (w.alloc (.cells #[.int .i64 x, .int .i64 y, .int .i64 n] 24)) [.int .i64 a, .int .i64 b, .int .i64 c] 24
    rwa [show (w.alloc (.cells #[.int .i64 x, .int .i64 y, .int .i64 n] 24)).heap.size = w.heap.size + 1 by simp] at h1
  have e2 := hP1.cell 2 _ rfl
  clear ht hdn htn hp hq
  go_enter Tryz.func4, Tryz.ntmps4
  go_upto_region 1 with fail
  rw [← hW1]
  obtain ⟨pb, hpb⟩ : ∃ pb, pb = w.heap.size := ⟨_, rfl⟩
  obtain ⟨qb, hqb⟩ : ∃ qb, qb = w.heap.size + 1 := ⟨_, rfl⟩
  rw [← hpb] at hP1 e2 ⊢
  rw [← hqb] at hQ1
  rw [show pb + 1 = qb by rw [hpb, hqb]]
  have HP1 : Hid (Blk W1 pb 24 [.int .i64 x, .int .i64 y, .int .i64 n]) := hP1
  have HQ1 : Hid (Blk W1 qb 24 [.int .i64 a, .int .i64 b, .int .i64 c]) := hQ1
  clear hW1 hP1 hQ1 hpb hqb
  by_cases h50 : dn ≤ 50
  · by_cases ht15 : tn ≤ 1500
    · by_cases hn0 : 0 ≤ n
      · by_cases hn2 : n ≤ 2
        · have h00 : Ora ⟨ds, []⟩ 0 := ora00 HDs.out
          obtain ⟨K, O, hRI⟩ := rnK_ok h00 3 (by omega)
          have hnw := newRoom8 (HRd.out W1 HB1.out) (by have := HDn.out; omega) 3 (by omega)
          obtain ⟨R, hR⟩ : ∃ R, R = rnK ⟨ds, []⟩ 3 := ⟨_, rfl⟩
          rw [← hR] at hRI
          obtain ⟨k, bs, S2, hku, hsm, hora2, hk1, hk2⟩ := back_num hRI (x := x) (y := y) ⟨hn0, hn2⟩ HQ.out.2.1 HQ.out.2.2.1 HQ.out.2.2.2 HOt.out (by have := HTn.out; omega)
          have hora := hRI.ora
          have HNw : Hid (Calls Tryz.prog 8 #[.slice da dn dc, .int .i64 3] W1 fun r w' => ∃ p o, r = .returned (ptr p.wb) ∧ BkS W1 w' o p R.S R.A R.X pb qb x y n a b c) := (by
            refine hnw.mono ?_
            rintro r w' ⟨p, o, sv, tv', rfl, hG⟩
            rw [← hR] at hG
            exact ⟨p, o, rfl, hG.blk, hG.own, hG.orc, hG.a, hG.x, HP1.out.below hG.bel, hG.low _ HP1.out.lt, HQ1.out.below hG.bel, hG.low _ HQ1.out.lt, hG.bel, hG.low⟩)
          have HSl : Hid (∀ w' o' p v, BkS W1 w' o' p R.S R.A R.X pb qb x y n a b c → Rd w' v tl → Calls Tryz.prog 9 #[ptr p.ob, ptr p.ra, .int .i64 x, .int .i64 y, .int .i64 n, v] w' fun e w'' => ∃ v', e = .returned (.tuple #[v', .int .i64 k]) ∧ ∃ o'', BkS W1 w'' o'' p S2 R.A R.X pb qb x y n a b c ∧ Kp0 w'' o'' v' bs) := fun w' o' p v h hv => by
            have h3 := orc_seal9 h.orc h.ra hora (by omega) (x := x) (y := y) (n := n) hku hv (by have := HTn.out; omega)
            rw [hsm] at h3
            refine h3.mono ?_
            rintro e w'' ⟨v', rfl, o'', h4, h5, h6⟩
            exact ⟨v', rfl, o'', h.orcS h6 h4, h5⟩
          have HKn : Hid (k ≠ 0 → bs = []) := hk1
          have HO1 : Hid (k = 0 → ∀ p w' o' va vn vc, BkS W1 w' o' p S2 R.A R.X pb qb x y n a b c → Rd w' (.slice va vn vc) bs → Calls Tryz.prog 12 #[ptr p.ob, ptr p.ra, .agg #[.int .i64 x, .int .i64 y, .int .u64 (if 0 < y then 1 else 0), .int .i64 1, .int .i64 x, .int .i64 n, .slice va vn vc, .int .u64 0]] w' fun z w'' => ∃ v', z = .returned (.tuple #[v', .int .i64 0]) ∧ Rd w'' v' tl ∧ Below w'.heap.size w' w'') := fun e p w' o' va vn vc h hv => by
            have h3 := orc_open12 h.orc h.ra hora2 (e := entP x y n bs) hv
            unfold ev entP at h3
            dsimp only at h3
            have h4 := (hk2 e).1
            unfold entP at h4
            rw [h4] at h3
            exact h3
          have HO2 : Hid (k = 0 → ∀ p w' o' va vn vc, BkS W1 w' o' p S2 R.A R.X pb qb x y n a b c → Rd w' (.slice va vn vc) bs → Calls Tryz.prog 12 #[ptr p.ob, ptr p.rx, .agg #[.int .i64 x, .int .i64 y, .int .u64 (if 0 < y then 1 else 0), .int .i64 1, .int .i64 x, .int .i64 n, .slice va vn vc, .int .u64 0]] w' fun z w'' => ∃ v', z = .returned (.tuple #[v', .int .i64 11]) ∧ Below w'.heap.size w' w'') := fun e p w' o' va vn vc h hv => by
            have h3 := orc_open12 h.orc h.rx hora2 (e := entP x y n bs) hv
            unfold ev entP at h3
            dsimp only at h3
            have h4 := (hk2 e).2.1
            unfold entP at h4
            rw [h4] at h3
            refine h3.mono ?_
            rintro z w'' ⟨v', rfl, _, hb⟩
            exact ⟨v', rfl, hb⟩
          obtain ⟨kz, hkz⟩ : ∃ kz, kz = (openM S2 (keyM R.A.ks c) (entP a b c bs)).2 := ⟨_, rfl⟩
          have HO3 : Hid (∀ p w' o' va vn vc, BkS W1 w' o' p S2 R.A R.X pb qb x y n a b c → Rd w' (.slice va vn vc) bs → Calls Tryz.prog 12 #[ptr p.ob, ptr p.ra, .agg #[.int .i64 a, .int .i64 b, .int .u64 (if 0 < b then 1 else 0), .int .i64 1, .int .i64 a, .int .i64 c, .slice va vn vc, .int .u64 0]] w' fun z w'' => ∃ v', z = .returned (.tuple #[v', .int .i64 kz]) ∧ Below w'.heap.size w' w'') := fun p w' o' va vn vc h hv => by
            have h3 := orc_open12 h.orc h.ra hora2 (e := entP a b c bs) hv
            rw [show keyM R.A.ks (entP a b c bs).n = keyM R.A.ks c from rfl, ← hkz] at h3
            unfold ev entP at h3
            dsimp only at h3
            refine h3.mono ?_
            rintro z w'' ⟨v', rfl, _, hb⟩
            exact ⟨v', rfl, hb⟩
          have HKz : Hid (k = 0 → (kz == 0) = decide (a = x ∧ b = y ∧ c = n)) := fun e => by rw [hkz]; exact (hk2 e).2.2
          clear hnw hR hRI hku hsm hora hora2 hk1 hk2 hkz h00 HDs HRd HDn
          go_upto_region 6 with (go_at_call 8; go_must (refine HNw.out.mono ?_; rintro r w2 ⟨p, o2, rfl, hS2⟩))
          have HS2 : Hid (BkS W1 w2 o2 p R.S R.A R.X pb qb x y n a b c) := hS2
          clear hS2 HNw e2
          have ne9 : Nonempty (WIn (fun w' => Blk w' p.wb 42 (rcs p) ∧ Blk w' pb 24 [.int .i64 x, .int .i64 y, .int .i64 n])) := ⟨⟨w2, HS2.out.blk, HS2.out.pB⟩⟩
          have z0 : ∀ z : WIn (fun w' => Blk w' p.wb 42 (rcs p) ∧ Blk w' pb 24 [.int .i64 x, .int .i64 y, .int .i64 n]), _ := fun z => z.ok.1.cell 0 _ rfl
          have z2 : ∀ z : WIn (fun w' => Blk w' p.wb 42 (rcs p) ∧ Blk w' pb 24 [.int .i64 x, .int .i64 y, .int .i64 n]), _ := fun z => z.ok.1.cell 2 _ rfl
          have y0 : ∀ z : WIn (fun w' => Blk w' p.wb 42 (rcs p) ∧ Blk w' pb 24 [.int .i64 x, .int .i64 y, .int .i64 n]), _ := fun z => z.ok.2.cell 0 _ rfl
          have y1 : ∀ z : WIn (fun w' => Blk w' p.wb 42 (rcs p) ∧ Blk w' pb 24 [.int .i64 x, .int .i64 y, .int .i64 n]), _ := fun z => z.ok.2.cell 1 _ rfl
          have y2 : ∀ z : WIn (fun w' => Blk w' p.wb 42 (rcs p) ∧ Blk w' pb 24 [.int .i64 x, .int .i64 y, .int .i64 n]), _ := fun z => z.ok.2.cell 2 _ rfl
          have HD : Hid (BkS W1 w2.drew o2 p R.S R.A R.X pb qb x y n a b c ∧ Below w.heap.size w w2.drew) := ⟨HS2.out.mv (mv_drew [] _ _) (by simp), (bnext HB1.out HS2.out.bel).drew⟩
          refine wp_region_ord (C := fun w' => ∃ z : WIn (fun w' => Blk w' p.wb 42 (rcs p) ∧ Blk w' pb 24 [.int .i64 x, .int .i64 y, .int .i64 n]), w' = z.w) [(false, 0), (false, 1), (false, 2), (false, 3), (false, 4), (false, 5), (false, 6), (false, 7), (false, 8), (false, 9), (false, 10), (false, 11), (false, 12), (false, 13), (false, 14), (true, 15), (false, 16), (false, 17), (false, 18), (false, 19), (false, 20)] (by kernel_rfl) (by kernel_rfl) ⟨⟨w2.drew, HD.out.1.blk, HD.out.1.pB⟩, rfl⟩ ?_
          iterate 15 (refine ord_still rfl rfl ?_; go_big_quiet_step (exact rfl); refine wpQuiet_nil ?_)
          refine ord_mem rfl rfl ?_
          go_simp
          refine (HSl.out _ _ _ _ HD.out.1 (HRt.out _ HD.out.2)).mono ?_
          rintro r w5 ⟨v5, rfl, o5, hS5, hK5⟩
          obtain ⟨va, vc, e5⟩ := hK5.1.len
          subst e5
          refine ⟨⟨⟨w5, hS5.blk, hS5.pB⟩, rfl⟩, ?_⟩
          go_simp
          iterate 5 (refine ord_still rfl rfl ?_; go_big_quiet_step (exact rfl); refine wpQuiet_nil ?_)
          refine ord_end ?_
          obtain ⟨vn, hvn⟩ : ∃ vn, vn = bs.length := ⟨_, rfl⟩
          have HVn : Hid (vn = bs.length) := hvn
          rw [← hvn] at hK5 ⊢
          have HS5 : Hid (BkS W1 w5 o5 p S2 R.A R.X pb qb x y n a b c) := hS5
          have HK5 : Hid (Kp0 w5 o5 (.slice va vn vc) bs) := hK5
          clear hS5 hK5 hvn z0 z2 y0 y1 y2 ne9 HD HSl HS2
          by_cases hk : k = 0
          · subst hk
            have HP1' := HO1.out rfl
            have HO1' : Hid (∀ w' o', BkS W1 w' o' p S2 R.A R.X pb qb x y n a b c → Rd w' (.slice va vn vc) bs → Calls Tryz.prog 12 #[ptr p.ob, ptr p.ra, .agg #[.int .i64 x, .int .i64 y, .int .u64 (if 0 < y then 1 else 0), .int .i64 1, .int .i64 x, .int .i64 n, .slice va vn vc, .int .u64 0]] w' fun z w'' => ∃ v', z = .returned (.tuple #[v', .int .i64 0]) ∧ Rd w'' v' tl ∧ Below w'.heap.size w' w'') := fun w' o' h hv => HO1.out rfl p w' o' va vn vc h hv
            have HO2' : Hid (∀ w' o', BkS W1 w' o' p S2 R.A R.X pb qb x y n a b c → Rd w' (.slice va vn vc) bs → Calls Tryz.prog 12 #[ptr p.ob, ptr p.rx, .agg #[.int .i64 x, .int .i64 y, .int .u64 (if 0 < y then 1 else 0), .int .i64 1, .int .i64 x, .int .i64 n, .slice va vn vc, .int .u64 0]] w' fun z w'' => ∃ v', z = .returned (.tuple #[v', .int .i64 11]) ∧ Below w'.heap.size w' w'') := fun w' o' h hv => HO2.out rfl p w' o' va vn vc h hv
            have HO3' : Hid (∀ w' o', BkS W1 w' o' p S2 R.A R.X pb qb x y n a b c → Rd w' (.slice va vn vc) bs → Calls Tryz.prog 12 #[ptr p.ob, ptr p.ra, .agg #[.int .i64 a, .int .i64 b, .int .u64 (if 0 < b then 1 else 0), .int .i64 1, .int .i64 a, .int .i64 c, .slice va vn vc, .int .u64 0]] w' fun z w'' => ∃ v', z = .returned (.tuple #[v', .int .i64 kz]) ∧ Below w'.heap.size w' w'') := fun w' o' h hv => HO3.out p w' o' va vn vc h hv
            have HKz' : Hid ((kz == 0) = decide (a = x ∧ b = y ∧ c = n)) := HKz.out rfl
            obtain ⟨py, hpy⟩ : ∃ py : Int, py = (if 0 < y then 1 else 0) := ⟨_, rfl⟩
            obtain ⟨pq, hpq⟩ : ∃ pq : Int, pq = (if 0 < b then 1 else 0) := ⟨_, rfl⟩
            have HPy : Hid (py = (if 0 < y then 1 else 0) ∧ pq = (if 0 < b then 1 else 0)) := ⟨hpy, hpq⟩
            rw [← hpy] at HO1' HO2'
            rw [← hpq] at HO3'
            clear hpy hpq HP1' HO1 HO2 HO3 HKz HKn
            have p0 := HS5.out.pB.cell 0 _ rfl; have p1 := HS5.out.pB.cell 1 _ rfl; have p2 := HS5.out.pB.cell 2 _ rfl
            go_upto_region 10 with fail
            obtain ⟨W6, hW6⟩ : ∃ W6, W6 = w5.alloc (.cells #[.int .i64 x, .int .i64 y, .int .u64 0, .int .i64 1, .int .i64 x, .int .i64 n, .slice va vn vc, .int .u64 0] 30) := ⟨_, rfl⟩
            have m9 : Mv [] w5 o5 W6 (newTo o5 w5 12) := Mv.of_below (I := []) 12 (by rw [hW6]; exact balloc (Below.refl _ _) _)
            have HS6 : Hid (BkS W1 W6 (newTo o5 w5 12) p S2 R.A R.X pb qb x y n a b c) := (show BkS _ _ _ _ _ _ _ _ _ _ _ _ _ _ _ from HS5.out.mv m9 (by simp))
            have HK6 : Hid (Kp0 W6 (newTo o5 w5 12) (.slice va vn vc) bs) := HK5.out.mv m9 (by simp)
            have hE6 : Blk W6 w5.heap.size 30 [.int .i64 x, .int .i64 y, .int .u64 0, .int .i64 1, .int .i64 x, .int .i64 n, .slice va vn vc, .int .u64 0] := by rw [hW6]; exact blk_new w5 _ 30
            rw [← hW6]
            obtain ⟨eb, heb⟩ : ∃ eb, eb = w5.heap.size := ⟨_, rfl⟩
            have hoe : newTo o5 w5 12 eb = 12 := by rw [heb]; exact newTo_new (Nat.le_refl _)
            rw [← heb] at hE6 ⊢
            have HE6 : Hid (Blk W6 eb 30 [.int .i64 x, .int .i64 y, .int .u64 0, .int .i64 1, .int .i64 x, .int .i64 n, .slice va vn vc, .int .u64 0] ∧ newTo o5 w5 12 eb = 12) := ⟨hE6, hoe⟩
            generalize newTo o5 w5 12 = o6 at *
            clear m9 hE6 hoe heb hW6 HS5 HK5 p0 p1 p2
            have p1 := HS6.out.pB.cell 1 _ rfl
            have f2 := HE6.out.1.cell 2 _ rfl; have f3 := HE6.out.1.frozen 2
            go_upto_if 81 with fail
            go_cut [82] (fun _ wx => ∃ o7, Hid (BkS W1 wx o7 p S2 R.A R.X pb qb x y n a b c) ∧ Hid (Kp0 wx o7 (.slice va vn vc) bs) ∧ Hid (Blk wx eb 30 [.int .i64 x, .int .i64 y, .int .u64 py, .int .i64 1, .int .i64 x, .int .i64 n, .slice va vn vc, .int .u64 0] ∧ o7 eb = 12))
            case first =>
              by_cases hy : 0 < y
              · have e1 : py = 1 := by rw [HPy.out.1, if_pos hy]
                subst e1
                go_wp2
                have m9 := mv_put (grown_setCell W6 eb 2 (.int .u64 1)) HE6.out.2
                go_meet
                exact ⟨_, HS6.out.mv m9 (by simp), HK6.out.mv m9 (by decide), HE6.out.1.set 2 _, by rw [newTo_old HE6.out.1.lt]; exact HE6.out.2⟩
              · have e1 : py = 0 := by rw [HPy.out.1, if_neg hy]
                subst e1
                go_wp2
                go_meet
                exact ⟨o6, HS6.out, HK6.out, HE6.out⟩
            case rest =>
            obtain ⟨o7, HS7, HK7, HE7⟩ := hcut
            obtain ⟨W7, hW7⟩ : ∃ W7, W7 = wc := ⟨_, rfl⟩
            subst hW7
            clear HS6 HK6 HE6 p1 f2 f3
            go_upto_region 12 with fail
            have ne9 : Nonempty (WIn (fun w' => Below W7.heap.size W7 w')) := ⟨⟨W7, Below.refl _ _⟩⟩
            have hcl : ∀ (z : WIn (fun w' => Below W7.heap.size W7 w')) p v, W7.cell? p = some v → z.w.cell? p = some v := fun z p v hp => (z.ok.cell (World.block_lt_of_cell? W7 _ hp)).trans hp
            have r0 := HS7.out.blk.cell 0 _ rfl; have r2 := HS7.out.blk.cell 2 _ rfl
            have t0 := HE7.out.1.cell 0 _ rfl; have t1 := HE7.out.1.cell 1 _ rfl; have t2 := HE7.out.1.cell 2 _ rfl; have t3 := HE7.out.1.cell 3 _ rfl; have t4 := HE7.out.1.cell 4 _ rfl; have t5 := HE7.out.1.cell 5 _ rfl; have t6 := HE7.out.1.cell 6 _ rfl; have t7 := HE7.out.1.cell 7 _ rfl
            have y0 := fun z => hcl z _ _ r0; have y2 := fun z => hcl z _ _ r2; have u0 := fun z => hcl z _ _ t0; have u1 := fun z => hcl z _ _ t1; have u2 := fun z => hcl z _ _ t2; have u3 := fun z => hcl z _ _ t3; have u4 := fun z => hcl z _ _ t4; have u5 := fun z => hcl z _ _ t5; have u6 := fun z => hcl z _ _ t6; have u7 := fun z => hcl z _ _ t7
            have HD : Hid (Below W7.heap.size W7 W7.drew) := (show Below _ _ _ from (Below.refl _ _).drew)
            clear hcl r0 r2 t0 t1 t2 t3 t4 t5 t6 t7
            refine wp_region_ord (C := fun w' => ∃ z : WIn (fun w' => Below W7.heap.size W7 w'), w' = z.w) [(false, 0), (false, 1), (false, 2), (false, 3), (false, 4), (false, 5), (false, 6), (false, 7), (false, 8), (true, 9), (false, 10), (false, 11), (false, 12), (false, 13), (false, 14)] (by kernel_rfl) (by kernel_rfl) ⟨⟨W7.drew, HD.out⟩, rfl⟩ ?_
            iterate 9 (refine ord_still rfl rfl ?_; go_big_quiet_step (exact rfl); refine wpQuiet_nil ?_)
            refine ord_mem rfl rfl ?_
            go_simp
            refine (HO1'.out _ (newTo o7 W7 0) (HS7.out.below HD.out 0) (HK7.out.1.below HD.out)).mono ?_
            rintro r w12 ⟨v12, rfl, hv12, hb12⟩
            have HB12 : Hid (Below W7.heap.size W7 w12) := (show Below _ _ _ from bnext HD.out hb12)
            refine ⟨⟨⟨w12, HB12.out⟩, rfl⟩, ?_⟩
            go_simp
            iterate 5 (refine ord_still rfl rfl ?_; go_big_quiet_step (exact rfl); refine wpQuiet_nil ?_)
            refine ord_end ?_
            have m9 : Mv [] W7 o7 w12 (newTo o7 W7 0) := Mv.of_below (I := []) 0 HB12.out
            have HS12 : Hid (BkS W1 w12 (newTo o7 W7 0) p S2 R.A R.X pb qb x y n a b c) := (show BkS _ _ _ _ _ _ _ _ _ _ _ _ _ _ _ from HS7.out.mv m9 (by simp))
            have HK12 : Hid (Kp0 w12 (newTo o7 W7 0) (.slice va vn vc) bs) := HK7.out.mv m9 (by simp)
            have HE12 : Hid (Blk w12 eb 30 [.int .i64 x, .int .i64 y, .int .u64 py, .int .i64 1, .int .i64 x, .int .i64 n, .slice va vn vc, .int .u64 0] ∧ newTo o7 W7 0 eb = 12) := ⟨HE7.out.1.below HB12.out, by rw [newTo_old HE7.out.1.lt]; exact HE7.out.2⟩
            generalize newTo o7 W7 0 = o12 at *
            clear m9 HD ne9 y0 y2 u0 u1 u2 u3 u4 u5 u6 u7 HS7 HK7 HE7 hb12
            obtain ⟨xa, xc, e12⟩ := hv12.len
            subst e12
            rw [← HTn.out]
            have HT12 : Hid (Rd w12 (.slice xa tn xc) tl) := (by rw [HTn.out]; exact hv12)
            clear hv12 HB12
            go_wp2
            have ne9 : Nonempty (WIn (fun w' => Below w12.heap.size w12 w')) := ⟨⟨w12, Below.refl _ _⟩⟩
            have hcl : ∀ (z : WIn (fun w' => Below w12.heap.size w12 w')) p v, w12.cell? p = some v → z.w.cell? p = some v := fun z p v hp => (z.ok.cell (World.block_lt_of_cell? w12 _ hp)).trans hp
            have r0 := HS12.out.blk.cell 0 _ rfl; have r2 := HS12.out.blk.cell 3 _ rfl
            have t0 := HE12.out.1.cell 0 _ rfl; have t1 := HE12.out.1.cell 1 _ rfl; have t2 := HE12.out.1.cell 2 _ rfl; have t3 := HE12.out.1.cell 3 _ rfl; have t4 := HE12.out.1.cell 4 _ rfl; have t5 := HE12.out.1.cell 5 _ rfl; have t6 := HE12.out.1.cell 6 _ rfl; have t7 := HE12.out.1.cell 7 _ rfl
            have y0 := fun z => hcl z _ _ r0; have y2 := fun z => hcl z _ _ r2; have u0 := fun z => hcl z _ _ t0; have u1 := fun z => hcl z _ _ t1; have u2 := fun z => hcl z _ _ t2; have u3 := fun z => hcl z _ _ t3; have u4 := fun z => hcl z _ _ t4; have u5 := fun z => hcl z _ _ t5; have u6 := fun z => hcl z _ _ t6; have u7 := fun z => hcl z _ _ t7
            have HD : Hid (Below w12.heap.size w12 w12.drew) := (show Below _ _ _ from (Below.refl _ _).drew)
            clear hcl r0 r2 t0 t1 t2 t3 t4 t5 t6 t7
            refine wp_region_ord (C := fun w' => ∃ z : WIn (fun w' => Below w12.heap.size w12 w'), w' = z.w) [(false, 0), (false, 1), (false, 2), (false, 3), (false, 4), (false, 5), (false, 6), (false, 7), (false, 8), (true, 9), (false, 10), (false, 11), (false, 12), (false, 13), (false, 14)] (by kernel_rfl) (by kernel_rfl) ⟨⟨w12.drew, HD.out⟩, rfl⟩ ?_
            iterate 9 (refine ord_still rfl rfl ?_; go_big_quiet_step (exact rfl); refine wpQuiet_nil ?_)
            refine ord_mem rfl rfl ?_
            go_simp
            refine (HO2'.out _ (newTo o12 w12 0) (HS12.out.below HD.out 0) (HK12.out.1.below HD.out)).mono ?_
            rintro r w13 ⟨v13, rfl, hb13⟩
            have HB13 : Hid (Below w12.heap.size w12 w13) := (show Below _ _ _ from bnext HD.out hb13)
            refine ⟨⟨⟨w13, HB13.out⟩, rfl⟩, ?_⟩
            go_simp
            iterate 5 (refine ord_still rfl rfl ?_; go_big_quiet_step (exact rfl); refine wpQuiet_nil ?_)
            refine ord_end ?_
            have m9 : Mv [] w12 o12 w13 (newTo o12 w12 0) := Mv.of_below (I := []) 0 HB13.out
            have HS13 : Hid (BkS W1 w13 (newTo o12 w12 0) p S2 R.A R.X pb qb x y n a b c) := (show BkS _ _ _ _ _ _ _ _ _ _ _ _ _ _ _ from HS12.out.mv m9 (by simp))
            have HK13 : Hid (Kp0 w13 (newTo o12 w12 0) (.slice va vn vc) bs) := HK12.out.mv m9 (by simp)
            have HE13 : Hid (Blk w13 eb 30 [.int .i64 x, .int .i64 y, .int .u64 py, .int .i64 1, .int .i64 x, .int .i64 n, .slice va vn vc, .int .u64 0] ∧ newTo o12 w12 0 eb = 12) := ⟨HE12.out.1.below HB13.out, by rw [newTo_old HE12.out.1.lt]; exact HE12.out.2⟩
            generalize newTo o12 w12 0 = o13 at *
            clear m9 HD ne9 y0 y2 u0 u1 u2 u3 u4 u5 u6 u7 HS12 HK12 HE12 hb13
            have HSm : Hid (Calls Tryz.prog 11 #[.slice xa tn xc, .slice ta tn tc] w13 fun e w' => e = .returned (.bool true) ∧ Below w13.heap.size w13 w') := (by
              have h := same_any (.slice xa tn xc) (.slice ta tn tc) tl tl w13 (HT12.out.below HB13.out) (HRt.out _ (bnext HB1.out HS13.out.bel))
              rw [decide_eq_true rfl] at h
              exact h)
            clear HT12 HB13
            go_upto_region 16 with (go_at_call 11; go_must (refine HSm.out.mono ?_; rintro r w14 ⟨rfl, hb14⟩))
            have m9 : Mv [] w13 o13 w14 (newTo o13 w13 0) := Mv.of_below (I := []) 0 hb14
            have HS14 : Hid (BkS W1 w14 (newTo o13 w13 0) p S2 R.A R.X pb qb x y n a b c) := (show BkS _ _ _ _ _ _ _ _ _ _ _ _ _ _ _ from HS13.out.mv m9 (by simp))
            have HK14 : Hid (Kp0 w14 (newTo o13 w13 0) (.slice va vn vc) bs) := HK13.out.mv m9 (by simp)
            have hE14 := HE13.out.1.below hb14
            generalize newTo o13 w13 0 = o14 at *
            clear m9 hb14 HSm HS13 HK13 HE13
            have t0 := hE14.cell 0 _ rfl; have t1 := hE14.cell 1 _ rfl; have t2 := hE14.cell 2 _ rfl; have t3 := hE14.cell 3 _ rfl; have t4 := hE14.cell 4 _ rfl; have t5 := hE14.cell 5 _ rfl; have t6 := hE14.cell 6 _ rfl; have t7 := hE14.cell 7 _ rfl
            go_upto_region 17 with fail
            obtain ⟨W15, hW15⟩ : ∃ W15, W15 = w14.alloc (.cells #[.int .i64 x, .int .i64 y, .int .u64 py, .int .i64 1, .int .i64 x, .int .i64 n, .slice va vn vc, .int .u64 0] 30) := ⟨_, rfl⟩
            have m9 : Mv [] w14 o14 W15 (newTo o14 w14 13) := Mv.of_below (I := []) 13 (by rw [hW15]; exact balloc (Below.refl _ _) _)
            have HS15 : Hid (BkS W1 W15 (newTo o14 w14 13) p S2 R.A R.X pb qb x y n a b c) := (show BkS _ _ _ _ _ _ _ _ _ _ _ _ _ _ _ from HS14.out.mv m9 (by simp))
            have HK15 : Hid (Kp0 W15 (newTo o14 w14 13) (.slice va vn vc) bs) := HK14.out.mv m9 (by simp)
            have hF15 : Blk W15 w14.heap.size 30 [.int .i64 x, .int .i64 y, .int .u64 py, .int .i64 1, .int .i64 x, .int .i64 n, .slice va vn vc, .int .u64 0] := by rw [hW15]; exact blk_new w14 _ 30
            rw [← hW15]
            obtain ⟨fb, hfb⟩ : ∃ fb, fb = w14.heap.size := ⟨_, rfl⟩
            have hof : newTo o14 w14 13 fb = 13 := by rw [hfb]; exact newTo_new (Nat.le_refl _)
            rw [← hfb] at hF15 ⊢
            have HF15 : Hid (Blk W15 fb 30 [.int .i64 x, .int .i64 y, .int .u64 py, .int .i64 1, .int .i64 x, .int .i64 n, .slice va vn vc, .int .u64 0] ∧ newTo o14 w14 13 fb = 13) := ⟨hF15, hof⟩
            generalize newTo o14 w14 13 = o15 at *
            clear m9 hF15 hof hfb hW15 HS14 HK14 hE14 t0 t1 t2 t3 t4 t5 t6 t7
            have q9 := HS15.out.qB.cell 0 _ rfl
            have f9 := HF15.out.1.cell 0 _ rfl; have f8 := HF15.out.1.frozen 0
            go_upto_region 18 with fail
            have m9 := mv_put (grown_setCell W15 fb 0 (.int .i64 a)) HF15.out.2
            have HS16 : Hid (BkS W1 (W15.setCell ⟨fb, 0, none⟩ (.int .i64 a)) (newTo o15 W15 0) p S2 R.A R.X pb qb x y n a b c) := (show BkS _ _ _ _ _ _ _ _ _ _ _ _ _ _ _ from HS15.out.mv m9 (by simp))
            have HK16 : Hid (Kp0 (W15.setCell ⟨fb, 0, none⟩ (.int .i64 a)) (newTo o15 W15 0) (.slice va vn vc) bs) := HK15.out.mv m9 (by decide)
            have HF16 : Hid (Blk (W15.setCell ⟨fb, 0, none⟩ (.int .i64 a)) fb 30 [.int .i64 a, .int .i64 y, .int .u64 py, .int .i64 1, .int .i64 x, .int .i64 n, .slice va vn vc, .int .u64 0] ∧ newTo o15 W15 0 fb = 13) := ⟨HF15.out.1.set 0 _, by rw [newTo_old HF15.out.1.lt]; exact HF15.out.2⟩
            generalize W15.setCell ⟨fb, 0, none⟩ (.int .i64 a) = W16 at *
            generalize newTo o15 W15 0 = o16 at *
            clear m9 f9 f8 HS15 HK15 HF15 q9
            have q9 := HS16.out.qB.cell 0 _ rfl
            have f9 := HF16.out.1.cell 4 _ rfl; have f8 := HF16.out.1.frozen 4
            go_upto_region 19 with fail
            have m9 := mv_put (grown_setCell W16 fb 4 (.int .i64 a)) HF16.out.2
            have HS17 : Hid (BkS W1 (W16.setCell ⟨fb, 4, none⟩ (.int .i64 a)) (newTo o16 W16 0) p S2 R.A R.X pb qb x y n a b c) := (show BkS _ _ _ _ _ _ _ _ _ _ _ _ _ _ _ from HS16.out.mv m9 (by simp))
            have HK17 : Hid (Kp0 (W16.setCell ⟨fb, 4, none⟩ (.int .i64 a)) (newTo o16 W16 0) (.slice va vn vc) bs) := HK16.out.mv m9 (by decide)
            have HF17 : Hid (Blk (W16.setCell ⟨fb, 4, none⟩ (.int .i64 a)) fb 30 [.int .i64 a, .int .i64 y, .int .u64 py, .int .i64 1, .int .i64 a, .int .i64 n, .slice va vn vc, .int .u64 0] ∧ newTo o16 W16 0 fb = 13) := ⟨HF16.out.1.set 4 _, by rw [newTo_old HF16.out.1.lt]; exact HF16.out.2⟩
            generalize W16.setCell ⟨fb, 4, none⟩ (.int .i64 a) = W17 at *
            generalize newTo o16 W16 0 = o17 at *
            clear m9 f9 f8 HS16 HK16 HF16 q9
            have q9 := HS17.out.qB.cell 1 _ rfl
            have f9 := HF17.out.1.cell 1 _ rfl; have f8 := HF17.out.1.frozen 1
            go_upto_region 20 with fail
            have m9 := mv_put (grown_setCell W17 fb 1 (.int .i64 b)) HF17.out.2
            have HS18 : Hid (BkS W1 (W17.setCell ⟨fb, 1, none⟩ (.int .i64 b)) (newTo o17 W17 0) p S2 R.A R.X pb qb x y n a b c) := (show BkS _ _ _ _ _ _ _ _ _ _ _ _ _ _ _ from HS17.out.mv m9 (by simp))
            have HK18 : Hid (Kp0 (W17.setCell ⟨fb, 1, none⟩ (.int .i64 b)) (newTo o17 W17 0) (.slice va vn vc) bs) := HK17.out.mv m9 (by decide)
            have HF18 : Hid (Blk (W17.setCell ⟨fb, 1, none⟩ (.int .i64 b)) fb 30 [.int .i64 a, .int .i64 b, .int .u64 py, .int .i64 1, .int .i64 a, .int .i64 n, .slice va vn vc, .int .u64 0] ∧ newTo o17 W17 0 fb = 13) := ⟨HF17.out.1.set 1 _, by rw [newTo_old HF17.out.1.lt]; exact HF17.out.2⟩
            generalize W17.setCell ⟨fb, 1, none⟩ (.int .i64 b) = W18 at *
            generalize newTo o17 W17 0 = o18 at *
            clear m9 f9 f8 HS17 HK17 HF17 q9
            have q9 := HS18.out.qB.cell 2 _ rfl
            have f9 := HF18.out.1.cell 5 _ rfl; have f8 := HF18.out.1.frozen 5
            go_upto_region 21 with fail
            have m9 := mv_put (grown_setCell W18 fb 5 (.int .i64 c)) HF18.out.2
            have HS19 : Hid (BkS W1 (W18.setCell ⟨fb, 5, none⟩ (.int .i64 c)) (newTo o18 W18 0) p S2 R.A R.X pb qb x y n a b c) := (show BkS _ _ _ _ _ _ _ _ _ _ _ _ _ _ _ from HS18.out.mv m9 (by simp))
            have HK19 : Hid (Kp0 (W18.setCell ⟨fb, 5, none⟩ (.int .i64 c)) (newTo o18 W18 0) (.slice va vn vc) bs) := HK18.out.mv m9 (by decide)
            have HF19 : Hid (Blk (W18.setCell ⟨fb, 5, none⟩ (.int .i64 c)) fb 30 [.int .i64 a, .int .i64 b, .int .u64 py, .int .i64 1, .int .i64 a, .int .i64 c, .slice va vn vc, .int .u64 0] ∧ newTo o18 W18 0 fb = 13) := ⟨HF18.out.1.set 5 _, by rw [newTo_old HF18.out.1.lt]; exact HF18.out.2⟩
            generalize W18.setCell ⟨fb, 5, none⟩ (.int .i64 c) = W19 at *
            generalize newTo o18 W18 0 = o19 at *
            clear m9 f9 f8 HS18 HK18 HF18 q9
            have f9 := HF19.out.1.cell 2 _ rfl; have f8 := HF19.out.1.frozen 2
            go_upto_region 22 with fail
            have m9 := mv_put (grown_setCell W19 fb 2 (.int .u64 0)) HF19.out.2
            have HS20 : Hid (BkS W1 (W19.setCell ⟨fb, 2, none⟩ (.int .u64 0)) (newTo o19 W19 0) p S2 R.A R.X pb qb x y n a b c) := (show BkS _ _ _ _ _ _ _ _ _ _ _ _ _ _ _ from HS19.out.mv m9 (by simp))
            have HK20 : Hid (Kp0 (W19.setCell ⟨fb, 2, none⟩ (.int .u64 0)) (newTo o19 W19 0) (.slice va vn vc) bs) := HK19.out.mv m9 (by decide)
            have HF20 : Hid (Blk (W19.setCell ⟨fb, 2, none⟩ (.int .u64 0)) fb 30 [.int .i64 a, .int .i64 b, .int .u64 0, .int .i64 1, .int .i64 a, .int .i64 c, .slice va vn vc, .int .u64 0] ∧ newTo o19 W19 0 fb = 13) := ⟨HF19.out.1.set 2 _, by rw [newTo_old HF19.out.1.lt]; exact HF19.out.2⟩
            generalize W19.setCell ⟨fb, 2, none⟩ (.int .u64 0) = W20 at *
            generalize newTo o19 W19 0 = o20 at *
            clear m9 f9 f8 HS19 HK19 HF19
            have p1 := HS20.out.qB.cell 1 _ rfl
            have f2 := HF20.out.1.cell 2 _ rfl; have f3 := HF20.out.1.frozen 2
            go_upto_if 138 with fail
            go_cut [139] (fun _ wx => ∃ o21, Hid (BkS W1 wx o21 p S2 R.A R.X pb qb x y n a b c) ∧ Hid (Kp0 wx o21 (.slice va vn vc) bs) ∧ Hid (Blk wx fb 30 [.int .i64 a, .int .i64 b, .int .u64 pq, .int .i64 1, .int .i64 a, .int .i64 c, .slice va vn vc, .int .u64 0] ∧ o21 fb = 13))
            case first =>
              by_cases hy : 0 < b
              · have e1 : pq = 1 := by rw [HPy.out.2, if_pos hy]
                subst e1
                go_wp2
                have m9 := mv_put (grown_setCell W20 fb 2 (.int .u64 1)) HF20.out.2
                go_meet
                exact ⟨_, HS20.out.mv m9 (by simp), HK20.out.mv m9 (by decide), HF20.out.1.set 2 _, by rw [newTo_old HF20.out.1.lt]; exact HF20.out.2⟩
              · have e1 : pq = 0 := by rw [HPy.out.2, if_neg hy]
                subst e1
                go_wp2
                go_meet
                exact ⟨o20, HS20.out, HK20.out, HF20.out⟩
            case rest =>
            obtain ⟨o21, HS21, HK21, HF21⟩ := hcut
            obtain ⟨W21, hW21⟩ : ∃ W21, W21 = wc := ⟨_, rfl⟩
            subst hW21
            clear HS20 HK20 HF20 p1 f2 f3
            go_upto_region 24 with fail
            have ne9 : Nonempty (WIn (fun w' => Below W21.heap.size W21 w')) := ⟨⟨W21, Below.refl _ _⟩⟩
            have hcl : ∀ (z : WIn (fun w' => Below W21.heap.size W21 w')) p v, W21.cell? p = some v → z.w.cell? p = some v := fun z p v hp => (z.ok.cell (World.block_lt_of_cell? W21 _ hp)).trans hp
            have r0 := HS21.out.blk.cell 0 _ rfl; have r2 := HS21.out.blk.cell 2 _ rfl
            have t0 := HF21.out.1.cell 0 _ rfl; have t1 := HF21.out.1.cell 1 _ rfl; have t2 := HF21.out.1.cell 2 _ rfl; have t3 := HF21.out.1.cell 3 _ rfl; have t4 := HF21.out.1.cell 4 _ rfl; have t5 := HF21.out.1.cell 5 _ rfl; have t6 := HF21.out.1.cell 6 _ rfl; have t7 := HF21.out.1.cell 7 _ rfl
            have y0 := fun z => hcl z _ _ r0; have y2 := fun z => hcl z _ _ r2; have u0 := fun z => hcl z _ _ t0; have u1 := fun z => hcl z _ _ t1; have u2 := fun z => hcl z _ _ t2; have u3 := fun z => hcl z _ _ t3; have u4 := fun z => hcl z _ _ t4; have u5 := fun z => hcl z _ _ t5; have u6 := fun z => hcl z _ _ t6; have u7 := fun z => hcl z _ _ t7
            have HD : Hid (Below W21.heap.size W21 W21.drew) := (show Below _ _ _ from (Below.refl _ _).drew)
            clear hcl r0 r2 t0 t1 t2 t3 t4 t5 t6 t7
            refine wp_region_ord (C := fun w' => ∃ z : WIn (fun w' => Below W21.heap.size W21 w'), w' = z.w) [(false, 0), (false, 1), (false, 2), (false, 3), (false, 4), (false, 5), (false, 6), (false, 7), (false, 8), (true, 9), (false, 10), (false, 11), (false, 12), (false, 13)] (by kernel_rfl) (by kernel_rfl) ⟨⟨W21.drew, HD.out⟩, rfl⟩ ?_
            iterate 9 (refine ord_still rfl rfl ?_; go_big_quiet_step (exact rfl); refine wpQuiet_nil ?_)
            refine ord_mem rfl rfl ?_
            go_simp
            refine (HO3'.out _ (newTo o21 W21 0) (HS21.out.below HD.out 0) (HK21.out.1.below HD.out)).mono ?_
            rintro r w24 ⟨v24, rfl, hb24⟩
            have HB24 : Hid (Below W21.heap.size W21 w24) := (show Below _ _ _ from bnext HD.out hb24)
            refine ⟨⟨⟨w24, HB24.out⟩, rfl⟩, ?_⟩
            go_simp
            iterate 4 (refine ord_still rfl rfl ?_; go_big_quiet_step (exact rfl); refine wpQuiet_nil ?_)
            refine ord_end ?_
            have m9 : Mv [] W21 o21 w24 (newTo o21 W21 0) := Mv.of_below (I := []) 0 HB24.out
            have HS24 : Hid (BkS W1 w24 (newTo o21 W21 0) p S2 R.A R.X pb qb x y n a b c) := (show BkS _ _ _ _ _ _ _ _ _ _ _ _ _ _ _ from HS21.out.mv m9 (by simp))
            have HK24 : Hid (Kp0 w24 (newTo o21 W21 0) (.slice va vn vc) bs) := HK21.out.mv m9 (by simp)
            have HE24 : Hid (Blk w24 fb 30 [.int .i64 a, .int .i64 b, .int .u64 pq, .int .i64 1, .int .i64 a, .int .i64 c, .slice va vn vc, .int .u64 0] ∧ newTo o21 W21 0 fb = 13) := ⟨HF21.out.1.below HB24.out, by rw [newTo_old HF21.out.1.lt]; exact HF21.out.2⟩
            generalize newTo o21 W21 0 = o24 at *
            clear m9 HD ne9 y0 y2 u0 u1 u2 u3 u4 u5 u6 u7 HS21 HK21 HF21 hb24
            have p0 := HS24.out.pB.cell 0 _ rfl; have p1 := HS24.out.pB.cell 1 _ rfl; have p2 := HS24.out.pB.cell 2 _ rfl
            have q0 := HS24.out.qB.cell 0 _ rfl; have q1 := HS24.out.qB.cell 1 _ rfl; have q2 := HS24.out.qB.cell 2 _ rfl
            have hkz := HKz'.out
            go_wp2_with (go_at_call 7; go_must (refine (HAl.out w24).mono ?_; rintro r w25 ⟨rfl, hb25⟩))
            all_goals go_ret
            all_goals exact ⟨rfl, bnext (bnext HB1.out HS24.out.bel) hb25⟩
          · have hk' : (k != 0) = true := by simp [hk]
            have hv0 : vn = 0 := by rw [HVn.out, HKn.out hk]; rfl
            subst hv0
            go_wp2_with (go_at_call 7; go_must (refine (HAl.out w5).mono ?_; rintro r w6 ⟨rfl, hb6⟩))
            go_ret
            exact ⟨rfl, bnext (bnext HB1.out HS5.out.bel) hb6⟩
        · have hn2' : 2 < n := by omega
          go_wp2_with (go_at_call 7; go_must (refine (HAl.out W1).mono ?_; rintro r w2 ⟨rfl, hb2⟩))
          go_ret
          exact ⟨rfl, bnext HB1.out hb2⟩
      · have hn0' : n < 0 := by omega
        go_wp2_with (go_at_call 7; go_must (refine (HAl.out W1).mono ?_; rintro r w2 ⟨rfl, hb2⟩))
        go_ret
        exact ⟨rfl, bnext HB1.out hb2⟩
    · have ht15' : (1500 : Int) < (tn : Int) := by omega
      go_wp2_with (go_at_call 7; go_must (refine (HAl.out W1).mono ?_; rintro r w2 ⟨rfl, hb2⟩))
      go_ret
      exact ⟨rfl, bnext HB1.out hb2⟩
  · have h50' : (50 : Int) < (dn : Int) := by omega
    go_wp2_with (go_at_call 7; go_must (refine (HAl.out W1).mono ?_; rintro r w2 ⟨rfl, hb2⟩))
    go_ret
    exact ⟨rfl, bnext HB1.out hb2⟩
end Go.Proofs.YtjbpfhnagiacmaaGreat
