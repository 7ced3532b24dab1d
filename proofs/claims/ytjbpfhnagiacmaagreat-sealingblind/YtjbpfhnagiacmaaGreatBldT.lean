/-
  SealingBlind, the walk itself.
-/
import Derived.Test.YtjbpfhnagiacmaaGreatBldS
import Derived.Test.YtjbpfhnagiacmaaGreatArgsS
namespace Go.Proofs.YtjbpfhnagiacmaaGreat
set_option linter.unusedVariables false
set_option linter.unusedSimpArgs false
set_option synthInstance.maxSize 20000
set_option maxHeartbeats 2000000
set_option maxRecDepth 20000
open Go.RowKit Go.Maps
set_option maxHeartbeats 4000000 in
theorem blind5 (dv : Value) (ds : List Int) (av : Value) (al : List Int) (bv : Value) (bl : List Int) (x y : Int) (w : World) (hd : RdU w dv ds) (ha : Rd w av al) (hb : Rd w bv bl) (hx : I64 x) (hy : I64 y) : Calls Tryz.prog 5 #[dv, av, bv, .int .i64 x, .int .i64 y] w fun r w' => r = .returned (.bool true) ∧ Below w.heap.size w w' := by
  have HAl : Hid (∀ w', Calls Tryz.prog 7 #[] w' fun r w'' => r = .returned (.bool true) ∧ Below w'.heap.size w' w'') := fun w' => alive7 w'
  have hacap : al.length ≤ 9223372036854775807 := by obtain ⟨a, cap, rfl⟩ := ha.len; have := ha.cap; omega
  have hbcap : bl.length ≤ 9223372036854775807 := by obtain ⟨a, cap, rfl⟩ := hb.len; have := hb.cap; omega
  have HRa : Hid (∀ w', Below w.heap.size w w' → Rd w' av al) := fun w' h => ha.below h
  have HRb : Hid (∀ w', Below w.heap.size w w' → Rd w' bv bl) := fun w' h => hb.below h
  have HAk : Hid (al.length ≤ 2000 → bl.length ≤ 2000 → Calls Tryz.prog 18 #[av, bv] w fun e w' => e = .returned (.bool (decide (cls al.length = cls bl.length))) ∧ Below w.heap.size w w') := fun h1 h2 => alike_any av bv al bl w ha hb h1 h2
  have HDs : Hid (∀ d ∈ ds, U64 d) := hd.1
  have HRd : Hid (∀ w', Below w.heap.size w w' → RdU w' dv ds) := fun w' h => hd.block (fun k _ hk => h.block k hk)
  obtain ⟨_, da, dc, rfl, hdc, hdm, _⟩ := hd
  have hdm' : dc ≤ 9223372036854775807 := hdm
  obtain ⟨aa, ac, rfl⟩ := ha.len
  obtain ⟨ba, bc, rfl⟩ := hb.len
  obtain ⟨dn, hdn⟩ : ∃ dn, dn = ds.length := ⟨_, rfl⟩
  obtain ⟨an, han⟩ : ∃ an, an = al.length := ⟨_, rfl⟩
  obtain ⟨bn, hbn⟩ : ∃ bn, bn = bl.length := ⟨_, rfl⟩
  have HDn : Hid (dn = ds.length) := hdn
  have HAn : Hid (an = al.length) := han
  have HBn : Hid (bn = bl.length) := hbn
  rw [← hdn] at HRd hdc ⊢
  rw [← han] at HRa HAk hacap ⊢
  rw [← hbn] at HRb HAk hbcap ⊢
  clear ha hb hdn han hbn hx hy
  by_cases h50 : dn ≤ 50
  · by_cases ha15 : an ≤ 1500
    · by_cases hb15 : bn ≤ 1500
      · have HAk2 : Hid (Calls Tryz.prog 18 #[.slice aa an ac, .slice ba bn bc] w fun e w' => e = .returned (.bool (decide (cls an = cls bn))) ∧ Below w.heap.size w w') := HAk.out (by omega) (by omega)
        clear HAk
        by_cases hak : cls an = cls bn
        · rw [decide_eq_true hak] at HAk2
          have HNw : Hid (∀ w', Below w.heap.size w w' → Calls Tryz.prog 8 #[.slice da dn dc, .int .i64 1] w' (RoPost w' ⟨ds, []⟩ 1)) := fun w' h => newRoom8 (HRd.out w' h) (by have := HDn.out; omega) 1 (by omega)
          have h00 : Ora ⟨ds, []⟩ 0 := ora00 HDs.out
          have hI0 := rn0_ok h00
          have hos : ∀ l ∈ (rnK ⟨ds, []⟩ 1).A.os, l = [] := hI0.os_next (by omega)
          have hI1 : RI (rnK ⟨ds, []⟩ 1) 1 _ _ _ _ := hI0.next (by omega)
          have hku := (hI1.keyN 0).1
          have hkk := (hI1.keyN 0).2
          have hora := hI1.ora
          obtain ⟨R, hR⟩ : ∃ R, R = rnK ⟨ds, []⟩ 1 := ⟨_, rfl⟩
          rw [← hR] at hos hku hkk hora
          have hal := seal_alike R.S (keyM R.A.ks 0) x y 0 (a := al) (b := bl) (by rw [← HAn.out, ← HBn.out]; exact hak)
          obtain ⟨zx, hzx⟩ : ∃ zx, zx = (sealM R.S (keyM R.A.ks 0) x y 0 al).1.1 := ⟨_, rfl⟩
          obtain ⟨kx, hkx⟩ : ∃ kx, kx = (sealM R.S (keyM R.A.ks 0) x y 0 al).1.2 := ⟨_, rfl⟩
          have HCl : Hid (kx = 0 → classE zx.length = cls an) := fun e => by
            rw [hkx] at e
            obtain ⟨_, _, h3, h4⟩ := sealM_ok e hkk
            rw [hzx, h4, HAn.out]
            exact class_box _ h3
          have HSa : Hid (∀ w' o' p v, OrcAt w' o' p R.S → ∀ q ob', RIs w' o' 10 q ob' R.A → Rd w' v al → Calls Tryz.prog 9 #[ptr p, ptr q, .int .i64 x, .int .i64 y, .int .i64 0, v] w' fun e w'' => ∃ v', e = .returned (.tuple #[v', .int .i64 kx]) ∧ (∃ o'', Mv [1] w' o' w'' o'') ∧ Rd w'' v' zx ∧ ∀ k, v'.ownBlock = some k → w'.heap.size ≤ k) := fun w' o' p v h1 q ob' h2 hv => by
            have h3 := orc_seal9F h1 h2 hora (by omega) (x := x) (y := y) (n := 0) hku hv (by have := HAn.out; omega)
            rw [← hkx, ← hzx] at h3
            refine h3.mono ?_
            rintro e w'' ⟨v', rfl, ⟨o'', _, h5, h6⟩, h7⟩
            exact ⟨v', rfl, ⟨o'', h6⟩, h5.1, h7⟩
          have HSb : Hid (∀ w' o' p v, OrcAt w' o' p R.S → ∀ q ob', RIs w' o' 10 q ob' R.A → Rd w' v bl → Calls Tryz.prog 9 #[ptr p, ptr q, .int .i64 x, .int .i64 y, .int .i64 0, v] w' fun e w'' => ∃ v', e = .returned (.tuple #[v', .int .i64 kx]) ∧ (∃ o'', Mv [1] w' o' w'' o'') ∧ Rd w'' v' zx) := fun w' o' p v h1 q ob' h2 hv => by
            have h3 := orc_seal9 h1 h2 hora (by omega) (x := x) (y := y) (n := 0) hku hv (by have := HBn.out; omega)
            rw [← hal, ← hkx, ← hzx] at h3
            refine h3.mono ?_
            rintro e w'' ⟨v', rfl, o'', _, h5, h6⟩
            exact ⟨v', rfl, ⟨o'', h6⟩, h5.1⟩
          have HOs : Hid (∀ l ∈ R.A.os, l = []) := hos
          have HNw1 : Hid (∀ w', Below w.heap.size w w' → Calls Tryz.prog 8 #[.slice da dn dc, .int .i64 1] w' fun r w'' => ∃ p o, r = .returned (ptr p.wb) ∧ Rs w'' o p R ∧ Below w'.heap.size w' w'' ∧ ∀ k, k < w'.heap.size → o k = 0) := fun w' h => by
            refine (HNw.out w' h).mono ?_
            rintro r w'' ⟨p, o, sv, tv, rfl, hG⟩
            rw [← hR] at hG
            exact ⟨p, o, rfl, ⟨hG.blk, hG.own, hG.orc, hG.a⟩, hG.bel, hG.low⟩
          clear hR hos hku hkk hora hal hzx hkx hI0 hI1 h00 HNw hak HDs HRd
          go_enter Tryz.func5, Tryz.ntmps5
          go_upto_region 3 with (go_at_call 18; go_must (refine HAk2.out.mono ?_; rintro r w2 ⟨rfl, hb2⟩))
          have HB2 : Hid (Below w.heap.size w w2) := hb2
          clear hb2
          go_wp2_with fail
          refine (HNw1.out w2 HB2.out).mono ?_
          rintro r w3 ⟨p, op, rfl, hP3, hbp, hzp⟩
          have HB3 : Hid (Below w.heap.size w w3) := (show Below _ _ _ from bnext HB2.out hbp)
          have HP3 : Hid (Rs w3 op p R) := hP3
          have HZ : Hid (∀ k, k < w.heap.size → newTo op w3 0 k = 0) := fun k hk => by
            have h2 := Nat.lt_of_lt_of_le hk HB2.out.size
            rw [newTo_old (Nat.lt_of_lt_of_le h2 hbp.size)]
            exact hzp k h2
          clear hP3 hbp hzp
          go_wp2_with fail
          refine (HNw1.out w3 HB3.out).mono ?_
          rintro r w4 ⟨q, oq, rfl, hQ4, hbq, hzq⟩
          have HB4 : Hid (Below w.heap.size w w4) := (show Below _ _ _ from bnext HB3.out hbq)
          have HP4 : Hid (Rs w4 (newTo op w3 0) p R) := (show Rs _ _ _ _ from HP3.out.mv (Mv.of_below (I := []) 0 hbq) (by simp) (by simp) (by simp) (by simp))
          have HQ4 : Hid (Rs w4 oq q R ∧ w3.heap.size ≤ w4.heap.size ∧ (∀ k, k < w3.heap.size → oq k = 0) ∧ ∀ k, w3.heap.size ≤ k → newTo op w3 0 k ≠ 1) := ⟨hQ4, hbq.size, hzq, fun k hk => by rw [newTo_new hk]; decide⟩
          clear hQ4 hbq hzq HP3 HNw1
          go_upto_region 6 with fail
          have HB6 : Hid (Blk w4 p.wb 42 (rcs p)) := HP4.out.blk
          have HD : Hid (Rs w4.drew (newTo op w3 0) p R ∧ Below w.heap.size w w4.drew) := ⟨HP4.out.mv (mv_drew [] _ _) (by simp) (by simp) (by simp) (by simp), HB4.out.drew⟩
          have ne9 : Nonempty (WIn (fun w' => Blk w' p.wb 42 (rcs p))) := ⟨⟨w4, HB6.out⟩⟩
          have z0 : ∀ z : WIn (fun w' => Blk w' p.wb 42 (rcs p)), _ := fun z => z.ok.cell 0 _ rfl
          have z2 : ∀ z : WIn (fun w' => Blk w' p.wb 42 (rcs p)), _ := fun z => z.ok.cell 2 _ rfl
          refine wp_region_ord (C := fun w' => ∃ z : WIn (fun w' => Blk w' p.wb 42 (rcs p)), w' = z.w) [(false, 0), (false, 1), (false, 2), (false, 3), (false, 4), (false, 5), (false, 6), (false, 7), (false, 8), (false, 9), (false, 10), (true, 11), (false, 12), (false, 13), (false, 14), (false, 15), (false, 16)] (by kernel_rfl) (by kernel_rfl) ⟨⟨w4.drew, HB6.out⟩, rfl⟩ ?_
          iterate 11 (refine ord_still rfl rfl ?_; go_big_quiet_step (exact rfl); refine wpQuiet_nil ?_)
          refine ord_mem rfl rfl ?_
          go_simp
          refine (HSa.out w4.drew _ _ _ HD.out.1.orc _ _ HD.out.1.a (HRa.out _ HD.out.2)).mono ?_
          rintro r w5 ⟨v5, rfl, ⟨o5, hM5⟩, hr5, hn5⟩
          obtain ⟨xa, xc, e5⟩ := hr5.len
          subst e5
          refine ⟨⟨⟨w5, (HD.out.1.blk.block (hM5.block _ HD.out.1.blk.lt (by rw [HD.out.1.own]; decide)))⟩, rfl⟩, ?_⟩
          go_simp
          iterate 5 (refine ord_still rfl rfl ?_; go_big_quiet_step (exact rfl); refine wpQuiet_nil ?_)
          refine ord_end ?_
          obtain ⟨o2, hQ5, hz5, hy5⟩ := HQ4.out.1.other HOs.out HQ4.out.2.1 HQ4.out.2.2.1 HQ4.out.2.2.2 hM5.drew
          have hlw : ∀ k, k < w.heap.size → newTo op w3 0 k ∉ [1] := fun k hk => by rw [HZ.out k hk]; decide
          have HB5 : Hid (Below w.heap.size w w5) := (show Below _ _ _ from HB4.out.trans (hM5.drew.below HB4.out.size hlw))
          have HQ5 : Hid (Rs w5 o2 q R) := hQ5
          have HX5 : Hid (Kp0 w5 o2 (.slice xa zx.length xc) zx) := ⟨hr5, fun _ k hk => hz5 k (hn5 k hk)⟩
          have HY5 : Hid (∀ k, k < w.heap.size → o2 k ∉ [1]) := fun k hk => by
            have := hy5 k (Nat.lt_of_lt_of_le hk HB3.out.size)
            simpa using this
          clear hQ5 hz5 hy5 hlw hM5 hr5 hn5 HD HP4 HQ4 HZ HSa HB6 ne9 z0 z2
          obtain ⟨xn, hxn⟩ : ∃ xn, xn = zx.length := ⟨_, rfl⟩
          have HXn : Hid (xn = zx.length) := hxn
          rw [← hxn] at HX5 ⊢
          clear hxn
          go_wp2
          have HB7 : Hid (Blk w5 q.wb 42 (rcs q)) := HQ5.out.blk
          have HD : Hid (Rs w5.drew o2 q R ∧ Below w.heap.size w w5.drew) := ⟨HQ5.out.mv (mv_drew [] _ _) (by simp) (by simp) (by simp) (by simp), HB5.out.drew⟩
          have ne9 : Nonempty (WIn (fun w' => Blk w' q.wb 42 (rcs q))) := ⟨⟨w5, HB7.out⟩⟩
          have z0 : ∀ z : WIn (fun w' => Blk w' q.wb 42 (rcs q)), _ := fun z => z.ok.cell 0 _ rfl
          have z2 : ∀ z : WIn (fun w' => Blk w' q.wb 42 (rcs q)), _ := fun z => z.ok.cell 2 _ rfl
          refine wp_region_ord (C := fun w' => ∃ z : WIn (fun w' => Blk w' q.wb 42 (rcs q)), w' = z.w) [(false, 0), (false, 1), (false, 2), (false, 3), (false, 4), (false, 5), (false, 6), (false, 7), (false, 8), (false, 9), (false, 10), (true, 11), (false, 12), (false, 13), (false, 14), (false, 15), (false, 16)] (by kernel_rfl) (by kernel_rfl) ⟨⟨w5.drew, HB7.out⟩, rfl⟩ ?_
          iterate 11 (refine ord_still rfl rfl ?_; go_big_quiet_step (exact rfl); refine wpQuiet_nil ?_)
          refine ord_mem rfl rfl ?_
          go_simp
          refine (HSb.out w5.drew _ _ _ HD.out.1.orc _ _ HD.out.1.a (HRb.out _ HD.out.2)).mono ?_
          rintro r w6 ⟨v6, rfl, ⟨o6, hM6⟩, hr6⟩
          obtain ⟨ya, yc, e6⟩ := hr6.len
          subst e6
          refine ⟨⟨⟨w6, (HD.out.1.blk.block (hM6.block _ HD.out.1.blk.lt (by rw [HD.out.1.own]; decide)))⟩, rfl⟩, ?_⟩
          go_simp
          iterate 5 (refine ord_still rfl rfl ?_; go_big_quiet_step (exact rfl); refine wpQuiet_nil ?_)
          refine ord_end ?_
          have HB6 : Hid (Below w.heap.size w w6) := (show Below _ _ _ from HB5.out.trans (hM6.drew.below HB5.out.size HY5.out))
          have HX6 : Hid (Rd w6 (.slice xa xn xc) zx) := (show Rd _ _ _ from (HX5.out.mv hM6.drew (by decide)).1)
          have HSm : Hid (Calls Tryz.prog 11 #[.slice xa xn xc, .slice ya zx.length yc] w6 fun e w' => e = .returned (.bool true) ∧ Below w6.heap.size w6 w') := (by
            have h := same_any (.slice xa xn xc) (.slice ya zx.length yc) zx zx w6 HX6.out hr6
            rw [decide_eq_true rfl] at h
            exact h)
          rw [← HXn.out] at HSm ⊢
          have hkk : (kx == kx) = true := by simp
          have hcc : (cls an == cls an) = true := by simp
          clear hM6 hr6 HD HQ5 HX5 HY5 HSb HB7 ne9 z0 z2
          by_cases hk0 : kx = 0
          · have HCa : Hid (∀ w', Rd w' (.slice xa xn xc) zx → Calls Tryz.prog 14 #[.agg #[.int .i64 0, .int .i64 0, .int .u64 0, .int .i64 0, .int .i64 0, .int .i64 0, .slice xa xn xc, .int .u64 0]] w' fun r w'' => r = .returned (.int .i64 (cls an)) ∧ Below w'.heap.size w' w'') := fun w' h => by
              have h3 := class14 (e := ⟨0, 0, 0, 0, 0, 0, zx, 0⟩) h
              dsimp only at h3
              rw [HCl.out hk0] at h3
              exact h3
            have HCb : Hid (∀ w', Calls Tryz.prog 19 #[.int .i64 (an : Int)] w' fun e w'' => e = .returned (.int .i64 (cls an)) ∧ Below w'.heap.size w' w'') := fun w' => by
              have h3 := class_any (an : Int) w' (by omega)
              rwa [clsI_nat] at h3
            subst hk0
            clear HCl
            generalize cls an = ca at *
            go_wp2_with (first
              | (go_at_call 11; go_must (refine HSm.out.mono ?_; rintro r w7 ⟨rfl, hb7⟩; have hx7 := HX6.out.below hb7))
              | (go_at_call 14; go_must (refine (HCa.out w7 hx7).mono ?_; rintro r w8 ⟨rfl, hb8⟩))
              | (go_at_call 19; go_must (refine (HCb.out w8).mono ?_; rintro r w9 ⟨rfl, hb9⟩))
              | (go_at_call 7; go_must (refine (HAl.out w9).mono ?_; rintro r w10 ⟨rfl, hb10⟩)))
            go_ret
            exact ⟨rfl, bnext (bnext (bnext (bnext HB6.out hb7) hb8) hb9) hb10⟩
          · have hk0' : (kx != 0) = true := by simp [hk0]
            clear HCl
            go_wp2_with (first
              | (go_at_call 11; go_must (refine HSm.out.mono ?_; rintro r w7 ⟨rfl, hb7⟩))
              | (go_at_call 7; go_must (refine (HAl.out w7).mono ?_; rintro r w10 ⟨rfl, hb10⟩)))
            go_ret
            exact ⟨rfl, bnext (bnext HB6.out hb7) hb10⟩
        · rw [decide_eq_false hak] at HAk2
          go_enter Tryz.func5, Tryz.ntmps5
          go_wp2_with (first
            | (go_at_call 18; go_must (refine HAk2.out.mono ?_; rintro r w2 ⟨rfl, hb2⟩))
            | (go_at_call 7; go_must (refine (HAl.out w2).mono ?_; rintro r w3 ⟨rfl, hb3⟩)))
          go_ret
          exact ⟨rfl, bnext hb2 hb3⟩
      · have hb15' : (1500 : Int) < (bn : Int) := by omega
        go_enter Tryz.func5, Tryz.ntmps5
        go_wp2_with (go_at_call 7; go_must (refine (HAl.out w).mono ?_; rintro r w2 ⟨rfl, hb2⟩))
        go_ret
        exact ⟨rfl, hb2⟩
    · have ha15' : (1500 : Int) < (an : Int) := by omega
      go_enter Tryz.func5, Tryz.ntmps5
      go_wp2_with (go_at_call 7; go_must (refine (HAl.out w).mono ?_; rintro r w2 ⟨rfl, hb2⟩))
      go_ret
      exact ⟨rfl, hb2⟩
  · have h50' : (50 : Int) < (dn : Int) := by omega
    go_enter Tryz.func5, Tryz.ntmps5
    go_wp2_with (go_at_call 7; go_must (refine (HAl.out w).mono ?_; rintro r w2 ⟨rfl, hb2⟩))
    go_ret
    exact ⟨rfl, hb2⟩
end Go.Proofs.YtjbpfhnagiacmaaGreat
