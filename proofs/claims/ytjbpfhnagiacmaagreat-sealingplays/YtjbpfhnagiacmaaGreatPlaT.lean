/-
  SealingPlays, the walk.
-/
import Derived.Test.YtjbpfhnagiacmaaGreatPlaS
namespace Go.Proofs.YtjbpfhnagiacmaaGreat
set_option linter.unusedVariables false
set_option linter.unusedSimpArgs false
set_option synthInstance.maxSize 20000
set_option maxHeartbeats 2000000
set_option maxRecDepth 20000
open Go.RowKit Go.Maps

/-- What the law has in memory behind its own store. -/
structure PyS (W1 w wx : World) (p : Rp) (S : St) (R : Rn) (eb : Nat) (ew ei ep et eu en eg : Int) (v : Value) (bl : List Int) : Prop where
  blk : Blk wx p.wb 42 (rcs p)
  eB : Blk wx eb 30 [.int .i64 ew, .int .i64 ei, .int .u64 ep, .int .i64 et, .int .i64 eu, .int .i64 en, v, .int .u64 eg]
  prog : ∃ o, OrcAt wx o p.ob S ∧ RIs wx o 10 p.ra p.ob R.A ∧ RRIs wx o 20 p.rb R.B
  ref : ∃ w0 o, ROrc w0 wx o p.rr S
  body : Rd wx v bl
  bel : Below w.heap.size w wx
theorem PyS.below {W1 w wx w' : World} {p : Rp} {S : St} {R : Rn} {eb : Nat} {ew ei ep et eu en eg : Int} {v : Value} {bl : List Int} (h : PyS W1 w wx p S R eb ew ei ep et eu en eg v bl) (hb : Below wx.heap.size wx w') : PyS W1 w w' p S R eb ew ei ep et eu en eg v bl := by
  obtain ⟨o, h1, h2, h3⟩ := h.prog
  obtain ⟨w0, o2, h4⟩ := h.ref
  have m := Mv.of_below (I := []) (o := o) 0 hb
  exact ⟨h.blk.below hb, h.eB.below hb, ⟨_, h1.mv m (by simp), h2.mv m (by simp) (by simp), h3.mv m (by simp) (by simp)⟩, ⟨w0, _, h4.below hb⟩, h.body.below hb, bnext h.bel hb⟩
theorem mv_putE {w w' : World} {o : Nat → Nat} {b j : Nat} (h : w.grownBy w' (some b)) (ho : o b = j) : Mv [j] w o w' (newTo o w 0) := Mv.of_turn 0 (turn_grown h) (fun k hk _ => by
  simp at hk
  subst hk
  rw [ho]; simp)
set_option maxHeartbeats 8000000 in
theorem plays3 (dv : Value) (ds : List Int) (many x y n : Int) (ttv : Value) (tl : List Int) (E : Ent) (xv : Value) (own : Bool) (w : World) (hd : RdU w dv ds) (hm : I64 many) (hp : I64 x ∧ I64 y ∧ I64 n) (ht : Rd w ttv tl) (htb : ∀ k, ttv.ownBlock = some k → k < w.heap.size) (he : EeOk E) (hx : Rd w xv E.b) : Calls Tryz.prog 3 #[dv, .int .i64 many, .agg #[.int .i64 x, .int .i64 y, .int .i64 n], ttv, ev E xv, .bool own] w fun r w' => r = .returned (.bool true) ∧ Below w.heap.size w w' := by
  have HAl : Hid (∀ w', Calls Tryz.prog 7 #[] w' fun r w'' => r = .returned (.bool true) ∧ Below w'.heap.size w' w'') := fun w' => alive7 w'
  have htcap : tl.length ≤ 9223372036854775807 := by obtain ⟨a, cap, rfl⟩ := ht.len; have := ht.cap; omega
  have hxcap : E.b.length ≤ 9223372036854775807 := by obtain ⟨a, cap, rfl⟩ := hx.len; have := hx.cap; omega
  obtain ⟨ew, ei, ep, et, eu, en, el, eg⟩ := E
  unfold ev
  dsimp only at hx hxcap he ⊢
  have HRt : Hid (∀ w', Below w.heap.size w w' → Rd w' ttv tl) := fun w' h => ht.below h
  have HRx : Hid (∀ w', Below w.heap.size w w' → Rd w' xv el) := fun w' h => hx.below h
  have HTb : Hid (∀ k, ttv.ownBlock = some k → k < w.heap.size) := htb
  have HOt : Hid (Oct tl) := ht.oct
  have HDs : Hid (∀ d ∈ ds, U64 d) := hd.1
  have HRd : Hid (∀ w', Below w.heap.size w w' → RdU w' dv ds) := fun w' h => hd.block (fun k _ hk => h.block k hk)
  obtain ⟨_, da, dc, rfl, hdc, hdm, _⟩ := hd
  have hdm' : dc ≤ 9223372036854775807 := hdm
  obtain ⟨ta, tc, rfl⟩ := ht.len
  obtain ⟨xa, xc, rfl⟩ := hx.len
  obtain ⟨dn, hdn⟩ : ∃ dn, dn = ds.length := ⟨_, rfl⟩
  obtain ⟨tn, htn⟩ : ∃ tn, tn = tl.length := ⟨_, rfl⟩
  obtain ⟨xn, hxn⟩ : ∃ xn, xn = el.length := ⟨_, rfl⟩
  have HDn : Hid (dn = ds.length) := hdn
  have HTn : Hid (tn = tl.length) := htn
  have HXn : Hid (xn = el.length) := hxn
  rw [← hdn] at HRd hdc ⊢
  rw [← htn] at HRt HTb htcap ⊢
  rw [← hxn] at HRx hxcap ⊢
  obtain ⟨W1, hW1⟩ : ∃ W1, W1 = (w.alloc (.cells #[.int .i64 x, .int .i64 y, .int .i64 n] 24)).alloc (.cells #[.int .i64 ew, .int .i64 ei, .int .u64 ep, .int .i64 et, .int .i64 eu, .int .i64 en, .slice xa xn xc, .int .u64 eg] 30) := ⟨_, rfl⟩
  have HB1 : Hid (Below w.heap.size w W1) := by show Below _ _ _; rw [hW1]; exact balloc (balloc (Below.refl _ _) _) _
  have hP1 : Blk W1 w.heap.size 24 [.int .i64 x, .int .i64 y, .int .i64 n] := by rw [hW1]; exact (blk_new w [.int .i64 x, .int .i64 y, .int .i64 n] 24).below (balloc (Below.refl _ _) _)
  have hE1 : Blk W1 (w.heap.size + 1) 30 [.int .i64 ew, .int .i64 ei, .int .u64 ep, .int .i64 et, .int .i64 eu, .int .i64 en, .slice xa xn xc, .int .u64 eg] := by
    rw [hW1]
    have h1 := blk_new (w.alloc (.cells #[.int .i64 x, .int .i64 y, .int .i64 n] 24)) [.int .i64 ew, .int .i64 ei, .int .u64 ep, .int .i64 et, .int .i64 eu, .int .i64 en, .slice xa xn xc, .int .u64 eg] 30
    rwa [show (w.alloc (.cells #[.int .i64 x, .int .i64 y, .int .i64 n] 24)).heap.size = w.heap.size + 1 by simp] at h1
  have e6 := hE1.cell 6 _ rfl
  clear ht hx hdn htn hxn htb he
  go_enter Tryz.func3, Tryz.ntmps3
  go_upto_region 1 with fail
  rw [← hW1]
  obtain ⟨pb, hpb⟩ : ∃ pb, pb = w.heap.size := ⟨_, rfl⟩
  obtain ⟨eb, heb⟩ : ∃ eb, eb = w.heap.size + 1 := ⟨_, rfl⟩
  rw [← hpb] at hP1 ⊢
  rw [← heb] at hE1 e6
  rw [show pb + 1 = eb by rw [hpb, heb]]
  have HP1 : Hid (Blk W1 pb 24 [.int .i64 x, .int .i64 y, .int .i64 n]) := hP1
  have HE1 : Hid (Blk W1 eb 30 [.int .i64 ew, .int .i64 ei, .int .u64 ep, .int .i64 et, .int .i64 eu, .int .i64 en, .slice xa xn xc, .int .u64 eg] ∧ w.heap.size ≤ eb) := ⟨hE1, by omega⟩
  clear hW1 hP1 hE1 hpb heb
  by_cases h50 : dn ≤ 50
  · by_cases hm0 : 0 ≤ many
    · by_cases hm4 : many ≤ 4
      · by_cases ht15 : tn ≤ 1500
        · by_cases hx15 : xn ≤ 1500
          · obtain ⟨N, hN⟩ : ∃ N : Nat, many = N := ⟨many.toNat, by omega⟩
            subst hN
            have h00 : Ora ⟨ds, []⟩ 0 := ora00 HDs.out
            have hN4 : N ≤ 4 := by omega
            obtain ⟨K, O, hRI⟩ := rnK_ok h00 N (by omega)
            have HNw' := newRoom8 (HRd.out W1 HB1.out) (by have := HDn.out; omega) N (by omega)
            obtain ⟨R, hR⟩ : ∃ R, R = rnK ⟨ds, []⟩ N := ⟨_, rfl⟩
            rw [← hR] at hRI
            have hora : Ora R.S 20 := hRI.ora.le (by omega)
            have hkn := hRI.keyN n
            have hrk : R.B.ks = R.A.ks := hRI.rel.ks.symm
            obtain ⟨S2, hS2⟩ : ∃ S2, S2 = (sealM R.S (keyM R.A.ks n) x y n tl).2 := ⟨_, rfl⟩
            obtain ⟨zs, hzs⟩ : ∃ zs, zs = (sealM R.S (keyM R.A.ks n) x y n tl).1.1 := ⟨_, rfl⟩
            obtain ⟨ki, hki⟩ : ∃ ki, ki = (sealM R.S (keyM R.A.ks n) x y n tl).1.2 := ⟨_, rfl⟩
            have HO2 : Hid (Ora S2 100) := (by rw [hS2]; exact (sealM_ora hora (by omega) hkn.2 x y n HOt.out (by have := HTn.out; omega)).le (by omega))
            have HRk : Hid (R.B.ks = R.A.ks) := hrk
            have HNw : Hid (Calls Tryz.prog 8 #[.slice da dn dc, .int .i64 (N : Int)] W1 fun r w' => ∃ p o sv tv, r = .returned (ptr p.wb) ∧ RG W1 w' o p R.S R.S R.M R.M R.A R.X R.B sv tv) := (by
              refine HNw'.mono ?_
              rintro r w' ⟨p, o, sv, tv', rfl, hG⟩
              rw [← hR] at hG
              exact ⟨p, o, sv, tv', rfl, hG⟩)
            have HSa : Hid (∀ p sv tv w' o', RG W1 w' o' p R.S R.S R.M R.M R.A R.X R.B sv tv → Calls Tryz.prog 9 #[ptr p.ob, ptr p.ra, .int .i64 x, .int .i64 y, .int .i64 n, .slice ta tn tc] w' fun e w'' => ∃ v', e = .returned (.tuple #[v', .int .i64 ki]) ∧ ∃ o'', RG W1 w'' o'' p S2 R.S R.M R.M R.A R.X R.B sv tv ∧ Kp0 w'' o'' v' zs ∧ Mv [1] w' o' w'' o'') := fun p sv tv w' o' h => by
              have h3 := orc_seal9 h.orc h.a hora (by omega) (x := x) (y := y) (n := n) hkn.1 (HRt.out _ (bnext HB1.out h.bel)) (by have := HTn.out; omega)
              rw [← hS2, ← hzs, ← hki] at h3
              refine h3.mono ?_
              rintro e w'' ⟨v', rfl, o'', h4, h5, h6⟩
              exact ⟨v', rfl, o'', h.orcS h6 h4, h5, h6⟩
            have HSb : Hid (∀ p sv tv w' o', RG W1 w' o' p S2 R.S R.M R.M R.A R.X R.B sv tv → Calls Tryz.prog 10 #[ptr p.rr, ptr p.rb, .int .i64 x, .int .i64 y, .int .i64 n, .slice ta tn tc] w' fun e w'' => ∃ v', e = .returned (.tuple #[v', .int .i64 ki]) ∧ ∃ o'', RG W1 w'' o'' p S2 S2 R.M R.M R.A R.X R.B sv tv ∧ Kp0 w'' o'' v' zs ∧ Mv [8] w' o' w'' o'') := fun p sv tv w' o' h => by
              have h3 := orc_rseal10 h.rorc h.b hora (by omega) (x := x) (y := y) (n := n) (HRt.out _ (bnext HB1.out h.bel)) (fun k hk => by
                have h7 := Nat.lt_of_lt_of_le (HTb.out k hk) HB1.out.size
                exact ⟨Nat.lt_of_lt_of_le h7 h.bel.size, h.low k h7⟩) (by have := HTn.out; omega)
              rw [hrk, ← hS2, ← hzs, ← hki] at h3
              refine h3.mono ?_
              rintro e w'' ⟨v', rfl, o'', h4, h5, h6⟩
              exact ⟨v', rfl, o'', h.rorcS h6 h4, h5, h6⟩
            clear HNw' hR hRI hora hkn hrk hS2 hzs hki h00 HDs HRd HDn
            go_upto_region 6 with (first
              | (go_at_call 8; go_must (refine HNw.out.mono ?_; rintro r w2 ⟨p, o2, sv, tv, rfl, hG2⟩))
              | (go_at_call 7; go_must (refine (HAl.out w2).mono ?_; rintro r w3 ⟨rfl, hb3⟩)))
            have HG3 : Hid (RG W1 w3 (newTo o2 w2 0) p R.S R.S R.M R.M R.A R.X R.B sv tv) := (show RG _ _ _ _ _ _ _ _ _ _ _ _ _ from hG2.below hb3 0)
            generalize newTo o2 w2 0 = o3 at *
            clear hG2 hb3 HNw e6
            have ne9 : Nonempty (WIn (fun w' => Blk w' p.wb 42 (rcs p) ∧ Blk w' pb 24 [.int .i64 x, .int .i64 y, .int .i64 n])) := ⟨⟨w3, HG3.out.blk, HP1.out.below HG3.out.bel⟩⟩
            have z0 : ∀ z : WIn (fun w' => Blk w' p.wb 42 (rcs p) ∧ Blk w' pb 24 [.int .i64 x, .int .i64 y, .int .i64 n]), _ := fun z => z.ok.1.cell 0 _ rfl
            have z2 : ∀ z : WIn (fun w' => Blk w' p.wb 42 (rcs p) ∧ Blk w' pb 24 [.int .i64 x, .int .i64 y, .int .i64 n]), _ := fun z => z.ok.1.cell 2 _ rfl
            have y0 : ∀ z : WIn (fun w' => Blk w' p.wb 42 (rcs p) ∧ Blk w' pb 24 [.int .i64 x, .int .i64 y, .int .i64 n]), _ := fun z => z.ok.2.cell 0 _ rfl
            have y1 : ∀ z : WIn (fun w' => Blk w' p.wb 42 (rcs p) ∧ Blk w' pb 24 [.int .i64 x, .int .i64 y, .int .i64 n]), _ := fun z => z.ok.2.cell 1 _ rfl
            have y2 : ∀ z : WIn (fun w' => Blk w' p.wb 42 (rcs p) ∧ Blk w' pb 24 [.int .i64 x, .int .i64 y, .int .i64 n]), _ := fun z => z.ok.2.cell 2 _ rfl
            have HD : Hid (RG W1 w3.drew o3 p R.S R.S R.M R.M R.A R.X R.B sv tv) := HG3.out.mv (mv_drew [] _ _) (by simp)
            refine wp_region_ord (C := fun w' => ∃ z : WIn (fun w' => Blk w' p.wb 42 (rcs p) ∧ Blk w' pb 24 [.int .i64 x, .int .i64 y, .int .i64 n]), w' = z.w) [(false, 0), (false, 1), (false, 2), (false, 3), (false, 4), (false, 5), (false, 6), (false, 7), (false, 8), (false, 9), (false, 10), (false, 11), (false, 12), (false, 13), (false, 14), (true, 15), (false, 16), (false, 17), (false, 18), (false, 19), (false, 20)] (by kernel_rfl) (by kernel_rfl) ⟨⟨w3.drew, HD.out.blk, HP1.out.below HD.out.bel⟩, rfl⟩ ?_
            iterate 15 (refine ord_still rfl rfl ?_; go_big_quiet_step (exact rfl); refine wpQuiet_nil ?_)
            refine ord_mem rfl rfl ?_
            go_simp
            refine ((show Hid (∀ w' o', _ → Calls Tryz.prog 9 _ w' _) from fun w' o' h => HSa.out p sv tv w' o' h).out _ _ HD.out).mono ?_
            rintro r w5 ⟨v5, rfl, o5, hG5, hK5, hM5⟩
            obtain ⟨qa, qc, e5⟩ := hK5.1.len
            subst e5
            refine ⟨⟨⟨w5, hG5.blk, HP1.out.below hG5.bel⟩, rfl⟩, ?_⟩
            go_simp
            iterate 5 (refine ord_still rfl rfl ?_; go_big_quiet_step (exact rfl); refine wpQuiet_nil ?_)
            refine ord_end ?_
            obtain ⟨zn, hzn⟩ : ∃ zn, zn = zs.length := ⟨_, rfl⟩
            have HZn : Hid (zn = zs.length) := hzn
            rw [← hzn] at hK5 ⊢
            have HG5 : Hid (RG W1 w5 o5 p S2 R.S R.M R.M R.A R.X R.B sv tv) := hG5
            have HK5 : Hid (Kp0 w5 o5 (.slice qa zn qc) zs) := hK5
            clear hzn hG5 hK5 hM5 HD z0 z2 y0 y1 y2 ne9 HG3 HSa
            obtain ⟨w4, hw4⟩ : ∃ w4, w4 = w5 := ⟨_, rfl⟩
            obtain ⟨o4, ho4⟩ : ∃ o4, o4 = o5 := ⟨_, rfl⟩
            obtain ⟨ja, hja⟩ : ∃ ja, ja = qa := ⟨_, rfl⟩
            obtain ⟨jc, hjc⟩ : ∃ jc, jc = qc := ⟨_, rfl⟩
            rw [← hw4, ← ho4] at HG5 HK5
            rw [← hja, ← hjc] at HK5 ⊢
            rw [← hw4]
            clear hw4 ho4 hja hjc
            go_wp2
            have ne9 : Nonempty (WIn (fun w' => Blk w' p.wb 42 (rcs p) ∧ Blk w' pb 24 [.int .i64 x, .int .i64 y, .int .i64 n])) := ⟨⟨w4, HG5.out.blk, HP1.out.below HG5.out.bel⟩⟩
            have z0 : ∀ z : WIn (fun w' => Blk w' p.wb 42 (rcs p) ∧ Blk w' pb 24 [.int .i64 x, .int .i64 y, .int .i64 n]), _ := fun z => z.ok.1.cell 1 _ rfl
            have z2 : ∀ z : WIn (fun w' => Blk w' p.wb 42 (rcs p) ∧ Blk w' pb 24 [.int .i64 x, .int .i64 y, .int .i64 n]), _ := fun z => z.ok.1.cell 4 _ rfl
            have y0 : ∀ z : WIn (fun w' => Blk w' p.wb 42 (rcs p) ∧ Blk w' pb 24 [.int .i64 x, .int .i64 y, .int .i64 n]), _ := fun z => z.ok.2.cell 0 _ rfl
            have y1 : ∀ z : WIn (fun w' => Blk w' p.wb 42 (rcs p) ∧ Blk w' pb 24 [.int .i64 x, .int .i64 y, .int .i64 n]), _ := fun z => z.ok.2.cell 1 _ rfl
            have y2 : ∀ z : WIn (fun w' => Blk w' p.wb 42 (rcs p) ∧ Blk w' pb 24 [.int .i64 x, .int .i64 y, .int .i64 n]), _ := fun z => z.ok.2.cell 2 _ rfl
            have HD : Hid (RG W1 w4.drew o4 p S2 R.S R.M R.M R.A R.X R.B sv tv) := HG5.out.mv (mv_drew [] _ _) (by simp)
            refine wp_region_ord (C := fun w' => ∃ z : WIn (fun w' => Blk w' p.wb 42 (rcs p) ∧ Blk w' pb 24 [.int .i64 x, .int .i64 y, .int .i64 n]), w' = z.w) [(false, 0), (false, 1), (false, 2), (false, 3), (false, 4), (false, 5), (false, 6), (false, 7), (false, 8), (false, 9), (false, 10), (false, 11), (false, 12), (false, 13), (false, 14), (true, 15), (false, 16), (false, 17), (false, 18), (false, 19), (false, 20)] (by kernel_rfl) (by kernel_rfl) ⟨⟨w4.drew, HD.out.blk, HP1.out.below HD.out.bel⟩, rfl⟩ ?_
            iterate 15 (refine ord_still rfl rfl ?_; go_big_quiet_step (exact rfl); refine wpQuiet_nil ?_)
            refine ord_mem rfl rfl ?_
            go_simp
            refine ((show Hid (∀ w' o', _ → Calls Tryz.prog 10 _ w' _) from fun w' o' h => HSb.out p sv tv w' o' h).out _ _ HD.out).mono ?_
            rintro r w5 ⟨v5, rfl, o5, hG5, hK5, hM5⟩
            obtain ⟨qa, qc, e5⟩ := hK5.1.len
            subst e5
            refine ⟨⟨⟨w5, hG5.blk, HP1.out.below hG5.bel⟩, rfl⟩, ?_⟩
            go_simp
            iterate 5 (refine ord_still rfl rfl ?_; go_big_quiet_step (exact rfl); refine wpQuiet_nil ?_)
            refine ord_end ?_
            have hK4 := (HK5.out.mv (mv_drew [] _ _) (by simp)).mv hM5 (by decide)
            rw [← HZn.out] at hK5 ⊢
            have HG6 : Hid (RG W1 w5 o5 p S2 S2 R.M R.M R.A R.X R.B sv tv) := hG5
            have HK6 : Hid (Kp0 w5 o5 (.slice ja zn jc) zs ∧ Kp0 w5 o5 (.slice qa zn qc) zs) := ⟨hK4, hK5⟩
            clear hG5 hK5 hK4 hM5 HD z0 z2 y0 y1 y2 ne9 HG5 HSb HK5
            have HSm : Hid (Calls Tryz.prog 11 #[.slice ja zn jc, .slice qa zn qc] w5 fun e w' => e = .returned (.bool true) ∧ Below w5.heap.size w5 w') := (by
              have h := same_any (.slice ja zn jc) (.slice qa zn qc) zs zs w5 HK6.out.1.1 HK6.out.2.1
              rw [decide_eq_true rfl] at h
              exact h)
            have hkk : (ki != ki) = false := by simp
            go_upto_region 10 with (go_at_call 11; go_must (refine HSm.out.mono ?_; rintro r w6 ⟨rfl, hb6⟩))
            have HG7 : Hid (RG W1 w6 (newTo o5 w5 0) p S2 S2 R.M R.M R.A R.X R.B sv tv) := (show RG _ _ _ _ _ _ _ _ _ _ _ _ _ from HG6.out.below hb6 0)
            have HK7 : Hid (Kp0 w6 (newTo o5 w5 0) (.slice ja zn jc) zs) := HK6.out.1.mv (Mv.of_below (I := []) 0 hb6) (by simp)
            have HE7 : Hid (Blk w6 eb 30 [.int .i64 ew, .int .i64 ei, .int .u64 ep, .int .i64 et, .int .i64 eu, .int .i64 en, .slice xa xn xc, .int .u64 eg]) := HE1.out.1.below HG7.out.bel
            generalize newTo o5 w5 0 = o6 at *
            clear hb6 HSm HG6 HK6 hkk
            go_upto_if 101 with fail
            go_cut [102] (fun _ wx => ∃ (va : Option Addr) (vn vc : Nat) (bl : List Int), Hid (PyS W1 w wx p S2 R eb ew ei ep et eu en eg (.slice va vn vc) bl))
            case first =>
              cases own with
              | false =>
                go_wp2
                go_meet
                exact ⟨xa, xn, xc, el, HG7.out.blk, HE7.out, ⟨o6, HG7.out.orc, HG7.out.a, HG7.out.b⟩, ⟨W1, o6, HG7.out.rorc⟩, HRx.out _ (bnext HB1.out HG7.out.bel), bnext HB1.out HG7.out.bel⟩
              | true =>
                have f6 := HE7.out.cell 6 _ rfl; have f7 := HE7.out.frozen 6
                go_wp2
                have h0 : o6 eb = 0 := HG7.out.low eb HE1.out.1.lt
                have hno : ∀ (i : Nat) (x : Int), [.int .i64 ew, .int .i64 ei, .int .u64 ep, .int .i64 et, .int .i64 eu, .int .i64 en, .slice xa xn xc, .int .u64 eg][i]? ≠ some (Value.int .u8 x) := fun i x => by
                  rcases i with _ | _ | _ | _ | _ | _ | _ | _ | i <;> simp
                have g := grown_setCell w6 eb 6 (.slice ja zn jc)
                have m9 := mv_putE g (show ownE eb o6 eb = 30 from ownE_at)
                go_meet
                exact ⟨ja, zn, jc, zs, HG7.out.blk.block (g.block _ HG7.out.blk.lt (fun e => by
                    have h1 := HG7.out.own
                    rw [Option.some.inj e, h0] at h1
                    exact absurd h1 (by decide))), HE7.out.set 6 _, ⟨_, (HG7.out.orc.ownE (by rw [h0]; decide)).mv m9 (by decide), (HG7.out.a.ownE (by rw [h0]; decide) HE7.out hno).mv m9 (by decide) (by decide), (HG7.out.b.ownE (by rw [h0]; decide) HE7.out hno).mv m9 (by decide) (by decide)⟩,
                  ⟨_, o6, HG7.out.rorc.swap HE1.out.1.lt (HE1.out.1.cell 6 _ rfl)⟩, Rd.pastE HK7.out.1 HE7.out hno g, (bnext HB1.out HG7.out.bel).setCell HE1.out.2 _⟩
            case rest =>
            obtain ⟨va, vn, vc, bl, HY0⟩ := hcut
            obtain ⟨W7, hW7⟩ : ∃ W7, W7 = wc := ⟨_, rfl⟩
            subst hW7
            obtain ⟨W8, hW8⟩ : ∃ W8, W8 = W7 := ⟨_, rfl⟩
            rw [← hW8] at HY0
            rw [← hW8]
            clear HG7 HK7 HE7 hW8
            have HY : Hid (PyS W1 w W8 p S2 R eb ew ei ep et eu en eg (.slice va vn vc) bl) := HY0
            obtain ⟨qs, hqs⟩ : ∃ qs, qs = (openM S2 (keyM R.A.ks en) ⟨ew, ei, ep, et, eu, en, bl, eg⟩).1 := ⟨_, rfl⟩
            obtain ⟨qk, hqk⟩ : ∃ qk, qk = (openM S2 (keyM R.A.ks en) ⟨ew, ei, ep, et, eu, en, bl, eg⟩).2 := ⟨_, rfl⟩
            have HOa : Hid (∀ w', PyS W1 w w' p S2 R eb ew ei ep et eu en eg (.slice va vn vc) bl → Calls Tryz.prog 12 #[ptr p.ob, ptr p.ra, .agg #[.int .i64 ew, .int .i64 ei, .int .u64 ep, .int .i64 et, .int .i64 eu, .int .i64 en, .slice va vn vc, .int .u64 eg]] w' fun z w'' => ∃ v', z = .returned (.tuple #[v', .int .i64 qk]) ∧ Rd w'' v' qs ∧ Below w'.heap.size w' w'') := fun w' h => by
              obtain ⟨o', h1, h2, _⟩ := h.prog
              have h3 := orc_open12 h1 h2 HO2.out (e := ⟨ew, ei, ep, et, eu, en, bl, eg⟩) h.body
              unfold ev at h3
              dsimp only at h3
              rw [← hqs, ← hqk] at h3
              exact h3
            have HOb : Hid (∀ w', PyS W1 w w' p S2 R eb ew ei ep et eu en eg (.slice va vn vc) bl → Calls Tryz.prog 13 #[ptr p.rr, ptr p.rb, .agg #[.int .i64 ew, .int .i64 ei, .int .u64 ep, .int .i64 et, .int .i64 eu, .int .i64 en, .slice va vn vc, .int .u64 eg]] w' fun z w'' => ∃ v', z = .returned (.tuple #[v', .int .i64 qk]) ∧ Rd w'' v' qs ∧ Below w'.heap.size w' w'') := fun w' h => by
              obtain ⟨o', _, _, h2⟩ := h.prog
              obtain ⟨w9, o9, h1⟩ := h.ref
              have h3 := orc_ropen13o h1 h2 (e := ⟨ew, ei, ep, et, eu, en, bl, eg⟩) h.body
              unfold ev at h3
              dsimp only at h3
              rw [HRk.out, ← hqs, ← hqk] at h3
              exact h3
            clear hqs hqk HY0
            go_upto_region 12 with fail
            have ne9 : Nonempty (WIn (fun w' => Below W8.heap.size W8 w')) := ⟨⟨W8, Below.refl _ _⟩⟩
            have hcl : ∀ (z : WIn (fun w' => Below W8.heap.size W8 w')) p v, W8.cell? p = some v → z.w.cell? p = some v := fun z p v hp => (z.ok.cell (World.block_lt_of_cell? W8 _ hp)).trans hp
            have r0 := HY.out.blk.cell 0 _ rfl; have r2 := HY.out.blk.cell 2 _ rfl
            have t0 := HY.out.eB.cell 0 _ rfl; have t1 := HY.out.eB.cell 1 _ rfl; have t2 := HY.out.eB.cell 2 _ rfl; have t3 := HY.out.eB.cell 3 _ rfl; have t4 := HY.out.eB.cell 4 _ rfl; have t5 := HY.out.eB.cell 5 _ rfl; have t6 := HY.out.eB.cell 6 _ rfl; have t7 := HY.out.eB.cell 7 _ rfl
            have y0 := fun z => hcl z _ _ r0; have y2 := fun z => hcl z _ _ r2; have u0 := fun z => hcl z _ _ t0; have u1 := fun z => hcl z _ _ t1; have u2 := fun z => hcl z _ _ t2; have u3 := fun z => hcl z _ _ t3; have u4 := fun z => hcl z _ _ t4; have u5 := fun z => hcl z _ _ t5; have u6 := fun z => hcl z _ _ t6; have u7 := fun z => hcl z _ _ t7
            have HD : Hid (Below W8.heap.size W8 W8.drew) := (show Below _ _ _ from (Below.refl _ _).drew)
            clear hcl r0 r2 t0 t1 t2 t3 t4 t5 t6 t7
            refine wp_region_ord (C := fun w' => ∃ z : WIn (fun w' => Below W8.heap.size W8 w'), w' = z.w) [(false, 0), (false, 1), (false, 2), (false, 3), (false, 4), (false, 5), (false, 6), (false, 7), (false, 8), (true, 9), (false, 10), (false, 11), (false, 12), (false, 13), (false, 14)] (by kernel_rfl) (by kernel_rfl) ⟨⟨W8.drew, HD.out⟩, rfl⟩ ?_
            iterate 9 (refine ord_still rfl rfl ?_; go_big_quiet_step (exact rfl); refine wpQuiet_nil ?_)
            refine ord_mem rfl rfl ?_
            go_simp
            refine (HOa.out _ (HY.out.below HD.out)).mono ?_
            rintro r w12 ⟨v12, rfl, hv12, hb12⟩
            have HB12 : Hid (Below W8.heap.size W8 w12) := (show Below _ _ _ from bnext HD.out hb12)
            refine ⟨⟨⟨w12, HB12.out⟩, rfl⟩, ?_⟩
            go_simp
            iterate 5 (refine ord_still rfl rfl ?_; go_big_quiet_step (exact rfl); refine wpQuiet_nil ?_)
            refine ord_end ?_
            have HY12 : Hid (PyS W1 w w12 p S2 R eb ew ei ep et eu en eg (.slice va vn vc) bl) := (show PyS _ _ _ _ _ _ _ _ _ _ _ _ _ _ _ _ from HY.out.below HB12.out)
            clear HD ne9 y0 y2 u0 u1 u2 u3 u4 u5 u6 u7 hb12
            obtain ⟨aa, ac, e12⟩ := hv12.len
            subst e12
            obtain ⟨an, han⟩ : ∃ an, an = qs.length := ⟨_, rfl⟩
            have HAn : Hid (an = qs.length) := han
            rw [← han] at hv12 ⊢
            have HV12 : Hid (Rd w12 (.slice aa an ac) qs) := hv12
            clear han hv12 HB12 HY
            have HY : Hid (PyS W1 w w12 p S2 R eb ew ei ep et eu en eg (.slice va vn vc) bl) := HY12.out
            clear HY12
            go_wp2
            have ne9 : Nonempty (WIn (fun w' => Below w12.heap.size w12 w')) := ⟨⟨w12, Below.refl _ _⟩⟩
            have hcl : ∀ (z : WIn (fun w' => Below w12.heap.size w12 w')) p v, w12.cell? p = some v → z.w.cell? p = some v := fun z p v hp => (z.ok.cell (World.block_lt_of_cell? w12 _ hp)).trans hp
            have r0 := HY.out.blk.cell 1 _ rfl; have r2 := HY.out.blk.cell 4 _ rfl
            have t0 := HY.out.eB.cell 0 _ rfl; have t1 := HY.out.eB.cell 1 _ rfl; have t2 := HY.out.eB.cell 2 _ rfl; have t3 := HY.out.eB.cell 3 _ rfl; have t4 := HY.out.eB.cell 4 _ rfl; have t5 := HY.out.eB.cell 5 _ rfl; have t6 := HY.out.eB.cell 6 _ rfl; have t7 := HY.out.eB.cell 7 _ rfl
            have y0 := fun z => hcl z _ _ r0; have y2 := fun z => hcl z _ _ r2; have u0 := fun z => hcl z _ _ t0; have u1 := fun z => hcl z _ _ t1; have u2 := fun z => hcl z _ _ t2; have u3 := fun z => hcl z _ _ t3; have u4 := fun z => hcl z _ _ t4; have u5 := fun z => hcl z _ _ t5; have u6 := fun z => hcl z _ _ t6; have u7 := fun z => hcl z _ _ t7
            have HD : Hid (Below w12.heap.size w12 w12.drew) := (show Below _ _ _ from (Below.refl _ _).drew)
            clear hcl r0 r2 t0 t1 t2 t3 t4 t5 t6 t7
            refine wp_region_ord (C := fun w' => ∃ z : WIn (fun w' => Below w12.heap.size w12 w'), w' = z.w) [(false, 0), (false, 1), (false, 2), (false, 3), (false, 4), (false, 5), (false, 6), (false, 7), (false, 8), (true, 9), (false, 10), (false, 11), (false, 12), (false, 13), (false, 14)] (by kernel_rfl) (by kernel_rfl) ⟨⟨w12.drew, HD.out⟩, rfl⟩ ?_
            iterate 9 (refine ord_still rfl rfl ?_; go_big_quiet_step (exact rfl); refine wpQuiet_nil ?_)
            refine ord_mem rfl rfl ?_
            go_simp
            refine (HOb.out _ (HY.out.below HD.out)).mono ?_
            rintro r w13 ⟨v13, rfl, hv13, hb13⟩
            have HB13 : Hid (Below w12.heap.size w12 w13) := (show Below _ _ _ from bnext HD.out hb13)
            refine ⟨⟨⟨w13, HB13.out⟩, rfl⟩, ?_⟩
            go_simp
            iterate 5 (refine ord_still rfl rfl ?_; go_big_quiet_step (exact rfl); refine wpQuiet_nil ?_)
            refine ord_end ?_
            have HY13 : Hid (PyS W1 w w13 p S2 R eb ew ei ep et eu en eg (.slice va vn vc) bl) := (show PyS _ _ _ _ _ _ _ _ _ _ _ _ _ _ _ _ from HY.out.below HB13.out)
            clear HD ne9 y0 y2 u0 u1 u2 u3 u4 u5 u6 u7 hb13
            obtain ⟨ba, bc, e13⟩ := hv13.len
            subst e13
            rw [← HAn.out] at hv13 ⊢
            have HV13 : Hid (Rd w13 (.slice ba an bc) qs ∧ Rd w13 (.slice aa an ac) qs) := ⟨hv13, HV12.out.below HB13.out⟩
            clear hv13 HB13 HY HV12
            have HSn : Hid (∀ w', Below w13.heap.size w13 w' → Calls Tryz.prog 11 #[.slice aa an ac, .slice ba an bc] w' fun e w'' => e = .returned (.bool true) ∧ Below w'.heap.size w' w'') := fun w' hb => by
              have h := same_any (.slice aa an ac) (.slice ba an bc) qs qs w' (HV13.out.2.below hb) (HV13.out.1.below hb)
              rw [decide_eq_true rfl] at h
              exact h
            have HCa : Hid (∀ w', Below w13.heap.size w13 w' → Calls Tryz.prog 14 #[.agg #[.int .i64 ew, .int .i64 ei, .int .u64 ep, .int .i64 et, .int .i64 eu, .int .i64 en, .slice va vn vc, .int .u64 eg]] w' fun z w'' => z = .returned (.int .i64 (classE bl.length)) ∧ Below w'.heap.size w' w'') := fun w' hb => by
              have h3 := class14 (e := ⟨ew, ei, ep, et, eu, en, bl, eg⟩) (HY13.out.body.below hb)
              exact h3
            have HCb : Hid (∀ w', Below w13.heap.size w13 w' → Calls Tryz.prog 15 #[.agg #[.int .i64 ew, .int .i64 ei, .int .u64 ep, .int .i64 et, .int .i64 eu, .int .i64 en, .slice va vn vc, .int .u64 eg]] w' fun z w'' => z = .returned (.int .i64 (classE bl.length)) ∧ Below w'.heap.size w' w'') := fun w' hb => by
              have h3 := rclass15 (e := ⟨ew, ei, ep, et, eu, en, bl, eg⟩) (HY13.out.body.below hb)
              exact h3
            have HMo : Hid (∀ w', Calls Tryz.prog 16 #[] w' fun r w'' => r = .returned (.int .i64 1022) ∧ Below w'.heap.size w' w'') := fun w' => most16 w'
            have HRo : Hid (∀ w', Calls Tryz.prog 17 #[.int .i64 6] w' fun r w'' => r = .returned (.int .i64 1022) ∧ Below w'.heap.size w' w'') := fun w' => rroom17 w'
            have hqq : (qk == qk) = true := by simp
            generalize classE bl.length = cl at *
            have hcc : (cl == cl) = true := by simp
            go_wp2
            have ne9 : Nonempty (WIn (fun w' => Below w13.heap.size w13 w')) := ⟨⟨w13, Below.refl _ _⟩⟩
            have hcl : ∀ (z : WIn (fun w' => Below w13.heap.size w13 w')) p v, w13.cell? p = some v → z.w.cell? p = some v := fun z p v hp => (z.ok.cell (World.block_lt_of_cell? w13 _ hp)).trans hp
            have t0 := HY13.out.eB.cell 0 _ rfl; have t1 := HY13.out.eB.cell 1 _ rfl; have t2 := HY13.out.eB.cell 2 _ rfl; have t3 := HY13.out.eB.cell 3 _ rfl; have t4 := HY13.out.eB.cell 4 _ rfl; have t5 := HY13.out.eB.cell 5 _ rfl; have t6 := HY13.out.eB.cell 6 _ rfl; have t7 := HY13.out.eB.cell 7 _ rfl
            have u0 := fun z => hcl z _ _ t0; have u1 := fun z => hcl z _ _ t1; have u2 := fun z => hcl z _ _ t2; have u3 := fun z => hcl z _ _ t3; have u4 := fun z => hcl z _ _ t4; have u5 := fun z => hcl z _ _ t5; have u6 := fun z => hcl z _ _ t6; have u7 := fun z => hcl z _ _ t7
            have HD : Hid (Below w13.heap.size w13 w13.drew) := (show Below _ _ _ from (Below.refl _ _).drew)
            clear hcl t0 t1 t2 t3 t4 t5 t6 t7
            refine wp_region_ord (C := fun w' => ∃ z : WIn (fun w' => Below w13.heap.size w13 w'), w' = z.w) [(false, 0), (false, 1), (true, 2), (false, 3), (false, 4), (false, 5), (false, 6), (false, 7), (false, 8), (false, 9), (false, 11), (true, 10), (true, 12), (false, 13), (false, 14), (false, 15), (true, 16), (true, 17), (false, 18), (false, 19), (false, 20)] (by kernel_rfl) (by kernel_rfl) ⟨⟨w13.drew, HD.out⟩, rfl⟩ ?_
            iterate 2 (refine ord_still rfl rfl ?_; go_big_quiet_step (exact rfl); refine wpQuiet_nil ?_)
            refine ord_mem rfl rfl ?_
            go_simp
            refine (HSn.out _ HD.out).mono ?_
            rintro r w14 ⟨rfl, hb14⟩
            have HB14 : Hid (Below w13.heap.size w13 w14) := (show Below _ _ _ from bnext HD.out hb14)
            refine ⟨⟨⟨w14, HB14.out⟩, rfl⟩, ?_⟩
            go_simp
            iterate 8 (refine ord_still rfl rfl ?_; go_big_quiet_step (exact rfl); refine wpQuiet_nil ?_)
            refine ord_mem rfl rfl ?_
            go_simp
            refine (HCa.out _ HB14.out).mono ?_
            rintro r w15 ⟨rfl, hb15⟩
            have HB15 : Hid (Below w13.heap.size w13 w15) := (show Below _ _ _ from bnext HB14.out hb15)
            refine ⟨⟨⟨w15, HB15.out⟩, rfl⟩, ?_⟩
            go_simp
            refine ord_mem rfl rfl ?_
            go_simp
            refine (HCb.out _ HB15.out).mono ?_
            rintro r w16 ⟨rfl, hb16⟩
            have HB16 : Hid (Below w13.heap.size w13 w16) := (show Below _ _ _ from bnext HB15.out hb16)
            refine ⟨⟨⟨w16, HB16.out⟩, rfl⟩, ?_⟩
            go_simp
            iterate 3 (refine ord_still rfl rfl ?_; go_big_quiet_step (exact rfl); refine wpQuiet_nil ?_)
            refine ord_mem rfl rfl ?_
            go_simp
            refine (HMo.out w16).mono ?_
            rintro r w17 ⟨rfl, hb17⟩
            have HB17 : Hid (Below w13.heap.size w13 w17) := (show Below _ _ _ from bnext HB16.out hb17)
            refine ⟨⟨⟨w17, HB17.out⟩, rfl⟩, ?_⟩
            go_simp
            refine ord_mem rfl rfl ?_
            go_simp
            refine (HRo.out w17).mono ?_
            rintro r w18 ⟨rfl, hb18⟩
            have HB18 : Hid (Below w13.heap.size w13 w18) := (show Below _ _ _ from bnext HB17.out hb18)
            refine ⟨⟨⟨w18, HB18.out⟩, rfl⟩, ?_⟩
            go_simp
            iterate 3 (refine ord_still rfl rfl ?_; go_big_quiet_step (exact rfl); refine wpQuiet_nil ?_)
            refine ord_end ?_
            go_wp2
            go_ret
            exact ⟨rfl, bnext HY13.out.bel HB18.out⟩
          · have hx15' : (1500 : Int) < (xn : Int) := by omega
            go_wp2_with (go_at_call 7; go_must (refine (HAl.out W1).mono ?_; rintro r w2 ⟨rfl, hb2⟩))
            go_ret
            exact ⟨rfl, bnext HB1.out hb2⟩
        · have ht15' : (1500 : Int) < (tn : Int) := by omega
          go_wp2_with (go_at_call 7; go_must (refine (HAl.out W1).mono ?_; rintro r w2 ⟨rfl, hb2⟩))
          go_ret
          exact ⟨rfl, bnext HB1.out hb2⟩
      · have hm4' : 4 < many := by omega
        go_wp2_with (go_at_call 7; go_must (refine (HAl.out W1).mono ?_; rintro r w2 ⟨rfl, hb2⟩))
        go_ret
        exact ⟨rfl, bnext HB1.out hb2⟩
    · have hm0' : many < 0 := by omega
      go_wp2_with (go_at_call 7; go_must (refine (HAl.out W1).mono ?_; rintro r w2 ⟨rfl, hb2⟩))
      go_ret
      exact ⟨rfl, bnext HB1.out hb2⟩
  · have h50' : (50 : Int) < (dn : Int) := by omega
    go_wp2_with (go_at_call 7; go_must (refine (HAl.out W1).mono ?_; rintro r w2 ⟨rfl, hb2⟩))
    go_ret
    exact ⟨rfl, bnext HB1.out hb2⟩
end Go.Proofs.YtjbpfhnagiacmaaGreat
