/-
  The walk of MembersGone: whoever was revoked may nothing in later epochs, and nothing beyond its limit.
-/
import Derived.Test.YtgoghmabhdkdjaaLawK
namespace Go.Proofs.Ytgoghmabhdkdjaa
set_option linter.unusedVariables false
set_option linter.unusedSimpArgs false
set_option synthInstance.maxSize 20000
set_option maxHeartbeats 2000000
set_option maxRecDepth 20000
open Go.RowKit Go.Maps

theorem putS_var {w : World} {b c : Nat} {t t' : TypeId} {lv lv' v : Value} {S S' : Sm} {l : List Mb} {e : Int} (h : VarAt w b t lv S) (hc : VarAt w c t' lv' S') (hv : RowF mc w v l) (hne : c ≠ b) : VarAt (putS w b v e) c t' lv' S' := ⟨putS_other hc.blk hne, putS_row h hv hc.row⟩
theorem cg_rev (w : World) {who lim : Int} (hw : I64 who) (hl : I64 lim) : CgAt w ⟨2, who, 0, lim, [], []⟩ (.slice none 0 0) (.slice none 0 0) [] := by
  refine ⟨rowF_nil w, fun q hq => by simp at hq, fun q hq => by simp at hq, rfl, rd_nil _, ?_, hw, ?_, hl⟩
  all_goals simp [I64, U64]
theorem gone_walk (p : Int) (lv : Value) (cs : List Cq) (who lim : Int) (mv' : Value) (ds : List Cq) (idx : Int) (w : World) (hp : U64 p) (hl : ChsAt w lv cs) (hwho : I64 who) (hlim : I64 lim) (hm : ChsAt w mv' ds) (hidx : I64 idx) : Calls Try.prog 6 #[.int .u64 p, lv, .int .i64 who, .int .i64 lim, mv', .int .i64 idx] w fun r w' => r = .returned (.bool true) ∧ Below w.heap.size w w' := by
  clear hp
  have HL1 : Hid (Calls Try.prog 8 #[lv] w fun r w' => r = .returned (.bool (lightB (cs.map (·.1)))) ∧ w' = w) := (show Calls _ _ _ _ _ from light8 hl)
  have HL2 : Hid (Calls Try.prog 8 #[mv'] w fun r w' => r = .returned (.bool (lightB (ds.map (·.1)))) ∧ w' = w) := (show Calls _ _ _ _ _ from light8 hm)
  have HAl : Hid (∀ w, Calls Try.prog 9 #[] w fun r w' => r = .returned (.bool true) ∧ Below w.heap.size w w') := alive9
  have HRv : Hid (∀ w, CgAt w ⟨2, who, 0, lim, [], []⟩ (.slice none 0 0) (.slice none 0 0) []) := fun w => cg_rev w hwho hlim
  obtain ⟨la, lc, rfl⟩ := hl.row.len
  have hcap := hl.row.caps
  have hc1 : cs.length ≤ lc := hcap.2.1
  have hc2 : lc ≤ 9223372036854775807 := hcap.2.2
  obtain ⟨ma, mc', rfl⟩ := hm.row.len
  have hcap2 := hm.row.caps
  have hc3 : ds.length ≤ mc' := hcap2.2.1
  have hc4 : mc' ≤ 9223372036854775807 := hcap2.2.2
  cases hlt : lightB (cs.map (·.1))
  · rw [hlt] at HL1
    go_enter Try.func6, Try.ntmps6
    go_wp2_with (first
      | (go_at_call 8; go_must (refine HL1.out.mono ?_; rintro r wy ⟨rfl, rfl⟩))
      | (go_at_call 9; go_must (refine (HAl.out _).mono ?_; rintro r wz ⟨rfl, hbz⟩)))
    go_ret
    exact ⟨rfl, hbz⟩
  cases hmt : lightB (ds.map (·.1))
  · rw [hlt] at HL1
    rw [hmt] at HL2
    go_enter Try.func6, Try.ntmps6
    go_wp2_with fail
    refine HL1.out.mono ?_
    rintro r wy ⟨rfl, rfl⟩
    go_wp2_with (first
      | (go_at_call 8; go_must (refine HL2.out.mono ?_; rintro r wy2 ⟨rfl, rfl⟩))
      | (go_at_call 9; go_must (refine (HAl.out _).mono ?_; rintro r wz ⟨rfl, hbz⟩)))
    go_ret
    exact ⟨rfl, hbz⟩
  rw [hlt] at HL1
  rw [hmt] at HL2
  obtain ⟨h60, hws⟩ := light_each hlt
  obtain ⟨h60b, hws2⟩ := light_each hmt
  have HWs : Hid (∀ q ∈ cs, q.1.ws.length ≤ 20) := hws
  have HCs : Hid (ChsAt w (.slice la cs.length lc) cs) := hl
  have HWs2 : Hid (∀ q ∈ ds, q.1.ws.length ≤ 20) := hws2
  have HDs : Hid (ChsAt w (.slice ma ds.length mc') ds) := hm
  obtain ⟨n, hn⟩ : ∃ n, n = cs.length := ⟨_, rfl⟩
  have HN : Hid (n = cs.length) := hn
  obtain ⟨n2, hn2⟩ : ∃ n2, n2 = ds.length := ⟨_, rfl⟩
  have HN2 : Hid (n2 = ds.length) := hn2
  have HNew : Hid (Calls Try.prog 10 #[.int .u64 p] w fun r w' => ∃ a q, r = .returned (.agg #[.slice a 1 q, .int .i64 (-1)]) ∧ RowF mc w' (.slice a 1 q) [⟨0, p, 0, -1, 0⟩] ∧ Below w.heap.size w w') := (show Calls _ _ _ _ _ from by
    refine (new10 p w).mono ?_
    rintro r w' ⟨v, rfl, hr, hb⟩
    obtain ⟨a, q, rfl⟩ := hr.len
    exact ⟨a, q, rfl, hr, hb⟩)
  rw [← hn] at hc1 h60 HCs HL1 ⊢
  rw [← hn2] at hc3 h60b HDs HL2 ⊢
  obtain ⟨i1, i2⟩ := hwho
  obtain ⟨i3, i4⟩ := hlim
  obtain ⟨i5, i6⟩ := hidx
  clear hl hm hcap hcap2 hlt hmt hws hws2 hn hn2
  go_enter Try.func6, Try.ntmps6
  go_wp2_with fail
  refine HL1.out.mono ?_
  rintro r wy0 ⟨rfl, rfl⟩
  go_wp2_with fail
  refine HL2.out.mono ?_
  rintro r wy ⟨rfl, rfl⟩
  go_wp2_with (go_at_call 10; go_must (refine HNew.out.mono ?_; rintro r w1 ⟨a1, q1, rfl, hr1, hb1⟩))
  have HV2 : Hid (VarAt (w1.alloc (.cells #[.slice a1 1 q1, .int .i64 (-1)] 28)) w1.heap.size 28 (.slice a1 1 q1) ⟨[⟨0, p, 0, -1, 0⟩], -1⟩) := var_new (S := ⟨[⟨0, p, 0, -1, 0⟩], -1⟩) 28 hr1
  have HB2 : Hid (Below wy.heap.size wy (w1.alloc (.cells #[.slice a1 1 q1, .int .i64 (-1)] 28))) := balloc hb1 _
  obtain ⟨sb, hsb⟩ : ∃ sb, sb = w1.heap.size := ⟨_, rfl⟩
  have HSb : Hid (wy.heap.size ≤ sb) := (show _ ≤ _ by rw [hsb]; exact hb1.size)
  rw [← hsb] at HV2 ⊢
  generalize w1.alloc (.cells #[.slice a1 1 q1, .int .i64 (-1)] 28) = w2 at *
  clear hr1 hb1 hsb HNew HL1 HL2
  go_loopw [14] (fun iv wr => ∃ (k : Nat) (S : Sm) (a : Option Addr) (q m : Nat), k ≤ n ∧ iv = .int .i64 k ∧ Hid (VarAt wr sb 28 (.slice a m q) S) ∧ Hid (MOk S ∧ m = S.l.length ∧ m ≤ k + 1) ∧ Hid (Below wy.heap.size wy wr)) (fun iv _ => n - (intOf iv).toNat)
  case atStart => exact ⟨0, _, a1, q1, 1, Nat.zero_le _, rfl, HV2, ⟨sok_new p, rfl, Nat.le_refl _⟩, HB2⟩
  case round =>
    clear HB2 HV2
    obtain ⟨k, S, sa, sq, m, hk, rfl, HV4, HI, HB4⟩ := hrel
    obtain ⟨w4, hw4⟩ : ∃ w4, w4 = wr := ⟨_, rfl⟩
    rw [← hw4] at HV4 HB4 ⊢
    clear hw4
    by_cases hki : k < n
    · obtain ⟨q, hq⟩ : ∃ q, cs[k]? = some q := ⟨_, List.getElem?_eq_getElem (by have := HN.out; omega)⟩
      obtain ⟨g, off, ea, hr⟩ := (HCs.out.row.below HB4.out).at cqf_len hq
      subst ea
      obtain ⟨qs, hcg⟩ := (HCs.out.below HB4.out).each q (List.mem_of_getElem? hq)
      have hql := HWs.out q (List.mem_of_getElem? hq)
      rw [← hcg.len] at hql
      have HQs : Hid (qs.length ≤ 20) := hql
      obtain ⟨⟨ck, cw, cp, cm, cws, co⟩, va, vb⟩ := q
      obtain ⟨⟨xa, na, pa, hva⟩, xb, nb, pb, hvb⟩ := slices_of hcg
      dsimp only at hva hvb hcg
      subst hva hvb
      have HCg : Hid (CgAt w4 ⟨ck, cw, cp, cm, cws, co⟩ (.slice xa na pa) (.slice xb nb pb) qs) := hcg
      have hcl : ∀ (z : WIn (fun w' => Below w4.heap.size w4 w')) p v, w4.cell? p = some v → z.w.cell? p = some v := fun z p v hp => (z.ok.cell (World.block_lt_of_cell? w4 _ hp)).trans hp
      have s0 := fun z => hcl z _ _ (HV4.out.blk.cell 0 _ rfl); have s1 := fun z => hcl z _ _ (HV4.out.blk.cell 1 _ rfl)
      have e0 := fun z => hcl z _ _ (hr 0 _ rfl); have e1 := fun z => hcl z _ _ (hr 1 _ rfl); have e2 := fun z => hcl z _ _ (hr 2 _ rfl); have e3 := fun z => hcl z _ _ (hr 3 _ rfl); have e4 := fun z => hcl z _ _ (hr 4 _ rfl); have e5 := fun z => hcl z _ _ (hr 5 _ rfl)
      simp only [Nat.add_zero] at e0
      clear hcg hql hr hcl hq
      have HOw : Hid (∀ w', Below w4.heap.size w4 w' → Calls Try.prog 12 #[.agg #[.int .i64 ck, .int .i64 cw, .int .u64 cp, .int .i64 cm, .slice xa na pa, .slice xb nb pb]] w' fun r w'' => ∃ x nn y, r = .returned (.agg #[.int .i64 ck, .int .i64 cw, .int .u64 cp, .int .i64 cm, .slice x nn y, .slice xb nb pb]) ∧ CgAt w'' ⟨ck, cw, cp, cm, cws, co⟩ (.slice x nn y) (.slice xb nb pb) qs ∧ Below w'.heap.size w' w'') := fun w' hb => by
        refine (own12 (HCg.out.below hb) (by have := HQs.out; omega)).mono ?_
        rintro r w'' ⟨a', rfl, h1, h2⟩
        obtain ⟨x, y, e⟩ := h1.row.len
        subst e
        exact ⟨x, _, y, rfl, h1, h2⟩
      obtain ⟨L, E, K, hAe⟩ : ∃ L E K, applyM S ⟨ck, cw, cp, cm, cws, co⟩ = (⟨L, E⟩, K) := ⟨_, _, _, rfl⟩
      obtain ⟨m', hm'⟩ : ∃ m', m' = L.length := ⟨_, rfl⟩
      have HAe : Hid (applyM S ⟨ck, cw, cp, cm, cws, co⟩ = (⟨L, E⟩, K)) := hAe
      have HM' : Hid (m' = L.length) := hm'
      have HAp : Hid (∀ w' x nn y, Below w4.heap.size w4 w' → CgAt w' ⟨ck, cw, cp, cm, cws, co⟩ (.slice x nn y) (.slice xb nb pb) qs → Calls Try.prog 13 #[.agg #[.slice sa m sq, .int .i64 S.e], .agg #[.int .i64 ck, .int .i64 cw, .int .u64 cp, .int .i64 cm, .slice x nn y, .slice xb nb pb]] w' fun r w'' => ∃ z y', r = .returned (.tuple #[.agg #[.slice z m' y', .int .i64 E], .int .i64 K]) ∧ RowF mc w'' (.slice z m' y') L ∧ Below w'.heap.size w' w'') := fun w' x nn y hb hc => by
        have h1 := apply13 (S := S) (HV4.out.row.below hb) (by have := HI.out.2; omega) HI.out.1.e hc
        rw [HAe.out] at h1
        refine h1.mono ?_
        rintro r w'' ⟨v, rfl, hr, hb'⟩
        obtain ⟨z, y', e⟩ := hr.len
        subst e
        refine ⟨z, y', ?_, ?_, hb'⟩
        · rw [HM'.out]; rfl
        · rw [HM'.out]; exact hr
      clear hAe hm'
      have HD4 : Hid (Below w4.heap.size w4 w4.drew) := (show Below _ _ _ from (Below.refl _ _).drew)
      have ne : Nonempty (WIn (fun w' => Below w4.heap.size w4 w')) := ⟨⟨w4, Below.refl _ _⟩⟩
      go_upto_region 7 with fail
      go_cut [15, 16] (fun tv kv wx => ∃ (tb : Nat) (z : Option Addr) (y : Nat), tv = ptr tb ∧ kv = .int .i64 K ∧ Hid (ApV w4 wx tb (.slice z m' y) ⟨L, E⟩))
      case first =>
        refine wp_region_tree (C := fun w' => ∃ z : WIn (fun w' => Below w4.heap.size w4 w'), w' = z.w) (.still 0 (.still 1 (.still 2 (.still 3 (.still 4 (.two 5 (.two 6 (.still 7 (.still 8 (.still 9 (.one 10 (.one 11 (.still 12 .done)))))) 10 (.one 6 (.still 7 (.still 8 (.still 9 (.one 11 (.still 12 .done))))))) 10 (.one 5 (.one 6 (.still 7 (.still 8 (.still 9 (.one 11 (.still 12 .done))))))))))))) (by kernel_rfl) (by kernel_rfl) ⟨⟨w4.drew, HD4.out⟩, rfl⟩ ?_
        iterate 5 (refine tree_still rfl rfl ?_; go_big_quiet_step (fail); refine wpQuiet_nil ?_)
        refine tree_two rfl rfl rfl rfl ?_ ?_
        · go_simp
          refine (HOw.out w4.drew HD4.out).mono ?_
          rintro r w5 ⟨x5, n5, y5, rfl, hc5, hb5⟩
          have HC5 : Hid (CgAt w5 ⟨ck, cw, cp, cm, cws, co⟩ (.slice x5 n5 y5) (.slice xb nb pb) qs) := hc5
          have HD5 : Hid (Below w4.heap.size w4 w5) := (show Below _ _ _ from bnext (w := w4.drew) HD4.out hb5)
          clear hc5 hb5
          refine ⟨⟨⟨_, HD5.out⟩, rfl⟩, ?_⟩
          go_simp
          refine tree_two rfl rfl rfl rfl ?_ ?_
          · go_simp
            refine (HAp.out w5 x5 n5 y5 HD5.out HC5.out).mono ?_
            rintro r w6 ⟨z6, y6, rfl, hr6, hb6⟩
            have HR6 : Hid (RowF mc w6 (.slice z6 m' y6) L) := hr6
            have HD6 : Hid (Below w4.heap.size w4 w6) := (show Below _ _ _ from bnext (w := w5) HD5.out hb6)
            clear hr6 hb6
            refine ⟨⟨⟨_, HD6.out⟩, rfl⟩, ?_⟩
            go_simp
            iterate 3 (refine tree_still rfl rfl ?_; go_big_quiet_step (fail); refine wpQuiet_nil ?_)
            refine tree_one rfl rfl ?_
            go_simp
            have HP : Hid (ApV w4 (w6.alloc (.cells #[.slice z6 m' y6, .int .i64 E] 28)) w6.heap.size (.slice z6 m' y6) ⟨L, E⟩) := (show ApV _ _ _ _ _ from apv_new (S := ⟨L, E⟩) HR6.out HD6.out)
            have HZ : Hid (Below w4.heap.size w4 (w6.alloc (.cells #[.slice none 0 0, .int .i64 0] 28))) := (show Below _ _ _ from balloc HD6.out _)
            refine ⟨⟨⟨_, HZ.out⟩, rfl⟩, ?_⟩
            go_simp
            refine tree_one rfl rfl ?_
            go_simp
            refine ⟨⟨⟨_, HP.out.bel⟩, rfl⟩, ?_⟩
            go_simp
            refine tree_still rfl rfl ?_; go_big_quiet_step (fail); refine wpQuiet_nil ?_
            refine tree_done ?_
            go_wp2
            go_meet
            exact ⟨_, _, _, rfl, rfl, HP⟩
          · go_simp
            have HV7 : Hid (VarAt (w5.alloc (.cells #[.slice none 0 0, .int .i64 0] 28)) w5.heap.size 28 (.slice none 0 0) ⟨[], 0⟩) := var_new (S := ⟨[], 0⟩) 28 (rowF_nil w5)
            have HD7 : Hid (Below w4.heap.size w4 (w5.alloc (.cells #[.slice none 0 0, .int .i64 0] 28))) := (show Below _ _ _ from balloc HD5.out _)
            have HTb : Hid (w4.heap.size ≤ w5.heap.size) := (show _ ≤ _ from (HD5.out).size)
            have HC7 : Hid (CgAt (w5.alloc (.cells #[.slice none 0 0, .int .i64 0] 28)) ⟨ck, cw, cp, cm, cws, co⟩ (.slice x5 n5 y5) (.slice xb nb pb) qs) := (show CgAt _ _ _ _ _ from HC5.out.below (balloc (Below.refl _ _) _))
            obtain ⟨tb, htb⟩ : ∃ tb, tb = w5.heap.size := ⟨_, rfl⟩
            rw [← htb] at HV7 HTb ⊢
            generalize w5.alloc (.cells #[.slice none 0 0, .int .i64 0] 28) = w7 at *
            clear htb
            refine ⟨⟨⟨_, HD7.out⟩, rfl⟩, ?_⟩
            go_simp
            refine tree_one rfl rfl ?_
            go_simp
            refine (HAp.out w7 x5 n5 y5 HD7.out HC7.out).mono ?_
            rintro r w6 ⟨z6, y6, rfl, hr6, hb6⟩
            have HR6 : Hid (RowF mc w6 (.slice z6 m' y6) L) := hr6
            have HD6 : Hid (Below w4.heap.size w4 w6) := (show Below _ _ _ from bnext (w := w7) HD7.out hb6)
            have HV8 : Hid (VarAt w6 tb 28 (.slice none 0 0) ⟨[], 0⟩) := (show VarAt _ _ _ _ _ from HV7.out.below hb6)
            clear hr6 hb6
            refine ⟨⟨⟨_, HD6.out⟩, rfl⟩, ?_⟩
            go_simp
            iterate 3 (refine tree_still rfl rfl ?_; go_big_quiet_step (fail); refine wpQuiet_nil ?_)
            have HP : Hid (ApV w4 (putS w6 tb (.slice z6 m' y6) E) tb (.slice z6 m' y6) ⟨L, E⟩) := (show ApV _ _ _ _ _ from apv_put (S := ⟨L, E⟩) HV8.out HR6.out HD6.out HTb.out)
            have g0 := HV8.out.blk.cell 0 _ rfl; have g1 := HV8.out.blk.cell 1 _ rfl; have i0 := HV8.out.blk.frozen 0; have i1 := HV8.out.blk.frozen 1
            refine tree_one rfl rfl ?_
            go_simp
            refine ⟨⟨⟨_, HP.out.bel⟩, rfl⟩, ?_⟩
            go_simp
            refine tree_still rfl rfl ?_; go_big_quiet_step (fail); refine wpQuiet_nil ?_
            refine tree_done ?_
            go_wp2
            go_meet
            exact ⟨_, _, _, rfl, rfl, HP⟩
        · go_simp
          have HV7 : Hid (VarAt (w4.alloc (.cells #[.slice none 0 0, .int .i64 0] 28)).drew w4.heap.size 28 (.slice none 0 0) ⟨[], 0⟩) := (show VarAt _ _ _ _ _ from var_new (S := ⟨[], 0⟩) 28 (rowF_nil w4.drew))
          have HD7 : Hid (Below w4.heap.size w4 (w4.alloc (.cells #[.slice none 0 0, .int .i64 0] 28)).drew) := (show Below _ _ _ from (balloc (Below.refl _ _) _).drew)
          have HTb : Hid (w4.heap.size ≤ w4.heap.size) := (show _ ≤ _ from Nat.le_refl _)
          generalize (w4.alloc (.cells #[.slice none 0 0, .int .i64 0] 28)).drew = w7 at *
          refine ⟨⟨⟨_, HD7.out⟩, rfl⟩, ?_⟩
          go_simp
          refine tree_one rfl rfl ?_
          go_simp
          refine (HOw.out w7 HD7.out).mono ?_
          rintro r w5 ⟨x5, n5, y5, rfl, hc5, hb5⟩
          have HC5 : Hid (CgAt w5 ⟨ck, cw, cp, cm, cws, co⟩ (.slice x5 n5 y5) (.slice xb nb pb) qs) := hc5
          have HD5 : Hid (Below w4.heap.size w4 w5) := (show Below _ _ _ from bnext (w := w7) HD7.out hb5)
          have HV9 : Hid (VarAt w5 w4.heap.size 28 (.slice none 0 0) ⟨[], 0⟩) := (show VarAt _ _ _ _ _ from HV7.out.below hb5)
          clear hc5 hb5 HV7
          refine ⟨⟨⟨_, HD5.out⟩, rfl⟩, ?_⟩
          go_simp
          refine tree_one rfl rfl ?_
          have HV7 := HV9
          go_simp
          refine (HAp.out w5 x5 n5 y5 HD5.out HC5.out).mono ?_
          rintro r w6 ⟨z6, y6, rfl, hr6, hb6⟩
          have HR6 : Hid (RowF mc w6 (.slice z6 m' y6) L) := hr6
          have HD6 : Hid (Below w4.heap.size w4 w6) := (show Below _ _ _ from bnext (w := w5) HD5.out hb6)
          have HV8 : Hid (VarAt w6 w4.heap.size 28 (.slice none 0 0) ⟨[], 0⟩) := (show VarAt _ _ _ _ _ from HV7.out.below hb6)
          clear hr6 hb6
          refine ⟨⟨⟨_, HD6.out⟩, rfl⟩, ?_⟩
          go_simp
          iterate 3 (refine tree_still rfl rfl ?_; go_big_quiet_step (fail); refine wpQuiet_nil ?_)
          have HP : Hid (ApV w4 (putS w6 w4.heap.size (.slice z6 m' y6) E) w4.heap.size (.slice z6 m' y6) ⟨L, E⟩) := (show ApV _ _ _ _ _ from apv_put (S := ⟨L, E⟩) HV8.out HR6.out HD6.out HTb.out)
          have g0 := HV8.out.blk.cell 0 _ rfl; have g1 := HV8.out.blk.cell 1 _ rfl; have i0 := HV8.out.blk.frozen 0; have i1 := HV8.out.blk.frozen 1
          refine tree_one rfl rfl ?_
          go_simp
          refine ⟨⟨⟨_, HP.out.bel⟩, rfl⟩, ?_⟩
          go_simp
          refine tree_still rfl rfl ?_; go_big_quiet_step (fail); refine wpQuiet_nil ?_
          refine tree_done ?_
          go_wp2
          go_meet
          exact ⟨_, _, _, rfl, rfl, HP⟩
      case rest =>
        obtain ⟨tb, tz, ty, htv, hkv, HP⟩ := hcut
        rename World => w5
        subst htv
        subst hkv
        have hb45 := HP.out.bel
        have HT5 : Hid (VarAt w5 tb 28 (.slice tz m' ty) ⟨L, E⟩) := HP.out.var
        have HS5 : Hid (VarAt w5 sb 28 (.slice sa m sq) S) := (show VarAt _ _ _ _ _ from HV4.out.below hb45)
        have HB5 : Hid (Below wy.heap.size wy w5) := (show Below _ _ _ from bnext HB4.out hb45)
        clear hb45 HP HV4 HOw HAp HD4 ne s0 s1 e0 e1 e2 e3 e4 e5 HCg HQs
        by_cases hK : K = 0
        · subst hK
          obtain ⟨hok, hlen, hE1, hE2, hkp⟩ := apply_ok HI.out.1 (show (applyM S ⟨ck, cw, cp, cm, cws, co⟩).2 = 0 by rw [HAe.out])
          rw [HAe.out] at hok hlen
          have HOk : Hid (MOk ⟨L, E⟩ ∧ m' = L.length ∧ m' ≤ k + 1 + 1) := (show _ ∧ _ ∧ _ from by
            dsimp only at hlen
            have h1 := HM'.out
            have h2 := HI.out.2
            exact ⟨hok, h1, by omega⟩)
          have HBz : Hid (Below wy.heap.size wy (putS w5 sb (.slice tz m' ty) E)) := (show Below _ _ _ from putS_below HB5.out HSb.out)
          have HVz : Hid (VarAt (putS w5 sb (.slice tz m' ty) E) sb 28 (.slice tz m' ty) ⟨L, E⟩) := (show VarAt _ _ _ _ _ from putS_at HS5.out HT5.out.row)
          have k0 := HT5.out.blk.cell 0 _ rfl; have k1 := HT5.out.blk.cell 1 _ rfl
          have r0 := HS5.out.blk.cell 0 _ rfl; have r1 := HS5.out.blk.cell 1 _ rfl; have p0 := HS5.out.blk.frozen 0; have p1 := HS5.out.blk.frozen 1
          clear hok hlen hE1 hE2 hkp HAe HI
          go_wp2
          go_roundw
          case rel => exact ⟨k + 1, ⟨L, E⟩, tz, ty, m', by omega, by go_num, HVz, HOk, HBz⟩
          case measure => simp [intOf]; omega
        · go_wp2
          go_roundw
          case rel => exact ⟨k + 1, S, sa, sq, m, by omega, by go_num, HS5, ⟨HI.out.1, HI.out.2.1, by have := HI.out.2.2; omega⟩, HB5⟩
          case measure => simp [intOf]; omega
    · obtain ⟨hs1, hs2⟩ := HI.out.1.e
      have HA : Hid (∃ L E K, applyM S ⟨2, who, 0, lim, [], []⟩ = (⟨L, E⟩, K)) := ⟨_, _, _, rfl⟩
      obtain ⟨L, E, K, hAe⟩ := HA.out
      obtain ⟨m', hm'⟩ : ∃ m', m' = L.length := ⟨_, rfl⟩
      have HAe : Hid (applyM S ⟨2, who, 0, lim, [], []⟩ = (⟨L, E⟩, K)) := hAe
      have HM' : Hid (m' = L.length) := hm'
      have HAp : Hid (Calls Try.prog 13 #[.agg #[.slice sa m sq, .int .i64 S.e], .agg #[.int .i64 2, .int .i64 who, .int .u64 0, .int .i64 lim, .slice none 0 0, .slice none 0 0]] w4 fun r w'' => ∃ z y', r = .returned (.tuple #[.agg #[.slice z m' y', .int .i64 E], .int .i64 K]) ∧ RowF mc w'' (.slice z m' y') L ∧ Below w4.heap.size w4 w'') := (show Calls _ _ _ _ _ from by
        have h1 := apply13 (S := S) HV4.out.row (by have := HI.out.2; omega) HI.out.1.e (HRv.out w4)
        rw [HAe.out] at h1
        refine h1.mono ?_
        rintro r w'' ⟨v, rfl, hr, hb'⟩
        obtain ⟨z, y', e⟩ := hr.len
        subst e
        refine ⟨z, y', ?_, ?_, hb'⟩
        · rw [HM'.out]; rfl
        · rw [HM'.out]; exact hr)
      clear hAe hm' HA
      have x0 := HV4.out.blk.cell 0 _ rfl; have x1 := HV4.out.blk.cell 1 _ rfl
      by_cases hK : K = 0
      · subst hK
        obtain ⟨hw0, mo, hf1, hf2, hfe, hg⟩ := gone_first HI.out.1 (show (applyM S ⟨2, who, 0, lim, [], []⟩).2 = 0 by rw [HAe.out])
        obtain ⟨hok, hlen, _, _, _⟩ := apply_ok HI.out.1 (show (applyM S ⟨2, who, 0, lim, [], []⟩).2 = 0 by rw [HAe.out])
        rw [HAe.out] at hfe hg hok hlen
        dsimp only at hfe hlen
        subst hfe
        have HGo : Hid (who ≠ 0 ∧ findM S.l who = some mo ∧ mo.t = -1) := ⟨hw0, hf1, hf2⟩
        have HG5 : Hid (MOk ⟨L, S.e⟩ ∧ m' = L.length ∧ m' ≤ 62 + 0 ∧ S.e ≤ S.e ∧ ∃ y, findM L who = some y ∧ y.t = (if S.e = -1 then -2 else S.e) ∧ y.l = lim ∧ y.f = mo.f) := (show _ ∧ _ ∧ _ ∧ _ ∧ _ from by
          have h1 := HM'.out
          have h2 := HI.out.2
          exact ⟨hok, h1, by omega, Int.le_refl _, hg⟩)
        clear hw0 hf1 hf2 hg hok hlen HAe
        go_wp2_with (go_at_call 13; go_must (refine HAp.out.mono ?_; rintro r w5 ⟨tz, ty, rfl, hr5, hb5⟩))
        obtain ⟨tb, htb⟩ : ∃ tb, tb = w5.heap.size := ⟨_, rfl⟩
        have HT6 : Hid (VarAt (w5.alloc (.cells #[.slice tz m' ty, .int .i64 S.e] 28)) w5.heap.size 28 (.slice tz m' ty) ⟨L, S.e⟩) := (show VarAt _ _ _ _ _ from var_new (S := ⟨L, S.e⟩) 28 hr5)
        have hb46 : Below w4.heap.size w4 (w5.alloc (.cells #[.slice tz m' ty, .int .i64 S.e] 28)) := balloc hb5 _
        have HS6 : Hid (VarAt (w5.alloc (.cells #[.slice tz m' ty, .int .i64 S.e] 28)) sb 28 (.slice sa m sq) S) := (show VarAt _ _ _ _ _ from HV4.out.below hb46)
        have HB6 : Hid (Below wy.heap.size wy (w5.alloc (.cells #[.slice tz m' ty, .int .i64 S.e] 28))) := (show Below _ _ _ from bnext HB4.out hb46)
        have HTb : Hid (sb < tb ∧ wy.heap.size ≤ tb) := (show _ ∧ _ from by
          have h1 := HV4.out.blk.lt
          have h2 := hb5.size
          have h3 := HSb.out
          omega)
        rw [← htb] at HT6 ⊢
        generalize w5.alloc (.cells #[.slice tz m' ty, .int .i64 S.e] 28) = w6 at *
        clear hr5 hb5 hb46 htb x0 x1 HAp HV4 HB4 HI HM'
        generalize wr = wold at *
        go_loopw [20] (fun iv wr => ∃ (k : Nat) (T : Sm) (a : Option Addr) (q tm : Nat), k ≤ n2 ∧ iv = .int .i64 k ∧ Hid (VarAt wr tb 28 (.slice a tm q) T) ∧ Hid (VarAt wr sb 28 (.slice sa m sq) S) ∧ Hid (MOk T ∧ tm = T.l.length ∧ tm ≤ 62 + k ∧ S.e ≤ T.e ∧ ∃ y, findM T.l who = some y ∧ y.t = (if S.e = -1 then -2 else S.e) ∧ y.l = lim ∧ y.f = mo.f) ∧ Hid (Below wy.heap.size wy wr)) (fun iv _ => n2 - (intOf iv).toNat)
        case atStart => exact ⟨0, ⟨L, S.e⟩, tz, ty, m', Nat.zero_le _, rfl, HT6, HS6, HG5, HB6⟩
        case round =>
          clear HT6 HS6 HG5 HB6
          obtain ⟨k2, T, ta, tq, tm, hk2, rfl, HV4, HS4, HI, HB4⟩ := hrel
          obtain ⟨w4, hw4⟩ : ∃ w4, w4 = wr := ⟨_, rfl⟩
          rw [← hw4] at HV4 HS4 HB4 ⊢
          clear hw4
          by_cases hki2 : k2 < n2
          · obtain ⟨q, hq⟩ : ∃ q, ds[k2]? = some q := ⟨_, List.getElem?_eq_getElem (by have := HN2.out; omega)⟩
            obtain ⟨g, off, ea, hr⟩ := (HDs.out.row.below HB4.out).at cqf_len hq
            subst ea
            obtain ⟨qs, hcg⟩ := (HDs.out.below HB4.out).each q (List.mem_of_getElem? hq)
            have hql := HWs2.out q (List.mem_of_getElem? hq)
            rw [← hcg.len] at hql
            have HQs : Hid (qs.length ≤ 20) := hql
            obtain ⟨⟨ck, cw, cp, cm, cws, co⟩, va, vb⟩ := q
            obtain ⟨⟨xa, na, pa, hva⟩, xb, nb, pb, hvb⟩ := slices_of hcg
            dsimp only at hva hvb hcg
            subst hva hvb
            have HCg : Hid (CgAt w4 ⟨ck, cw, cp, cm, cws, co⟩ (.slice xa na pa) (.slice xb nb pb) qs) := hcg
            have hcl : ∀ (z : WIn (fun w' => Below w4.heap.size w4 w')) p v, w4.cell? p = some v → z.w.cell? p = some v := fun z p v hp => (z.ok.cell (World.block_lt_of_cell? w4 _ hp)).trans hp
            have s0 := fun z => hcl z _ _ (HV4.out.blk.cell 0 _ rfl); have s1 := fun z => hcl z _ _ (HV4.out.blk.cell 1 _ rfl)
            have e0 := fun z => hcl z _ _ (hr 0 _ rfl); have e1 := fun z => hcl z _ _ (hr 1 _ rfl); have e2 := fun z => hcl z _ _ (hr 2 _ rfl); have e3 := fun z => hcl z _ _ (hr 3 _ rfl); have e4 := fun z => hcl z _ _ (hr 4 _ rfl); have e5 := fun z => hcl z _ _ (hr 5 _ rfl)
            simp only [Nat.add_zero] at e0
            clear hcg hql hr hcl hq
            have HOw : Hid (∀ w', Below w4.heap.size w4 w' → Calls Try.prog 12 #[.agg #[.int .i64 ck, .int .i64 cw, .int .u64 cp, .int .i64 cm, .slice xa na pa, .slice xb nb pb]] w' fun r w'' => ∃ x nn y, r = .returned (.agg #[.int .i64 ck, .int .i64 cw, .int .u64 cp, .int .i64 cm, .slice x nn y, .slice xb nb pb]) ∧ CgAt w'' ⟨ck, cw, cp, cm, cws, co⟩ (.slice x nn y) (.slice xb nb pb) qs ∧ Below w'.heap.size w' w'') := fun w' hb => by
              refine (own12 (HCg.out.below hb) (by have := HQs.out; omega)).mono ?_
              rintro r w'' ⟨a', rfl, h1, h2⟩
              obtain ⟨x, y, e⟩ := h1.row.len
              subst e
              exact ⟨x, _, y, rfl, h1, h2⟩
            obtain ⟨L, E, K, hAe⟩ : ∃ L E K, applyM T ⟨ck, cw, cp, cm, cws, co⟩ = (⟨L, E⟩, K) := ⟨_, _, _, rfl⟩
            obtain ⟨m', hm'⟩ : ∃ m', m' = L.length := ⟨_, rfl⟩
            have HAe : Hid (applyM T ⟨ck, cw, cp, cm, cws, co⟩ = (⟨L, E⟩, K)) := hAe
            have HM' : Hid (m' = L.length) := hm'
            have HAp : Hid (∀ w' x nn y, Below w4.heap.size w4 w' → CgAt w' ⟨ck, cw, cp, cm, cws, co⟩ (.slice x nn y) (.slice xb nb pb) qs → Calls Try.prog 13 #[.agg #[.slice ta tm tq, .int .i64 T.e], .agg #[.int .i64 ck, .int .i64 cw, .int .u64 cp, .int .i64 cm, .slice x nn y, .slice xb nb pb]] w' fun r w'' => ∃ z y', r = .returned (.tuple #[.agg #[.slice z m' y', .int .i64 E], .int .i64 K]) ∧ RowF mc w'' (.slice z m' y') L ∧ Below w'.heap.size w' w'') := fun w' x nn y hb hc => by
              have h1 := apply13 (S := T) (HV4.out.row.below hb) (by have := HI.out.2; omega) HI.out.1.e hc
              rw [HAe.out] at h1
              refine h1.mono ?_
              rintro r w'' ⟨v, rfl, hr, hb'⟩
              obtain ⟨z, y', e⟩ := hr.len
              subst e
              refine ⟨z, y', ?_, ?_, hb'⟩
              · rw [HM'.out]; rfl
              · rw [HM'.out]; exact hr
            clear hAe hm'
            have HD4 : Hid (Below w4.heap.size w4 w4.drew) := (show Below _ _ _ from (Below.refl _ _).drew)
            have ne : Nonempty (WIn (fun w' => Below w4.heap.size w4 w')) := ⟨⟨w4, Below.refl _ _⟩⟩
            go_upto_region 17 with fail
            go_cut [21, 22] (fun tv kv wx => ∃ (tb : Nat) (z : Option Addr) (y : Nat), tv = ptr tb ∧ kv = .int .i64 K ∧ Hid (ApV w4 wx tb (.slice z m' y) ⟨L, E⟩))
            case first =>
              refine wp_region_tree (C := fun w' => ∃ z : WIn (fun w' => Below w4.heap.size w4 w'), w' = z.w) (.still 0 (.still 1 (.still 2 (.still 3 (.still 4 (.two 5 (.two 6 (.still 7 (.still 8 (.still 9 (.one 10 (.one 11 (.still 12 .done)))))) 10 (.one 6 (.still 7 (.still 8 (.still 9 (.one 11 (.still 12 .done))))))) 10 (.one 5 (.one 6 (.still 7 (.still 8 (.still 9 (.one 11 (.still 12 .done))))))))))))) (by kernel_rfl) (by kernel_rfl) ⟨⟨w4.drew, HD4.out⟩, rfl⟩ ?_
              iterate 5 (refine tree_still rfl rfl ?_; go_big_quiet_step (fail); refine wpQuiet_nil ?_)
              refine tree_two rfl rfl rfl rfl ?_ ?_
              · go_simp
                refine (HOw.out w4.drew HD4.out).mono ?_
                rintro r w5 ⟨x5, n5, y5, rfl, hc5, hb5⟩
                have HC5 : Hid (CgAt w5 ⟨ck, cw, cp, cm, cws, co⟩ (.slice x5 n5 y5) (.slice xb nb pb) qs) := hc5
                have HD5 : Hid (Below w4.heap.size w4 w5) := (show Below _ _ _ from bnext (w := w4.drew) HD4.out hb5)
                clear hc5 hb5
                refine ⟨⟨⟨_, HD5.out⟩, rfl⟩, ?_⟩
                go_simp
                refine tree_two rfl rfl rfl rfl ?_ ?_
                · go_simp
                  refine (HAp.out w5 x5 n5 y5 HD5.out HC5.out).mono ?_
                  rintro r w6 ⟨z6, y6, rfl, hr6, hb6⟩
                  have HR6 : Hid (RowF mc w6 (.slice z6 m' y6) L) := hr6
                  have HD6 : Hid (Below w4.heap.size w4 w6) := (show Below _ _ _ from bnext (w := w5) HD5.out hb6)
                  clear hr6 hb6
                  refine ⟨⟨⟨_, HD6.out⟩, rfl⟩, ?_⟩
                  go_simp
                  iterate 3 (refine tree_still rfl rfl ?_; go_big_quiet_step (fail); refine wpQuiet_nil ?_)
                  refine tree_one rfl rfl ?_
                  go_simp
                  have HP : Hid (ApV w4 (w6.alloc (.cells #[.slice z6 m' y6, .int .i64 E] 28)) w6.heap.size (.slice z6 m' y6) ⟨L, E⟩) := (show ApV _ _ _ _ _ from apv_new (S := ⟨L, E⟩) HR6.out HD6.out)
                  have HZ : Hid (Below w4.heap.size w4 (w6.alloc (.cells #[.slice none 0 0, .int .i64 0] 28))) := (show Below _ _ _ from balloc HD6.out _)
                  refine ⟨⟨⟨_, HZ.out⟩, rfl⟩, ?_⟩
                  go_simp
                  refine tree_one rfl rfl ?_
                  go_simp
                  refine ⟨⟨⟨_, HP.out.bel⟩, rfl⟩, ?_⟩
                  go_simp
                  refine tree_still rfl rfl ?_; go_big_quiet_step (fail); refine wpQuiet_nil ?_
                  refine tree_done ?_
                  go_wp2
                  go_meet
                  exact ⟨_, _, _, rfl, rfl, HP⟩
                · go_simp
                  have HV7 : Hid (VarAt (w5.alloc (.cells #[.slice none 0 0, .int .i64 0] 28)) w5.heap.size 28 (.slice none 0 0) ⟨[], 0⟩) := var_new (S := ⟨[], 0⟩) 28 (rowF_nil w5)
                  have HD7 : Hid (Below w4.heap.size w4 (w5.alloc (.cells #[.slice none 0 0, .int .i64 0] 28))) := (show Below _ _ _ from balloc HD5.out _)
                  have HTb : Hid (w4.heap.size ≤ w5.heap.size) := (show _ ≤ _ from (HD5.out).size)
                  have HC7 : Hid (CgAt (w5.alloc (.cells #[.slice none 0 0, .int .i64 0] 28)) ⟨ck, cw, cp, cm, cws, co⟩ (.slice x5 n5 y5) (.slice xb nb pb) qs) := (show CgAt _ _ _ _ _ from HC5.out.below (balloc (Below.refl _ _) _))
                  obtain ⟨tb, htb⟩ : ∃ tb, tb = w5.heap.size := ⟨_, rfl⟩
                  rw [← htb] at HV7 HTb ⊢
                  generalize w5.alloc (.cells #[.slice none 0 0, .int .i64 0] 28) = w7 at *
                  clear htb
                  refine ⟨⟨⟨_, HD7.out⟩, rfl⟩, ?_⟩
                  go_simp
                  refine tree_one rfl rfl ?_
                  go_simp
                  refine (HAp.out w7 x5 n5 y5 HD7.out HC7.out).mono ?_
                  rintro r w6 ⟨z6, y6, rfl, hr6, hb6⟩
                  have HR6 : Hid (RowF mc w6 (.slice z6 m' y6) L) := hr6
                  have HD6 : Hid (Below w4.heap.size w4 w6) := (show Below _ _ _ from bnext (w := w7) HD7.out hb6)
                  have HV8 : Hid (VarAt w6 tb 28 (.slice none 0 0) ⟨[], 0⟩) := (show VarAt _ _ _ _ _ from HV7.out.below hb6)
                  clear hr6 hb6
                  refine ⟨⟨⟨_, HD6.out⟩, rfl⟩, ?_⟩
                  go_simp
                  iterate 3 (refine tree_still rfl rfl ?_; go_big_quiet_step (fail); refine wpQuiet_nil ?_)
                  have HP : Hid (ApV w4 (putS w6 tb (.slice z6 m' y6) E) tb (.slice z6 m' y6) ⟨L, E⟩) := (show ApV _ _ _ _ _ from apv_put (S := ⟨L, E⟩) HV8.out HR6.out HD6.out HTb.out)
                  have g0 := HV8.out.blk.cell 0 _ rfl; have g1 := HV8.out.blk.cell 1 _ rfl; have i0 := HV8.out.blk.frozen 0; have i1 := HV8.out.blk.frozen 1
                  refine tree_one rfl rfl ?_
                  go_simp
                  refine ⟨⟨⟨_, HP.out.bel⟩, rfl⟩, ?_⟩
                  go_simp
                  refine tree_still rfl rfl ?_; go_big_quiet_step (fail); refine wpQuiet_nil ?_
                  refine tree_done ?_
                  go_wp2
                  go_meet
                  exact ⟨_, _, _, rfl, rfl, HP⟩
              · go_simp
                have HV7 : Hid (VarAt (w4.alloc (.cells #[.slice none 0 0, .int .i64 0] 28)).drew w4.heap.size 28 (.slice none 0 0) ⟨[], 0⟩) := (show VarAt _ _ _ _ _ from var_new (S := ⟨[], 0⟩) 28 (rowF_nil w4.drew))
                have HD7 : Hid (Below w4.heap.size w4 (w4.alloc (.cells #[.slice none 0 0, .int .i64 0] 28)).drew) := (show Below _ _ _ from (balloc (Below.refl _ _) _).drew)
                have HTb : Hid (w4.heap.size ≤ w4.heap.size) := (show _ ≤ _ from Nat.le_refl _)
                generalize (w4.alloc (.cells #[.slice none 0 0, .int .i64 0] 28)).drew = w7 at *
                refine ⟨⟨⟨_, HD7.out⟩, rfl⟩, ?_⟩
                go_simp
                refine tree_one rfl rfl ?_
                go_simp
                refine (HOw.out w7 HD7.out).mono ?_
                rintro r w5 ⟨x5, n5, y5, rfl, hc5, hb5⟩
                have HC5 : Hid (CgAt w5 ⟨ck, cw, cp, cm, cws, co⟩ (.slice x5 n5 y5) (.slice xb nb pb) qs) := hc5
                have HD5 : Hid (Below w4.heap.size w4 w5) := (show Below _ _ _ from bnext (w := w7) HD7.out hb5)
                have HV9 : Hid (VarAt w5 w4.heap.size 28 (.slice none 0 0) ⟨[], 0⟩) := (show VarAt _ _ _ _ _ from HV7.out.below hb5)
                clear hc5 hb5 HV7
                refine ⟨⟨⟨_, HD5.out⟩, rfl⟩, ?_⟩
                go_simp
                refine tree_one rfl rfl ?_
                have HV7 := HV9
                go_simp
                refine (HAp.out w5 x5 n5 y5 HD5.out HC5.out).mono ?_
                rintro r w6 ⟨z6, y6, rfl, hr6, hb6⟩
                have HR6 : Hid (RowF mc w6 (.slice z6 m' y6) L) := hr6
                have HD6 : Hid (Below w4.heap.size w4 w6) := (show Below _ _ _ from bnext (w := w5) HD5.out hb6)
                have HV8 : Hid (VarAt w6 w4.heap.size 28 (.slice none 0 0) ⟨[], 0⟩) := (show VarAt _ _ _ _ _ from HV7.out.below hb6)
                clear hr6 hb6
                refine ⟨⟨⟨_, HD6.out⟩, rfl⟩, ?_⟩
                go_simp
                iterate 3 (refine tree_still rfl rfl ?_; go_big_quiet_step (fail); refine wpQuiet_nil ?_)
                have HP : Hid (ApV w4 (putS w6 w4.heap.size (.slice z6 m' y6) E) w4.heap.size (.slice z6 m' y6) ⟨L, E⟩) := (show ApV _ _ _ _ _ from apv_put (S := ⟨L, E⟩) HV8.out HR6.out HD6.out HTb.out)
                have g0 := HV8.out.blk.cell 0 _ rfl; have g1 := HV8.out.blk.cell 1 _ rfl; have i0 := HV8.out.blk.frozen 0; have i1 := HV8.out.blk.frozen 1
                refine tree_one rfl rfl ?_
                go_simp
                refine ⟨⟨⟨_, HP.out.bel⟩, rfl⟩, ?_⟩
                go_simp
                refine tree_still rfl rfl ?_; go_big_quiet_step (fail); refine wpQuiet_nil ?_
                refine tree_done ?_
                go_wp2
                go_meet
                exact ⟨_, _, _, rfl, rfl, HP⟩
            case rest =>
              obtain ⟨ub, uz, uy, htv, hkv, HP⟩ := hcut
              rename World => w5
              subst htv
              subst hkv
              have hb45 := HP.out.bel
              have HT5 : Hid (VarAt w5 ub 28 (.slice uz m' uy) ⟨L, E⟩) := HP.out.var
              have HV5 : Hid (VarAt w5 tb 28 (.slice ta tm tq) T) := (show VarAt _ _ _ _ _ from HV4.out.below hb45)
              have HS5 : Hid (VarAt w5 sb 28 (.slice sa m sq) S) := (show VarAt _ _ _ _ _ from HS4.out.below hb45)
              have HB5 : Hid (Below wy.heap.size wy w5) := (show Below _ _ _ from bnext HB4.out hb45)
              clear hb45 HP HV4 HS4 HOw HAp HD4 ne s0 s1 e0 e1 e2 e3 e4 e5 HCg HQs
              by_cases hK : K = 0
              · subst hK
                obtain ⟨hok, hlen, hE1, hE2, hkp⟩ := apply_ok HI.out.1 (show (applyM T ⟨ck, cw, cp, cm, cws, co⟩).2 = 0 by rw [HAe.out])
                have hgg := Gone.apply (who := who) (lim := lim) (t := if S.e = -1 then -2 else S.e) (f := mo.f) (by split <;> omega) HI.out.1 HI.out.2.2.2.2 (show (applyM T ⟨ck, cw, cp, cm, cws, co⟩).2 = 0 by rw [HAe.out])
                rw [HAe.out] at hok hlen hE1 hgg
                have HOk : Hid (MOk ⟨L, E⟩ ∧ m' = L.length ∧ m' ≤ 62 + (k2 + 1) ∧ S.e ≤ E ∧ ∃ y, findM L who = some y ∧ y.t = (if S.e = -1 then -2 else S.e) ∧ y.l = lim ∧ y.f = mo.f) := (show _ ∧ _ ∧ _ ∧ _ ∧ _ from by
                  dsimp only at hlen hE1
                  have h1 := HM'.out
                  have h2 := HI.out.2
                  exact ⟨hok, h1, by omega, by omega, hgg⟩)
                have HBz : Hid (Below wy.heap.size wy (putS w5 tb (.slice uz m' uy) E)) := (show Below _ _ _ from putS_below HB5.out HTb.out.2)
                have HVz : Hid (VarAt (putS w5 tb (.slice uz m' uy) E) tb 28 (.slice uz m' uy) ⟨L, E⟩) := (show VarAt _ _ _ _ _ from putS_at HV5.out HT5.out.row)
                have HSz : Hid (VarAt (putS w5 tb (.slice uz m' uy) E) sb 28 (.slice sa m sq) S) := (show VarAt _ _ _ _ _ from putS_var HV5.out HS5.out HT5.out.row (by have := HTb.out.1; omega))
                have k0 := HT5.out.blk.cell 0 _ rfl; have k1 := HT5.out.blk.cell 1 _ rfl
                have r0 := HV5.out.blk.cell 0 _ rfl; have r1 := HV5.out.blk.cell 1 _ rfl; have p0 := HV5.out.blk.frozen 0; have p1 := HV5.out.blk.frozen 1
                clear hok hlen hE1 hE2 hkp HAe HI hgg
                go_wp2
                go_roundw
                case rel => exact ⟨k2 + 1, ⟨L, E⟩, uz, uy, m', by omega, by go_num, HVz, HSz, HOk, HBz⟩
                case measure => simp [intOf]; omega
              · go_wp2
                go_roundw
                case rel => exact ⟨k2 + 1, T, ta, tq, tm, by omega, by go_num, HV5, HS5, ⟨HI.out.1, HI.out.2.1, by have := HI.out.2.2.1; omega, HI.out.2.2.2⟩, HB5⟩
                case measure => simp [intOf]; omega
          · obtain ⟨ht1, ht2⟩ := HI.out.1.e
            have hST := HI.out.2.2.2.1
            have HMay : Hid (∀ e : Int, ((S.e < e ∨ lim ≤ idx) → -1 ≤ e → mayM T who idx e ≠ 0) ∧ (idx < lim → 0 ≤ e → e ≤ S.e → mayM T who idx e = mayM S who idx e)) := fun e => by
              obtain ⟨y, q1, q2, q3, q4⟩ := HI.out.2.2.2.2
              exact gone_may HGo.out.1 HGo.out.2.1 HGo.out.2.2 hs1 hST q1 q2 q3 q4
            have HCt : Hid (∀ (w' : World) (e : Int), Below w4.heap.size w4 w' → Calls Try.prog 24 #[.agg #[.slice ta tm tq, .int .i64 T.e], .int .i64 who, .int .i64 idx, .int .i64 e] w' fun r w'' => r = .returned (.int .i64 (mayM T who idx e)) ∧ Below w'.heap.size w' w'') := fun w' e hb => may24 (HV4.out.row.below hb) T.e who idx e
            have HCs2 : Hid (∀ (w' : World) (e : Int), Below w4.heap.size w4 w' → Calls Try.prog 24 #[.agg #[.slice sa m sq, .int .i64 S.e], .int .i64 who, .int .i64 idx, .int .i64 e] w' fun r w'' => r = .returned (.int .i64 (mayM S who idx e)) ∧ Below w'.heap.size w' w'') := fun w' e hb => may24 (HS4.out.row.below hb) S.e who idx e
            clear HI HGo
            go_wp2
            generalize wr = wold2 at *
            go_loopw [23] (fun ev wr => ∃ e : Int, -1 ≤ e ∧ e ≤ T.e + 2 ∧ ev = .int .i64 e ∧ Hid (Below w4.heap.size w4 wr)) (fun ev _ => (T.e + 2 - intOf ev).toNat)
            case atStart => exact ⟨-1, by omega, by omega, rfl, (show Below _ _ _ from Below.refl _ _)⟩
            case round =>
              obtain ⟨e, he1, he2, rfl, HBr⟩ := hrel
              have HTr : Hid (VarAt wr tb 28 (.slice ta tm tq) T) := (show VarAt _ _ _ _ _ from HV4.out.below HBr.out)
              have k0 := HTr.out.blk.cell 0 _ rfl; have k1 := HTr.out.blk.cell 1 _ rfl
              by_cases hle : e ≤ T.e + 1
              · obtain ⟨M, hM⟩ : ∃ M, M = mayM T who idx e := ⟨_, rfl⟩
                obtain ⟨hA, hB⟩ := HMay.out e
                have HC1 := HCt.out wr e HBr.out
                rw [← hM] at hA hB HC1
                have HC1' : Hid (Calls Try.prog 24 #[.agg #[.slice ta tm tq, .int .i64 T.e], .int .i64 who, .int .i64 idx, .int .i64 e] wr fun r w'' => r = .returned (.int .i64 M) ∧ Below wr.heap.size wr w'') := HC1
                clear HC1 hM
                have HFin : Hid (∀ w', Below w4.heap.size w4 w' → Hid (Below w4.heap.size w4 w')) := fun w' h => h
                by_cases h1 : S.e < e
                · have hM0 : M ≠ 0 := hA (.inl h1) he1
                  clear hA hB
                  have h3 : 0 ≤ e := by omega
                  by_cases h2 : lim ≤ idx
                  all_goals
                    go_wp2_with (go_at_call 24; go_must (refine HC1'.out.mono ?_; rintro r w7 ⟨rfl, hb7⟩; have HB7 : Hid (Below w4.heap.size w4 w7) := (show Below _ _ _ from bnext HBr.out hb7); clear hb7))
                    go_roundw
                    case rel => exact ⟨e + 1, by omega, by omega, by go_num, HB7⟩
                    case measure => simp [intOf]; omega
                · by_cases h2 : lim ≤ idx
                  · have hM0 : M ≠ 0 := hA (.inr h2) he1
                    clear hA hB
                    go_wp2_with (go_at_call 24; go_must (refine HC1'.out.mono ?_; rintro r w7 ⟨rfl, hb7⟩; have HB7 : Hid (Below w4.heap.size w4 w7) := (show Below _ _ _ from bnext HBr.out hb7); clear hb7))
                    go_roundw
                    case rel => exact ⟨e + 1, by omega, by omega, by go_num, HB7⟩
                    case measure => simp [intOf]; omega
                  · by_cases h3 : 0 ≤ e
                    · have hMe : mayM S who idx e = M := (hB (by omega) h3 (by omega)).symm
                      clear hA hB
                      have HC2 : Hid (∀ w', Below w4.heap.size w4 w' → Calls Try.prog 24 #[.agg #[.slice sa m sq, .int .i64 S.e], .int .i64 who, .int .i64 idx, .int .i64 e] w' fun r w'' => r = .returned (.int .i64 M) ∧ Below w'.heap.size w' w'') := fun w' hb => by
                        have := HCs2.out w' e hb
                        rw [hMe] at this
                        exact this
                      have HS0 : Hid (∀ w', Below w4.heap.size w4 w' → w'.cell? ⟨sb, 0, none⟩ = some (.slice sa m sq) ∧ w'.cell? ⟨sb, 1, none⟩ = some (.int .i64 S.e)) := fun w' hb => ⟨(HS4.out.below hb).blk.cell 0 _ rfl, (HS4.out.below hb).blk.cell 1 _ rfl⟩
                      clear hMe
                      by_cases hM0 : M = 0
                      all_goals
                        go_wp2_with fail
                        refine HC1'.out.mono ?_
                        rintro r w7 ⟨rfl, hb7⟩
                        have HB7 : Hid (Below w4.heap.size w4 w7) := (show Below _ _ _ from bnext HBr.out hb7)
                        obtain ⟨z0, z1⟩ := HS0.out w7 HB7.out
                        clear hb7
                        go_wp2_with (go_at_call 24; go_must (refine (HC2.out w7 HB7.out).mono ?_; rintro r w8 ⟨rfl, hb8⟩; have HB8 : Hid (Below w4.heap.size w4 w8) := (show Below _ _ _ from bnext HB7.out hb8); clear hb8))
                        go_roundw
                        case rel => exact ⟨e + 1, by omega, by omega, by go_num, HB8⟩
                        case measure => simp [intOf]; omega
                    · clear hA hB
                      go_wp2_with (go_at_call 24; go_must (refine HC1'.out.mono ?_; rintro r w7 ⟨rfl, hb7⟩; have HB7 : Hid (Below w4.heap.size w4 w7) := (show Below _ _ _ from bnext HBr.out hb7); clear hb7))
                      go_roundw
                      case rel => exact ⟨e + 1, by omega, by omega, by go_num, HB7⟩
                      case measure => simp [intOf]; omega
              · go_wp2_with (go_at_call 9; go_must (refine (HAl.out _).mono ?_; rintro r wz ⟨rfl, hbz⟩; have HBz : Hid (Below wy.heap.size wy wz) := (show Below _ _ _ from bnext (bnext HB4.out HBr.out) hbz); clear hbz))
                go_ret
                exact ⟨rfl, HBz.out⟩
      · go_wp2_with (first
          | (go_at_call 13; go_must (refine HAp.out.mono ?_; rintro r w5 ⟨tz, ty, rfl, hr5, hb5⟩; have HB5 : Hid (Below wy.heap.size wy w5) := (show Below _ _ _ from bnext HB4.out hb5); clear hr5 hb5))
          | (go_at_call 9; go_must (refine (HAl.out _).mono ?_; rintro r wz ⟨rfl, hbz⟩; have HBz : Hid (Below wy.heap.size wy wz) := (show Below _ _ _ from bnext (balloc HB5.out _) hbz); clear hbz)))
        go_ret
        exact ⟨rfl, HBz.out⟩
end Go.Proofs.Ytgoghmabhdkdjaa
