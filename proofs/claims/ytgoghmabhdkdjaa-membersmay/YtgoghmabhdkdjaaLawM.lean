/-
  The walk of MembersMay: who may write which entry in which epoch, behind any log of changes.
-/
import Derived.Test.YtgoghmabhdkdjaaAll
import Derived.Test.YtgoghmabhdkdjaaRfM
namespace Go.Proofs.Ytgoghmabhdkdjaa
set_option linter.unusedVariables false
set_option linter.unusedSimpArgs false
set_option synthInstance.maxSize 20000
set_option maxHeartbeats 2000000
set_option maxRecDepth 20000
open Go.RowKit Go.Maps

theorem light_each2 {cs : List Cq} (h : lightB (cs.map (·.1)) = true) : cs.length ≤ 60 ∧ ∀ q ∈ cs, q.1.ws.length ≤ 20 := by
  unfold lightB at h
  rw [Bool.and_eq_true] at h
  refine ⟨by simpa using h.1, fun q hq => ?_⟩
  have := List.all_eq_true.1 h.2 q.1 (List.mem_map.2 ⟨q, hq, rfl⟩)
  unfold lightC at this
  rw [Bool.and_eq_true] at this
  have := of_decide_eq_true this.1
  exact this.1
set_option maxHeartbeats 8000000 in
theorem may_walk (p : Int) (lv : Value) (cs : List Cq) (who idx ep : Int) (w : World) (hp : U64 p) (hl : ChsAt w lv cs) (hwho : I64 who) (hidx : I64 idx) (hep : I64 ep) : Calls Try.prog 4 #[.int .u64 p, lv, .int .i64 who, .int .i64 idx, .int .i64 ep] w fun r w' => r = .returned (.bool true) ∧ Below w.heap.size w w' := by
  clear hp
  have HLt : Hid (Calls Try.prog 8 #[lv] w fun r w' => r = .returned (.bool (lightB (cs.map (·.1)))) ∧ w' = w) := (show Calls _ _ _ _ _ from light8 hl)
  have HAl : Hid (∀ w, Calls Try.prog 9 #[] w fun r w' => r = .returned (.bool true) ∧ Below w.heap.size w w') := alive9
  obtain ⟨la, lc, rfl⟩ := hl.row.len
  have hc1 : cs.length ≤ lc := hl.row.caps.2.1
  have hc2 : lc ≤ 9223372036854775807 := hl.row.caps.2.2
  cases hlt : lightB (cs.map (·.1))
  · rw [hlt] at HLt
    go_enter Try.func4, Try.ntmps4
    go_wp2_with (first
      | (go_at_call 8; go_must (refine HLt.out.mono ?_; rintro r wy ⟨rfl, rfl⟩))
      | (go_at_call 9; go_must (refine (HAl.out _).mono ?_; rintro r wz ⟨rfl, hbz⟩)))
    go_ret
    exact ⟨rfl, hbz⟩
  · rw [hlt] at HLt
    obtain ⟨h60, hws⟩ := light_each2 hlt
    have HWs : Hid (∀ q ∈ cs, q.1.ws.length ≤ 20) := hws
    have HCs : Hid (ChsAt w (.slice la cs.length lc) cs) := hl
    obtain ⟨n, hn⟩ : ∃ n, n = cs.length := ⟨_, rfl⟩
    have HN : Hid (n = cs.length) := hn
    rw [← hn] at hc1 h60 HCs HLt ⊢
    obtain ⟨i1, i2⟩ := hwho
    obtain ⟨i3, i4⟩ := hidx
    obtain ⟨i5, i6⟩ := hep
    clear hl hlt hws hn
    go_enter Try.func4, Try.ntmps4
    go_wp2_with (go_at_call 8; go_must (refine HLt.out.mono ?_; rintro r wy ⟨rfl, rfl⟩))
    clear HLt
    go_loopw [11, 12] (fun vo iv wr => ∃ (k : Nat) (ds : List Cq) (a : Option Addr) (q : Nat), k ≤ n ∧ iv = .int .i64 k ∧ vo = .slice a k q ∧ Hid (AllAt wy wr wy.heap.size (.slice a k q) ds) ∧ Hid (ds.map (·.1) = (cs.map (·.1)).take k) ∧ Hid (Below wy.heap.size wy wr)) (fun _ iv _ => n - (intOf iv).toNat)
    case atStart => exact ⟨0, [], none, 0, Nat.zero_le _, rfl, rfl, AllAt.nil _ _ _, (show _ = _ by simp), (show Below _ _ _ from Below.refl _ _)⟩
    case round =>
      obtain ⟨k, ds, oa, oq, hk, rfl, rfl, HAt, HDs, HB⟩ := hrel
      have HDl : Hid (ds.length = k) := (show _ = _ by
        have := congrArg List.length HDs.out
        rw [List.length_map, List.length_take, List.length_map, ← HN.out] at this
        omega)
      by_cases hki : k < n
      · obtain ⟨q, hq⟩ : ∃ q, cs[k]? = some q := ⟨_, List.getElem?_eq_getElem (by have := HN.out; omega)⟩
        have hq1 : (cs.map (·.1))[k]? = some q.1 := by rw [List.getElem?_map, hq]; rfl
        obtain ⟨g, off, ea, hr⟩ := (HCs.out.row.below HB.out).at cqf_len hq
        subst ea
        obtain ⟨qs, hcg⟩ := HCs.out.each q (List.mem_of_getElem? hq)
        have hql := HWs.out q (List.mem_of_getElem? hq)
        rw [← hcg.len] at hql
        have HQs : Hid (qs.length ≤ 20) := hql
        have HDs2 : Hid (∀ v : Value × Value, (ds ++ [(q.1, v)]).map (·.1) = (cs.map (·.1)).take (k + 1)) := (show ∀ v : Value × Value, _ from fun v => by
          have h3 := List.getElem?_eq_some_iff.1 hq1
          rw [List.take_succ_eq_append_getElem h3.1, h3.2, List.map_append, HDs.out]
          rfl)
        obtain ⟨⟨ck, cw, cp, cm, cws, co⟩, va, vb⟩ := q
        obtain ⟨⟨xa, na, pa, hva⟩, xb, nb, pb, hvb⟩ := slices_of hcg
        dsimp only at hva hvb hcg
        subst hva hvb
        have HCg : Hid (CgAt wy ⟨ck, cw, cp, cm, cws, co⟩ (.slice xa na pa) (.slice xb nb pb) qs) := hcg
        have HOw : Hid (Calls Try.prog 12 #[.agg #[.int .i64 ck, .int .i64 cw, .int .u64 cp, .int .i64 cm, .slice xa na pa, .slice xb nb pb]] wr fun r w'' => ∃ x nn y, r = .returned (.agg #[.int .i64 ck, .int .i64 cw, .int .u64 cp, .int .i64 cm, .slice x nn y, .slice xb nb pb]) ∧ CgAt w'' ⟨ck, cw, cp, cm, cws, co⟩ (.slice x nn y) (.slice xb nb pb) qs ∧ (∀ j, (Value.slice x nn y).ownBlock = some j → wr.heap.size ≤ j ∧ j < w''.heap.size) ∧ Below wr.heap.size wr w'') := (show Calls _ _ _ _ _ from by
          refine (own12f (HCg.out.below HB.out) (by have := HQs.out; omega)).mono ?_
          rintro r w'' ⟨a', rfl, h1, h3, h2⟩
          obtain ⟨x, y, e⟩ := h1.row.len
          subst e
          exact ⟨x, _, y, rfl, h1, h3, h2⟩)
        have HSn : Hid (∀ w2 w3 v3 x nn y o, Below wr.heap.size wr w2 → CgAt w2 ⟨ck, cw, cp, cm, cws, co⟩ (.slice x nn y) (.slice xb nb pb) qs → (∀ j, (Value.slice x nn y).ownBlock = some j → wr.heap.size ≤ j ∧ j < w2.heap.size) → w3.ownsRow 0 38 6 v3 (ds ++ [((⟨ck, cw, cp, cm, cws, co⟩ : Cg), (Value.slice x nn y), (Value.slice xb nb pb))]).length (flat cqf (ds ++ [((⟨ck, cw, cp, cm, cws, co⟩ : Cg), (Value.slice x nn y), (Value.slice xb nb pb))])) → (w2.alloc o).grownBy w3 (Value.slice oa k oq).ownBlock → (∀ j, v3.ownBlock = some j → (Value.slice oa k oq).ownBlock = some j ∨ (w2.alloc o).heap.size ≤ j) → AllAt wy w3 wy.heap.size v3 (ds ++ [((⟨ck, cw, cp, cm, cws, co⟩ : Cg), (Value.slice x nn y), (Value.slice xb nb pb))]) ∧ Below wy.heap.size wy w3) := fun w2 w3 v3 x nn y o a1 a2 a3 a4 a5 a6 => HAt.out.snoc HB.out.size HB.out (Nat.le_refl _) a1 a2 a3 HCg.out.rd HCg.out.old a4 a5 a6
        have c0 := hr 0 _ rfl; have c1 := hr 1 _ rfl; have c2 := hr 2 _ rfl; have c3 := hr 3 _ rfl; have c4 := hr 4 _ rfl; have c5 := hr 5 _ rfl
        simp only [Nat.add_zero] at c0
        clear hcg hql hr hq hq1
        go_wp2_with (first
          | (go_at_call 12; go_must (refine HOw.out.mono ?_; rintro r w2 ⟨x2, n2, y2, rfl, hc2', hf2, hb2⟩; have HC2 : Hid (CgAt w2 ⟨ck, cw, cp, cm, cws, co⟩ (.slice x2 n2 y2) (.slice xb nb pb) qs) := hc2'; have HF2 : Hid (∀ j, (Value.slice x2 n2 y2).ownBlock = some j → wr.heap.size ≤ j ∧ j < w2.heap.size) := hf2; have HB2 : Hid (Below wr.heap.size wr w2) := hb2; clear hc2' hf2 hb2; have HO2 : Hid (w2.ownsRow 0 38 6 (.slice oa k oq) ds.length (flat cqf ds)) := own_below HAt.out.own HB2.out))
          | (at_builtin; go_must (refine wpList_append_rows ty34 cqf_len (by omega) rfl (.tmp 29) (.tmp 35) rfl _ ds rfl (HO2.out.alloc _) _ [((⟨ck, cw, cp, cm, cws, co⟩ : Cg), (Value.slice x2 n2 y2), (Value.slice xb nb pb))] rfl (rowF_one w2 ((⟨ck, cw, cp, cm, cws, co⟩ : Cg), (Value.slice x2 n2 y2), (Value.slice xb nb pb)) 38) (cqf_one (q := ((⟨ck, cw, cp, cm, cws, co⟩ : Cg), (Value.slice x2 n2 y2), (Value.slice xb nb pb))) HC2.out) (by have := HDl.out; simp; omega) ?_; intro v3 w3 hr3 hg3 hn3; obtain ⟨a3, q3, hv3, hq3⟩ := slice_of_own hr3; have hS := HSn.out w2 w3 v3 x2 n2 y2 _ HB2.out HC2.out HF2.out hr3 hg3 hn3; have hlz : (ds ++ [((⟨ck, cw, cp, cm, cws, co⟩ : Cg), (Value.slice x2 n2 y2), (Value.slice xb nb pb))]).length = k + 1 := (by rw [List.length_append, HDl.out]; rfl); rw [hlz] at hv3; subst hv3; have HS1 : Hid (AllAt wy w3 wy.heap.size (.slice a3 (k + 1) q3) (ds ++ [((⟨ck, cw, cp, cm, cws, co⟩ : Cg), (Value.slice x2 n2 y2), (Value.slice xb nb pb))])) := hS.1; have HS2 : Hid (Below wy.heap.size wy w3) := hS.2; clear hS hr3 hg3 hn3 hq3 hlz)))
        go_roundw
        case rel => exact ⟨k + 1, _, a3, q3, by omega, by go_num, rfl, HS1, HDs2.out (_, _), HS2⟩
        case measure => simp [intOf]; omega
      · have HMp : Hid (ds.map (·.1) = cs.map (·.1)) := (show _ = _ by rw [HDs.out, List.take_of_length_le (by rw [List.length_map]; have := HN.out; omega)])
        obtain ⟨w4, hw4⟩ : ∃ w4, w4 = wr := ⟨_, rfl⟩
        rw [← hw4] at HAt HB ⊢
        clear hw4
        obtain ⟨R, hR⟩ : ∃ R, R = behM p (cs.map (·.1)) := ⟨_, rfl⟩
        have HR : Hid (R = behM p (cs.map (·.1))) := hR
        obtain ⟨rm, hrm⟩ : ∃ rm, rm = R.1.l.length := ⟨_, rfl⟩
        have HRm : Hid (rm = R.1.l.length) := hrm
        have HEq : Hid (mayR R.1 who idx ep = mayM R.1 who idx ep) := (show _ = _ by rw [hR]; exact mayR_eq (behM_ok p _).1 (behM_ok p _).2.1 who idx ep)
        obtain ⟨rk, hrk⟩ : ∃ rk : Nat, rk = R.2.1 := ⟨_, rfl⟩
        obtain ⟨rc, hrc⟩ : ∃ rc : Int, rc = R.2.2 := ⟨_, rfl⟩
        have H22 : Hid (Calls Try.prog 22 #[.slice oa k oq, .int .u64 p] w4 fun r w' => ∃ x q, r = .returned (.tuple #[.agg #[.slice x rm q, .int .i64 R.1.e], .int .i64 (rk : Nat), .int .i64 rc]) ∧ RowF mc w' (.slice x rm q) R.1.l ∧ Below w4.heap.size w4 w') := (show Calls _ _ _ _ _ from by
          refine (behind22 p HAt.out.chs (by have := HDl.out; omega)).mono ?_
          rintro r w' ⟨v, rfl, hr, hb⟩
          rw [HMp.out, ← hR] at hr
          obtain ⟨x, q, e⟩ := hr.len
          rw [← hrm] at e
          subst e
          refine ⟨x, q, ?_, hr, hb⟩
          rw [HMp.out, ← hR, hrk, hrc]
          rfl)
        have H23 : Hid (∀ w', Below wy.heap.size wy w' → Calls Try.prog 23 #[.slice la n lc, .int .u64 p] w' fun r w'' => ∃ x q, r = .returned (.tuple #[.agg #[.slice x rm q, .int .i64 R.1.e], .int .i64 (rk : Nat), .int .i64 rc]) ∧ RowF mc w'' (.slice x rm q) R.1.l ∧ Below w'.heap.size w' w'') := fun w' hb => by
          refine (rbehind23 p (HCs.out.below hb) (by have := HN.out; omega)).mono ?_
          rintro r w'' ⟨v, rfl, hr, hb⟩
          rw [← hR] at hr
          obtain ⟨x, q, e⟩ := hr.len
          rw [← hrm] at e
          subst e
          refine ⟨x, q, ?_, hr, hb⟩
          rw [← hR, hrk, hrc]
          rfl
        clear hR hrm hrk hrc
        go_upto_region 9 with (go_at_call 22; go_must (refine H22.out.mono ?_; rintro r w5 ⟨x5, q5, rfl, hr5, hb5⟩))
        have HT6 : Hid (VarAt (w5.alloc (.cells #[.slice x5 rm q5, .int .i64 R.1.e] 28)) w5.heap.size 28 (.slice x5 rm q5) R.1) := (show VarAt _ _ _ _ _ from var_new (S := R.1) 28 hr5)
        have HB6 : Hid (Below wy.heap.size wy (w5.alloc (.cells #[.slice x5 rm q5, .int .i64 R.1.e] 28))) := (show Below _ _ _ from balloc (bnext HB.out hb5) _)
        obtain ⟨tb, htb⟩ : ∃ tb, tb = w5.heap.size := ⟨_, rfl⟩
        rw [← htb] at HT6 ⊢
        generalize w5.alloc (.cells #[.slice x5 rm q5, .int .i64 R.1.e] 28) = w6 at *
        clear hr5 hb5 htb H22
        go_upto_region 10 with (go_at_call 23; go_must (refine (H23.out w6 HB6.out).mono ?_; rintro r w7 ⟨x7, q7, rfl, hr7, hb7⟩))
        have HU8 : Hid (VarAt (w7.alloc (.cells #[.slice x7 rm q7, .int .i64 R.1.e] 32)) w7.heap.size 32 (.slice x7 rm q7) R.1) := (show VarAt _ _ _ _ _ from var_new (S := R.1) 32 hr7)
        have hb68 : Below w6.heap.size w6 (w7.alloc (.cells #[.slice x7 rm q7, .int .i64 R.1.e] 32)) := balloc hb7 _
        have HT8 : Hid (VarAt (w7.alloc (.cells #[.slice x7 rm q7, .int .i64 R.1.e] 32)) tb 28 (.slice x5 rm q5) R.1) := (show VarAt _ _ _ _ _ from HT6.out.below hb68)
        have HB8 : Hid (Below wy.heap.size wy (w7.alloc (.cells #[.slice x7 rm q7, .int .i64 R.1.e] 32))) := (show Below _ _ _ from bnext HB6.out hb68)
        obtain ⟨ub, hub⟩ : ∃ ub, ub = w7.heap.size := ⟨_, rfl⟩
        rw [← hub] at HU8 ⊢
        generalize w7.alloc (.cells #[.slice x7 rm q7, .int .i64 R.1.e] 32) = w8 at *
        clear hr7 hb7 hub hb68 HT6 HB6 H23
        obtain ⟨M, hM⟩ : ∃ M, M = mayM R.1 who idx ep := ⟨_, rfl⟩
        have H24 : Hid (∀ w', Below w8.heap.size w8 w' → Calls Try.prog 24 #[.agg #[.slice x5 rm q5, .int .i64 R.1.e], .int .i64 who, .int .i64 idx, .int .i64 ep] w' fun r w'' => r = .returned (.int .i64 M) ∧ Below w8.heap.size w8 w'') := fun w' hb => by
          refine (may24 (HT8.out.row.below hb) R.1.e who idx ep).mono ?_
          rintro r w'' ⟨rfl, hb'⟩
          exact ⟨by rw [hM], bnext hb hb'⟩
        have H25 : Hid (∀ w', Below w8.heap.size w8 w' → Calls Try.prog 25 #[.agg #[.slice x7 rm q7, .int .i64 R.1.e], .int .i64 who, .int .i64 idx, .int .i64 ep] w' fun r w'' => r = .returned (.int .i64 M) ∧ Below w8.heap.size w8 w'') := fun w' hb => by
          refine (rmay25 (HU8.out.row.below hb) R.1.e who idx ep).mono ?_
          rintro r w'' ⟨rfl, hb'⟩
          exact ⟨by rw [hM, ← HEq.out], bnext hb hb'⟩
        have H9 : Hid (∀ w', Below w8.heap.size w8 w' → Calls Try.prog 9 #[] w' fun r w'' => r = .returned (.bool true) ∧ Below w8.heap.size w8 w'') := fun w' hb => by
          refine (HAl.out w').mono ?_
          rintro r w'' ⟨rfl, hb'⟩
          exact ⟨rfl, bnext hb hb'⟩
        clear hM
        have hcl : ∀ (z : WIn (fun w' => Below w8.heap.size w8 w')) p v, w8.cell? p = some v → z.w.cell? p = some v := fun z p v hp => (z.ok.cell (World.block_lt_of_cell? w8 _ hp)).trans hp
        have s0' := fun z => hcl z _ _ (HT8.out.blk.cell 0 _ rfl); have s1 := fun z => hcl z _ _ (HT8.out.blk.cell 1 _ rfl)
        have t0 := fun z => hcl z _ _ (HU8.out.blk.cell 0 _ rfl); have t1 := fun z => hcl z _ _ (HU8.out.blk.cell 1 _ rfl)
        have HD8 : Hid (Below w8.heap.size w8 w8.drew) := (show Below _ _ _ from (Below.refl _ _).drew)
        have ne : Nonempty (WIn (fun w' => Below w8.heap.size w8 w')) := ⟨⟨w8, Below.refl _ _⟩⟩
        have hMM : (M == M) = true := by simp
        clear hcl
        refine wp_region_ord (C := fun w' => ∃ z : WIn (fun w' => Below w8.heap.size w8 w'), w' = z.w) [(false, 0), (false, 1), (false, 2), (false, 3), (false, 5), (false, 6), (false, 7), (false, 8), (true, 4), (true, 9), (false, 10), (false, 11), (true, 12), (false, 13), (false, 14)] (by kernel_rfl) (by kernel_rfl) ⟨⟨w8.drew, HD8.out⟩, rfl⟩ ?_
        iterate 8 (refine ord_still rfl rfl ?_; go_big_quiet_step (fail); refine wpQuiet_nil ?_)
        refine ord_mem rfl rfl ?_
        go_simp
        refine (H24.out w8.drew HD8.out).mono ?_
        rintro r w9 ⟨rfl, hb9⟩
        have HB9 : Hid (Below w8.heap.size w8 w9) := hb9
        clear hb9
        refine ⟨⟨⟨_, HB9.out⟩, rfl⟩, ?_⟩
        go_simp
        refine ord_mem rfl rfl ?_
        go_simp
        refine (H25.out w9 HB9.out).mono ?_
        rintro r w10 ⟨rfl, hb10⟩
        have HB10 : Hid (Below w8.heap.size w8 w10) := hb10
        clear hb10
        refine ⟨⟨⟨_, HB10.out⟩, rfl⟩, ?_⟩
        go_simp
        iterate 2 (refine ord_still rfl rfl ?_; go_big_quiet_step (fail); refine wpQuiet_nil ?_)
        refine ord_mem rfl rfl ?_
        go_simp
        refine (H9.out w10 HB10.out).mono ?_
        rintro r w11 ⟨rfl, hb11⟩
        have HB11 : Hid (Below w8.heap.size w8 w11) := hb11
        clear hb11
        refine ⟨⟨⟨_, HB11.out⟩, rfl⟩, ?_⟩
        go_simp
        iterate 2 (refine ord_still rfl rfl ?_; go_big_quiet_step (fail); refine wpQuiet_nil ?_)
        refine ord_end ?_
        have HBz : Hid (Below wy.heap.size wy w11) := (show Below _ _ _ from bnext HB8.out HB11.out)
        clear s0' s1 t0 t1 ne
        go_wp2
        go_ret
        exact ⟨rfl, HBz.out⟩
end Go.Proofs.Ytgoghmabhdkdjaa
