/-
  The walk of MembersPlays, the law itself.
-/
import Derived.Test.YtgoghmabhdkdjaaPlA
namespace Go.Proofs.Ytgoghmabhdkdjaa
set_option linter.unusedVariables false
set_option linter.unusedSimpArgs false
set_option synthInstance.maxSize 20000
set_option maxHeartbeats 2000000
set_option maxRecDepth 20000
open Go.RowKit Go.Maps

theorem apply_len {S : Sm} {c : Cg} (h : MOk S) : (applyM S c).1.l.length ≤ S.l.length + 1 := by
  by_cases h0 : (applyM S c).2 = 0
  · exact (apply_ok h h0).2.1
  · have : (applyM S c).1 = zsm := by
      unfold applyM at h0 ⊢
      by_cases hr : rightB c = true
      · rw [if_pos hr] at h0 ⊢
        by_cases ht : turnK S c = 0
        · rw [if_pos ht] at h0; exact absurd rfl h0
        · rw [if_neg ht]
      · rw [if_neg hr]
    rw [this]
    exact Nat.zero_le _
set_option maxHeartbeats 32000000 in
theorem plays_walk (p : Int) (lv : Value) (cs : List Cq) (who : Int) (w : World) (hp : U64 p) (hl : ChsAt w lv cs) (hwho : I64 who) : Calls Try.prog 3 #[.int .u64 p, lv, .int .i64 who] w fun r w' => r = .returned (.bool true) ∧ Below w.heap.size w w' := by
  clear hp
  have HLt : Hid (Calls Try.prog 8 #[lv] w fun r w' => r = .returned (.bool (lightB (cs.map (·.1)))) ∧ w' = w) := (show Calls _ _ _ _ _ from light8 hl)
  have HAl : Hid (∀ w, Calls Try.prog 9 #[] w fun r w' => r = .returned (.bool true) ∧ Below w.heap.size w w') := alive9
  obtain ⟨la, lc, rfl⟩ := hl.row.len
  have hc1 : cs.length ≤ lc := hl.row.caps.2.1
  have hc2 : lc ≤ 9223372036854775807 := hl.row.caps.2.2
  cases hlt : lightB (cs.map (·.1))
  · rw [hlt] at HLt
    go_enter Try.func3, Try.ntmps3
    go_wp2_with (first
      | (go_at_call 8; go_must (refine HLt.out.mono ?_; rintro r wy ⟨rfl, rfl⟩))
      | (go_at_call 9; go_must (refine (HAl.out _).mono ?_; rintro r wz ⟨rfl, hbz⟩)))
    go_ret
    exact ⟨rfl, hbz⟩
  · rw [hlt] at HLt
    obtain ⟨h60, hws⟩ := light_each3 hlt
    have HWs : Hid (∀ q ∈ cs, q.1.ws.length ≤ 20) := hws
    have HCs : Hid (ChsAt w (.slice la cs.length lc) cs) := hl
    obtain ⟨n, hn⟩ : ∃ n, n = cs.length := ⟨_, rfl⟩
    have HN : Hid (n = cs.length) := hn
    have HN1 : Hid (∀ w : World, Calls Try.prog 10 #[.int .u64 p] w fun r w' => ∃ a q, r = .returned (.agg #[.slice a 1 q, .int .i64 (-1)]) ∧ RowF mc w' (.slice a 1 q) [⟨0, p, 0, -1, 0⟩] ∧ Below w.heap.size w w') := fun w => by
      refine (new10 p w).mono ?_
      rintro r w' ⟨v, rfl, hr, hb⟩
      obtain ⟨a, q, rfl⟩ := hr.len
      exact ⟨a, q, rfl, hr, hb⟩
    have HN2 : Hid (∀ w : World, Calls Try.prog 11 #[.int .u64 p] w fun r w' => ∃ a q, r = .returned (.agg #[.slice a 1 q, .int .i64 (-1)]) ∧ RowF mc w' (.slice a 1 q) [⟨0, p, 0, -1, 0⟩] ∧ Below w.heap.size w w') := fun w => by
      refine (rnew11 p w).mono ?_
      rintro r w' ⟨v, rfl, hr, hb⟩
      obtain ⟨a, q, rfl⟩ := hr.len
      exact ⟨a, q, rfl, hr, hb⟩
    rw [← hn] at hc1 h60 HCs HLt ⊢
    obtain ⟨i1, i2⟩ := hwho
    clear hl hlt hws hn
    go_enter Try.func3, Try.ntmps3
    go_upto_region 4 with (first
      | (go_at_call 8; go_must (refine HLt.out.mono ?_; rintro r wy ⟨rfl, rfl⟩))
      | (go_at_call 10; go_must (refine (HN1.out _).mono ?_; rintro r w1 ⟨a1, q1, rfl, hr1, hb1⟩))
      | (go_at_call 11; go_must (refine (HN2.out _).mono ?_; rintro r w2 ⟨a2, q2, rfl, hr2, hb2⟩)))
    have HR12 : Hid (RowF mc w2 (.slice a1 1 q1) [⟨0, p, 0, -1, 0⟩]) := (show RowF _ _ _ _ from hr1.below hb2)
    have hb3 : Below w2.heap.size w2 ((w2.alloc (.cells #[.slice a1 1 q1, .int .i64 (-1)] 28)).alloc (.cells #[.slice a2 1 q2, .int .i64 (-1)] 32)) := balloc2 _ _ _
    have HV1 : Hid (VarAt ((w2.alloc (.cells #[.slice a1 1 q1, .int .i64 (-1)] 28)).alloc (.cells #[.slice a2 1 q2, .int .i64 (-1)] 32)) w2.heap.size 28 (.slice a1 1 q1) (s0 p)) := (show VarAt _ _ _ _ _ from ⟨blk2_0 w2 [.slice a1 1 q1, .int .i64 (-1)] [.slice a2 1 q2, .int .i64 (-1)] 28 32, HR12.out.below hb3⟩)
    have HV2 : Hid (VarAt ((w2.alloc (.cells #[.slice a1 1 q1, .int .i64 (-1)] 28)).alloc (.cells #[.slice a2 1 q2, .int .i64 (-1)] 32)) (w2.heap.size + 1) 32 (.slice a2 1 q2) (s0 p)) := (show VarAt _ _ _ _ _ from ⟨blk2_1 w2 [.slice a1 1 q1, .int .i64 (-1)] [.slice a2 1 q2, .int .i64 (-1)] 28 32, hr2.below hb3⟩)
    have HB3 : Hid (Below wy.heap.size wy ((w2.alloc (.cells #[.slice a1 1 q1, .int .i64 (-1)] 28)).alloc (.cells #[.slice a2 1 q2, .int .i64 (-1)] 32))) := (show Below _ _ _ from bnext (bnext hb1 hb2) hb3)
    obtain ⟨sb, hsb⟩ : ∃ sb, sb = w2.heap.size := ⟨_, rfl⟩
    obtain ⟨mb, hmb⟩ : ∃ mb, mb = sb + 1 := ⟨_, rfl⟩
    obtain ⟨B, hB⟩ : ∃ B, B = sb + 2 := ⟨_, rfl⟩
    have HBk : Hid (sb < B ∧ mb < B ∧ wy.heap.size ≤ sb ∧ wy.heap.size ≤ mb ∧ sb ≠ mb ∧ wy.heap.size ≤ B) := (show _ ∧ _ ∧ _ ∧ _ ∧ _ ∧ _ from by
      have h1 := hb1.size
      have h2 := hb2.size
      omega)
    have HBs : Hid (B ≤ ((w2.alloc (.cells #[.slice a1 1 q1, .int .i64 (-1)] 28)).alloc (.cells #[.slice a2 1 q2, .int .i64 (-1)] 32)).heap.size) := (show _ ≤ _ by simp; omega)
    rw [← hsb] at HV1 HV2 ⊢
    rw [← hmb] at HV2 ⊢
    generalize (w2.alloc (.cells #[.slice a1 1 q1, .int .i64 (-1)] 28)).alloc (.cells #[.slice a2 1 q2, .int .i64 (-1)] 32) = w3 at *
    have HP0 : Hid (PlSt wy w3 B sb mb (s0 p) (.slice a1 1 q1) (.slice a2 1 q2) (.slice none 0 0) []) := (show PlSt _ _ _ _ _ _ _ _ _ _ from ⟨HV1.out, HV2.out, AllAt.nil _ _ _, (fun j hj e => by cases e), (fun j hj e => by cases e), HB3.out, sok_new p, by simp [s0]⟩)
    clear hr1 hb1 hr2 hb2 hb3 hsb hmb hB HR12 HV1 HV2 HB3 HN1 HN2 HLt
    go_wp2
    go_loopw [9, 10] (fun vo iv wr => ∃ (k : Nat) (S : Sm) (ds : List Cq) (a : Option Addr) (q : Nat) (a' : Option Addr) (q' : Nat) (oa : Option Addr) (oq m : Nat), k ≤ n ∧ iv = .int .i64 k ∧ vo = .slice oa k oq ∧ Hid (PlSt wy wr B sb mb S (.slice a m q) (.slice a' m q') (.slice oa k oq) ds) ∧ Hid (ds.map (·.1) = (cs.map (·.1)).take k ∧ m = S.l.length ∧ m ≤ k + 1) ∧ Hid (B ≤ wr.heap.size)) (fun _ iv _ => n - (intOf iv).toNat)
    case atStart => exact ⟨0, s0 p, [], a1, q1, a2, q2, none, 0, 1, Nat.zero_le _, rfl, rfl, HP0, ⟨by simp, rfl, Nat.le_refl _⟩, HBs⟩
    case round =>
      clear HP0 HBs
      obtain ⟨k, S, ds, sa, sq, ma, mq, oa, oq, m, hk, rfl, rfl, HP, HI, HBs⟩ := hrel
      have HDl : Hid (ds.length = k) := (show _ = _ by
        have := congrArg List.length HI.out.1
        rw [List.length_map, List.length_take, List.length_map, ← HN.out] at this
        omega)
      by_cases hki : k < n
      · obtain ⟨q, hq⟩ : ∃ q, cs[k]? = some q := ⟨_, List.getElem?_eq_getElem (by have := HN.out; omega)⟩
        have hq1 : (cs.map (·.1))[k]? = some q.1 := by rw [List.getElem?_map, hq]; rfl
        have HRow : Hid (∀ w', Below wy.heap.size wy w' → ∀ g off, la = some ⟨g, off, none⟩ → w'.rangeAt g (off + k * 6) (cqf q)) := fun w' hb g off e => by
          obtain ⟨g', off', e', hr'⟩ := (HCs.out.row.below hb).at cqf_len hq
          rw [e] at e'
          cases e'
          exact hr'
        obtain ⟨g, off, ea, hr⟩ := (HCs.out.row.below HP.out.bel).at cqf_len hq
        subst ea
        have HRow : Hid (∀ w', Below wy.heap.size wy w' → w'.rangeAt g (off + k * 6) (cqf q)) := fun w' hb => HRow.out w' hb g off rfl
        obtain ⟨qs, hcg⟩ := HCs.out.each q (List.mem_of_getElem? hq)
        have hql := HWs.out q (List.mem_of_getElem? hq)
        rw [← hcg.len] at hql
        have HQs : Hid (qs.length ≤ 20) := hql
        have HDs2 : Hid (∀ v : Value × Value, (ds ++ [(q.1, v)]).map (·.1) = (cs.map (·.1)).take (k + 1)) := (show ∀ v : Value × Value, _ from fun v => by
          have h3 := List.getElem?_eq_some_iff.1 hq1
          rw [List.take_succ_eq_append_getElem h3.1, h3.2, List.map_append, HI.out.1]
          rfl)
        obtain ⟨⟨ck, cw, cp, cm, cws, co⟩, va, vb⟩ := q
        obtain ⟨⟨xa, na, pa, hva⟩, xb, nb, pb, hvb⟩ := slices_of hcg
        dsimp only at hva hvb hcg
        subst hva hvb
        have HCg : Hid (CgAt wy ⟨ck, cw, cp, cm, cws, co⟩ (.slice xa na pa) (.slice xb nb pb) qs) := hcg
        have HOw : Hid (Calls Try.prog 12 #[.agg #[.int .i64 ck, .int .i64 cw, .int .u64 cp, .int .i64 cm, .slice xa na pa, .slice xb nb pb]] wr fun r w'' => ∃ x nn y, r = .returned (.agg #[.int .i64 ck, .int .i64 cw, .int .u64 cp, .int .i64 cm, .slice x nn y, .slice xb nb pb]) ∧ CgAt w'' ⟨ck, cw, cp, cm, cws, co⟩ (.slice x nn y) (.slice xb nb pb) qs ∧ (∀ j, (Value.slice x nn y).ownBlock = some j → wr.heap.size ≤ j ∧ j < w''.heap.size) ∧ Below wr.heap.size wr w'') := (show Calls _ _ _ _ _ from by
          refine (own12f (HCg.out.below HP.out.bel) (by have := HQs.out; omega)).mono ?_
          rintro r w'' ⟨a', rfl, h1, h3, h2⟩
          obtain ⟨x, y, e⟩ := h1.row.len
          subst e
          exact ⟨x, _, y, rfl, h1, h3, h2⟩)
        have HSn : Hid (∀ w2 w3 v3 x nn y o, Below wr.heap.size wr w2 → CgAt w2 ⟨ck, cw, cp, cm, cws, co⟩ (.slice x nn y) (.slice xb nb pb) qs → (∀ j, (Value.slice x nn y).ownBlock = some j → wr.heap.size ≤ j ∧ j < w2.heap.size) → w3.ownsRow 0 38 6 v3 (ds ++ [((⟨ck, cw, cp, cm, cws, co⟩ : Cg), (Value.slice x nn y), (Value.slice xb nb pb))]).length (flat cqf (ds ++ [((⟨ck, cw, cp, cm, cws, co⟩ : Cg), (Value.slice x nn y), (Value.slice xb nb pb))])) → (w2.alloc o).grownBy w3 (Value.slice oa k oq).ownBlock → (∀ j, v3.ownBlock = some j → (Value.slice oa k oq).ownBlock = some j ∨ (w2.alloc o).heap.size ≤ j) → PlSt wy w3 B sb mb S (.slice sa m sq) (.slice ma m mq) v3 (ds ++ [((⟨ck, cw, cp, cm, cws, co⟩ : Cg), (Value.slice x nn y), (Value.slice xb nb pb))]) ∧ B ≤ w3.heap.size) := fun w2 w3 v3 x nn y o a1 a2 a3 a4 a5 a6 => ⟨HP.out.snoc HBk.out.1 HBk.out.2.1 HBs.out HBk.out.2.2.2.2.2 a1 a2 a3 HCg.out.rd HCg.out.old a4 a5 a6, by
          have h1 := HBs.out
          have h2 := a1.size
          have h3 := a5.size
          simp at h3
          omega⟩
        have c0 := hr 0 _ rfl; have c1 := hr 1 _ rfl; have c2 := hr 2 _ rfl; have c3 := hr 3 _ rfl; have c4 := hr 4 _ rfl; have c5 := hr 5 _ rfl
        simp only [Nat.add_zero] at c0
        clear hcg hql hr hq hq1
        go_upto_region 9 with (first
          | (go_at_call 12; go_must (refine HOw.out.mono ?_; rintro r w2 ⟨x2, n2, y2, rfl, hc2', hf2, hb2⟩; have HC2 : Hid (CgAt w2 ⟨ck, cw, cp, cm, cws, co⟩ (.slice x2 n2 y2) (.slice xb nb pb) qs) := hc2'; have HF2 : Hid (∀ j, (Value.slice x2 n2 y2).ownBlock = some j → wr.heap.size ≤ j ∧ j < w2.heap.size) := hf2; have HB2 : Hid (Below wr.heap.size wr w2) := hb2; clear hc2' hf2 hb2; have HO2 : Hid (w2.ownsRow 0 38 6 (.slice oa k oq) ds.length (flat cqf ds)) := own_below HP.out.all.own HB2.out))
          | (at_builtin; go_must (refine wpList_append_rows ty34 cqf_len (by omega) rfl (.tmp 42) (.tmp 48) rfl _ ds rfl (HO2.out.alloc _) _ [((⟨ck, cw, cp, cm, cws, co⟩ : Cg), (Value.slice x2 n2 y2), (Value.slice xb nb pb))] rfl (rowF_one w2 ((⟨ck, cw, cp, cm, cws, co⟩ : Cg), (Value.slice x2 n2 y2), (Value.slice xb nb pb)) 38) (cqf_one (q := ((⟨ck, cw, cp, cm, cws, co⟩ : Cg), (Value.slice x2 n2 y2), (Value.slice xb nb pb))) HC2.out) (by have := HDl.out; simp; omega) ?_; intro v3 w3 hr3 hg3 hn3; obtain ⟨a3, q3, hv3, hq3⟩ := slice_of_own hr3; have hS := HSn.out w2 w3 v3 x2 n2 y2 _ HB2.out HC2.out HF2.out hr3 hg3 hn3; have hlz : (ds ++ [((⟨ck, cw, cp, cm, cws, co⟩ : Cg), (Value.slice x2 n2 y2), (Value.slice xb nb pb))]).length = k + 1 := (by rw [List.length_append, HDl.out]; rfl); rw [hlz] at hv3; subst hv3; have HS1 : Hid (PlSt wy w3 B sb mb S (.slice sa m sq) (.slice ma m mq) (.slice a3 (k + 1) q3) (ds ++ [((⟨ck, cw, cp, cm, cws, co⟩ : Cg), (Value.slice x2 n2 y2), (Value.slice xb nb pb))])) := hS.1; have HS2 : Hid (B ≤ w3.heap.size) := hS.2; clear hS hr3 hg3 hn3 hq3 hlz)))
        have HD2 : Hid ((ds ++ [((⟨ck, cw, cp, cm, cws, co⟩ : Cg), (Value.slice x2 n2 y2), (Value.slice xb nb pb))]).map (·.1) = (cs.map (·.1)).take (k + 1)) := HDs2.out (_, _)
        have HEl : Hid ((ds ++ [((⟨ck, cw, cp, cm, cws, co⟩ : Cg), (Value.slice x2 n2 y2), (Value.slice xb nb pb))])[k]? = some ((⟨ck, cw, cp, cm, cws, co⟩ : Cg), (Value.slice x2 n2 y2), (Value.slice xb nb pb))) := (show _ = _ by
          rw [List.getElem?_append_right (by have := HDl.out; omega), HDl.out]
          simp)
        have HDl2 : Hid ((ds ++ [((⟨ck, cw, cp, cm, cws, co⟩ : Cg), (Value.slice x2 n2 y2), (Value.slice xb nb pb))]).length = k + 1) := (show _ = _ by rw [List.length_append, HDl.out]; rfl)
        generalize ds ++ [((⟨ck, cw, cp, cm, cws, co⟩ : Cg), (Value.slice x2 n2 y2), (Value.slice xb nb pb))] = ds2 at *
        clear c0 c1 c2 c3 c4 c5 HOw HSn HDs2 HP HBs HC2 HF2 HB2 HO2 HDl
        obtain ⟨qs2, hC3, _⟩ := HS1.out.all.each _ (List.mem_of_getElem? HEl.out)
        dsimp only at hC3
        have HC3 : Hid (CgAt w3 ⟨ck, cw, cp, cm, cws, co⟩ (.slice x2 n2 y2) (.slice xb nb pb) qs2) := hC3
        obtain ⟨ag, ao, ea3, hr3⟩ := (rowF_own cqf_len HS1.out.all.own).at cqf_len HEl.out
        subst ea3
        have hq3c : k + 1 ≤ q3 := by have := (rowF_own cqf_len HS1.out.all.own).caps.2.1; exact this
        have hq3d : q3 ≤ 9223372036854775807 := (rowF_own cqf_len HS1.out.all.own).caps.2.2
        have hcl : ∀ (z : WIn (fun w' => Below w3.heap.size w3 w')) p v, w3.cell? p = some v → z.w.cell? p = some v := fun z p v hp => (z.ok.cell (World.block_lt_of_cell? w3 _ hp)).trans hp
        have v0 := fun z => hcl z _ _ (HS1.out.s.blk.cell 0 _ rfl); have v1 := fun z => hcl z _ _ (HS1.out.s.blk.cell 1 _ rfl)
        have e0 := fun z => hcl z _ _ (hr3 0 _ rfl); have e1 := fun z => hcl z _ _ (hr3 1 _ rfl); have e2 := fun z => hcl z _ _ (hr3 2 _ rfl); have e3 := fun z => hcl z _ _ (hr3 3 _ rfl); have e4 := fun z => hcl z _ _ (hr3 4 _ rfl); have e5 := fun z => hcl z _ _ (hr3 5 _ rfl)
        simp only [Nat.add_zero] at e0
        obtain ⟨L, E, K, hAe⟩ : ∃ L E K, applyM S ⟨ck, cw, cp, cm, cws, co⟩ = (⟨L, E⟩, K) := ⟨_, _, _, rfl⟩
        obtain ⟨m', hm'⟩ : ∃ m', m' = L.length := ⟨_, rfl⟩
        have HAe : Hid (applyM S ⟨ck, cw, cp, cm, cws, co⟩ = (⟨L, E⟩, K)) := hAe
        have HM' : Hid (m' = L.length) := hm'
        have HAp : Hid (∀ w', Below w3.heap.size w3 w' → Calls Try.prog 13 #[.agg #[.slice sa m sq, .int .i64 S.e], .agg #[.int .i64 ck, .int .i64 cw, .int .u64 cp, .int .i64 cm, .slice x2 n2 y2, .slice xb nb pb]] w' fun r w'' => ∃ z y', r = .returned (.tuple #[.agg #[.slice z m' y', .int .i64 E], .int .i64 K]) ∧ RowF mc w'' (.slice z m' y') L ∧ (∀ j, (Value.slice z m' y').ownBlock = some j → w3.heap.size ≤ j) ∧ Below w'.heap.size w' w'') := fun w' hb => by
          have h1 := apply13f (S := S) (HS1.out.s.row.below hb) (by have := HI.out.2; omega) HS1.out.ok.e (HC3.out.below hb)
          rw [HAe.out] at h1
          refine h1.mono ?_
          rintro r w'' ⟨v, rfl, hr, hn, hb'⟩
          obtain ⟨z, y', e⟩ := hr.len
          rw [← HM'.out] at e
          subst e
          exact ⟨z, y', rfl, hr, (fun j hj => Nat.le_trans hb.size (hn j hj)), hb'⟩
        clear hAe hm' hC3 hr3 hcl
        have HDw : Hid (Below w3.heap.size w3 w3.drew) := (show Below _ _ _ from (Below.refl _ _).drew)
        have ne : Nonempty (WIn (fun w' => Below w3.heap.size w3 w')) := ⟨⟨w3, Below.refl _ _⟩⟩
        go_upto_region 9 with fail
        go_cut [11, 12] (fun tv kv wx => ∃ (tb : Nat) (z : Option Addr) (y : Nat), tv = ptr tb ∧ kv = .int .i64 K ∧ Hid (VarAt wx tb 28 (.slice z m' y) ⟨L, E⟩ ∧ Below w3.heap.size w3 wx ∧ w3.heap.size ≤ tb ∧ (∀ j, (Value.slice z m' y).ownBlock = some j → w3.heap.size ≤ j)))
        case first =>
          refine wp_region_tree (C := fun w' => ∃ z : WIn (fun w' => Below w3.heap.size w3 w'), w' = z.w) (.still 0 (.still 1 (.still 2 (.still 3 (.still 4 (.two 5 (.still 6 (.still 7 (.still 8 (.one 9 (.one 10 (.still 11 .done)))))) 9 (.one 5 (.still 6 (.still 7 (.still 8 (.one 10 (.still 11 .done)))))))))))) (by kernel_rfl) (by kernel_rfl) ⟨⟨w3.drew, HDw.out⟩, rfl⟩ ?_
          iterate 5 (refine tree_still rfl rfl ?_; go_big_quiet_step (fail); refine wpQuiet_nil ?_)
          refine tree_two rfl rfl rfl rfl ?_ ?_
          · go_simp
            refine (HAp.out w3.drew HDw.out).mono ?_
            rintro r w6 ⟨z6, y6, rfl, hr6, hx6, hb6⟩
            have HR6 : Hid (RowF mc w6 (.slice z6 m' y6) L) := hr6
            have HX6 : Hid ((∀ j, (Value.slice z6 m' y6).ownBlock = some j → w3.heap.size ≤ j)) := hx6
            have HD6 : Hid (Below w3.heap.size w3 w6) := (show Below _ _ _ from bnext (w := w3.drew) HDw.out hb6)
            clear hr6 hb6 hx6
            refine ⟨⟨⟨_, HD6.out⟩, rfl⟩, ?_⟩
            go_simp
            iterate 3 (refine tree_still rfl rfl ?_; go_big_quiet_step (fail); refine wpQuiet_nil ?_)
            refine tree_one rfl rfl ?_
            go_simp
            have HP : Hid (VarAt (w6.alloc (.cells #[.slice z6 m' y6, .int .i64 E] 28)) w6.heap.size 28 (.slice z6 m' y6) ⟨L, E⟩ ∧ Below w3.heap.size w3 (w6.alloc (.cells #[.slice z6 m' y6, .int .i64 E] 28)) ∧ w3.heap.size ≤ w6.heap.size ∧ (∀ j, (Value.slice z6 m' y6).ownBlock = some j → w3.heap.size ≤ j)) := ⟨var_new (S := ⟨L, E⟩) 28 HR6.out, balloc HD6.out _, HD6.out.size, HX6.out⟩
            have HZ : Hid (Below w3.heap.size w3 (w6.alloc (.cells #[.slice none 0 0, .int .i64 0] 28))) := (show Below _ _ _ from balloc HD6.out _)
            refine ⟨⟨⟨_, HZ.out⟩, rfl⟩, ?_⟩
            go_simp
            refine tree_one rfl rfl ?_
            go_simp
            refine ⟨⟨⟨_, HP.out.2.1⟩, rfl⟩, ?_⟩
            go_simp
            refine tree_still rfl rfl ?_; go_big_quiet_step (fail); refine wpQuiet_nil ?_
            refine tree_done ?_
            go_wp2
            go_meet
            exact ⟨_, _, _, rfl, rfl, HP⟩
          · go_simp
            have HV7 : Hid (VarAt (w3.alloc (.cells #[.slice none 0 0, .int .i64 0] 28)).drew w3.heap.size 28 (.slice none 0 0) ⟨[], 0⟩) := (show VarAt _ _ _ _ _ from var_new (S := ⟨[], 0⟩) 28 (rowF_nil w3.drew))
            have HD7 : Hid (Below w3.heap.size w3 (w3.alloc (.cells #[.slice none 0 0, .int .i64 0] 28)).drew) := (show Below _ _ _ from (balloc (Below.refl _ _) _).drew)
            generalize (w3.alloc (.cells #[.slice none 0 0, .int .i64 0] 28)).drew = w7 at *
            refine ⟨⟨⟨_, HD7.out⟩, rfl⟩, ?_⟩
            go_simp
            refine tree_one rfl rfl ?_
            go_simp
            refine (HAp.out w7 HD7.out).mono ?_
            rintro r w6 ⟨z6, y6, rfl, hr6, hx6, hb6⟩
            have HR6 : Hid (RowF mc w6 (.slice z6 m' y6) L) := hr6
            have HX6 : Hid ((∀ j, (Value.slice z6 m' y6).ownBlock = some j → w3.heap.size ≤ j)) := hx6
            have HD6 : Hid (Below w3.heap.size w3 w6) := (show Below _ _ _ from bnext (w := w7) HD7.out hb6)
            have HV8 : Hid (VarAt w6 w3.heap.size 28 (.slice none 0 0) ⟨[], 0⟩) := (show VarAt _ _ _ _ _ from HV7.out.below hb6)
            clear hr6 hb6 hx6
            refine ⟨⟨⟨_, HD6.out⟩, rfl⟩, ?_⟩
            go_simp
            iterate 3 (refine tree_still rfl rfl ?_; go_big_quiet_step (fail); refine wpQuiet_nil ?_)
            have HP : Hid (VarAt (putS w6 w3.heap.size (.slice z6 m' y6) E) w3.heap.size 28 (.slice z6 m' y6) ⟨L, E⟩ ∧ Below w3.heap.size w3 (putS w6 w3.heap.size (.slice z6 m' y6) E) ∧ w3.heap.size ≤ w3.heap.size ∧ (∀ j, (Value.slice z6 m' y6).ownBlock = some j → w3.heap.size ≤ j)) := ⟨putS_at HV8.out HR6.out, putS_below HD6.out (Nat.le_refl _), Nat.le_refl _, HX6.out⟩
            have g0 := HV8.out.blk.cell 0 _ rfl; have g1 := HV8.out.blk.cell 1 _ rfl; have i0 := HV8.out.blk.frozen 0; have i1 := HV8.out.blk.frozen 1
            refine tree_one rfl rfl ?_
            go_simp
            refine ⟨⟨⟨_, HP.out.2.1⟩, rfl⟩, ?_⟩
            go_simp
            refine tree_still rfl rfl ?_; go_big_quiet_step (fail); refine wpQuiet_nil ?_
            refine tree_done ?_
            go_wp2
            go_meet
            exact ⟨_, _, _, rfl, rfl, HP⟩
        case rest =>
          obtain ⟨tb, tz, ty, htv, hkv, HT⟩ := hcut
          rename World => w5
          subst htv
          subst hkv
          have HT5 : Hid (VarAt w5 tb 28 (.slice tz m' ty) ⟨L, E⟩) := HT.out.1
          have HB35 : Hid (Below w3.heap.size w3 w5) := HT.out.2.1
          have HTg : Hid (w3.heap.size ≤ tb) := HT.out.2.2.1
          have HTn : Hid (∀ j, (Value.slice tz m' ty).ownBlock = some j → w3.heap.size ≤ j) := HT.out.2.2.2
          have HS5 : Hid (PlSt wy w5 B sb mb S (.slice sa m sq) (.slice ma m mq) (.slice (some ⟨ag, ao, none⟩) (k + 1) q3) ds2) := (show PlSt _ _ _ _ _ _ _ _ _ _ from HS1.out.below HB35.out)
          have HW5 : Hid (w3.heap.size ≤ w5.heap.size) := (show _ ≤ _ from HB35.out.size)
          clear HT v0 v1 e0 e1 e2 e3 e4 e5 ne HAp HDw HC3
          have hr5 := HRow.out w5 HS5.out.bel
          have hcl : ∀ (z : WIn (fun w' => Below w5.heap.size w5 w')) p v, w5.cell? p = some v → z.w.cell? p = some v := fun z p v hp => (z.ok.cell (World.block_lt_of_cell? w5 _ hp)).trans hp
          have v0 := fun z => hcl z _ _ (HS5.out.m.blk.cell 0 _ rfl); have v1 := fun z => hcl z _ _ (HS5.out.m.blk.cell 1 _ rfl)
          have e0 := fun z => hcl z _ _ (hr5 0 _ rfl); have e1 := fun z => hcl z _ _ (hr5 1 _ rfl); have e2 := fun z => hcl z _ _ (hr5 2 _ rfl); have e3 := fun z => hcl z _ _ (hr5 3 _ rfl); have e4 := fun z => hcl z _ _ (hr5 4 _ rfl); have e5 := fun z => hcl z _ _ (hr5 5 _ rfl)
          simp only [Nat.add_zero] at e0
          have HAp : Hid (∀ w', Below w5.heap.size w5 w' → Calls Try.prog 14 #[.agg #[.slice ma m mq, .int .i64 S.e], .agg #[.int .i64 ck, .int .i64 cw, .int .u64 cp, .int .i64 cm, .slice xa na pa, .slice xb nb pb]] w' fun r w'' => ∃ z y', r = .returned (.tuple #[.agg #[.slice z m' y', .int .i64 E], .int .i64 K]) ∧ RowF mc w'' (.slice z m' y') L ∧ (∀ j, (Value.slice z m' y').ownBlock = some j → w5.heap.size ≤ j ∨ (Value.slice ma m mq).ownBlock = some j) ∧ Below w'.heap.size w' w'') := fun w' hb => by
            have h1 := rapply14f (S := S) (HS5.out.m.row.below hb) (by have := HI.out.2; omega) HS5.out.ok (HCg.out.below (bnext HS5.out.bel hb))
            rw [HAe.out] at h1
            refine h1.mono ?_
            rintro r w'' ⟨v, rfl, hr, hn, hb'⟩
            obtain ⟨z, y', e⟩ := hr.len
            rw [← HM'.out] at e
            subst e
            refine ⟨z, y', rfl, hr, (fun j hj => ?_), hb'⟩
            rcases hn j hj with h | h
            · exact .inl (Nat.le_trans hb.size h)
            · exact .inr h
          clear hr5 hcl
          have HDw : Hid (Below w5.heap.size w5 w5.drew) := (show Below _ _ _ from (Below.refl _ _).drew)
          have ne : Nonempty (WIn (fun w' => Below w5.heap.size w5 w')) := ⟨⟨w5, Below.refl _ _⟩⟩
          go_upto_region 10 with fail
          go_cut [13, 14] (fun tv kv wx => ∃ (tb : Nat) (z : Option Addr) (y : Nat), tv = ptr tb ∧ kv = .int .i64 K ∧ Hid (VarAt wx tb 32 (.slice z m' y) ⟨L, E⟩ ∧ Below w5.heap.size w5 wx ∧ w5.heap.size ≤ tb ∧ (∀ j, (Value.slice z m' y).ownBlock = some j → w5.heap.size ≤ j ∨ (Value.slice ma m mq).ownBlock = some j)))
          case first =>
            refine wp_region_tree (C := fun w' => ∃ z : WIn (fun w' => Below w5.heap.size w5 w'), w' = z.w) (.still 0 (.still 1 (.still 2 (.still 3 (.still 4 (.two 5 (.still 6 (.still 7 (.still 8 (.one 9 (.one 10 (.still 11 .done)))))) 9 (.one 5 (.still 6 (.still 7 (.still 8 (.one 10 (.still 11 .done)))))))))))) (by kernel_rfl) (by kernel_rfl) ⟨⟨w5.drew, HDw.out⟩, rfl⟩ ?_
            iterate 5 (refine tree_still rfl rfl ?_; go_big_quiet_step (fail); refine wpQuiet_nil ?_)
            refine tree_two rfl rfl rfl rfl ?_ ?_
            · go_simp
              refine (HAp.out w5.drew HDw.out).mono ?_
              rintro r w6 ⟨z6, y6, rfl, hr6, hx6, hb6⟩
              have HR6 : Hid (RowF mc w6 (.slice z6 m' y6) L) := hr6
              have HX6 : Hid ((∀ j, (Value.slice z6 m' y6).ownBlock = some j → w5.heap.size ≤ j ∨ (Value.slice ma m mq).ownBlock = some j)) := hx6
              have HD6 : Hid (Below w5.heap.size w5 w6) := (show Below _ _ _ from bnext (w := w5.drew) HDw.out hb6)
              clear hr6 hb6 hx6
              refine ⟨⟨⟨_, HD6.out⟩, rfl⟩, ?_⟩
              go_simp
              iterate 3 (refine tree_still rfl rfl ?_; go_big_quiet_step (fail); refine wpQuiet_nil ?_)
              refine tree_one rfl rfl ?_
              go_simp
              have HP : Hid (VarAt (w6.alloc (.cells #[.slice z6 m' y6, .int .i64 E] 32)) w6.heap.size 32 (.slice z6 m' y6) ⟨L, E⟩ ∧ Below w5.heap.size w5 (w6.alloc (.cells #[.slice z6 m' y6, .int .i64 E] 32)) ∧ w5.heap.size ≤ w6.heap.size ∧ (∀ j, (Value.slice z6 m' y6).ownBlock = some j → w5.heap.size ≤ j ∨ (Value.slice ma m mq).ownBlock = some j)) := ⟨var_new (S := ⟨L, E⟩) 32 HR6.out, balloc HD6.out _, HD6.out.size, HX6.out⟩
              have HZ : Hid (Below w5.heap.size w5 (w6.alloc (.cells #[.slice none 0 0, .int .i64 0] 32))) := (show Below _ _ _ from balloc HD6.out _)
              refine ⟨⟨⟨_, HZ.out⟩, rfl⟩, ?_⟩
              go_simp
              refine tree_one rfl rfl ?_
              go_simp
              refine ⟨⟨⟨_, HP.out.2.1⟩, rfl⟩, ?_⟩
              go_simp
              refine tree_still rfl rfl ?_; go_big_quiet_step (fail); refine wpQuiet_nil ?_
              refine tree_done ?_
              go_wp2
              go_meet
              exact ⟨_, _, _, rfl, rfl, HP⟩
            · go_simp
              have HV7 : Hid (VarAt (w5.alloc (.cells #[.slice none 0 0, .int .i64 0] 32)).drew w5.heap.size 32 (.slice none 0 0) ⟨[], 0⟩) := (show VarAt _ _ _ _ _ from var_new (S := ⟨[], 0⟩) 32 (rowF_nil w5.drew))
              have HD7 : Hid (Below w5.heap.size w5 (w5.alloc (.cells #[.slice none 0 0, .int .i64 0] 32)).drew) := (show Below _ _ _ from (balloc (Below.refl _ _) _).drew)
              generalize (w5.alloc (.cells #[.slice none 0 0, .int .i64 0] 32)).drew = w7 at *
              refine ⟨⟨⟨_, HD7.out⟩, rfl⟩, ?_⟩
              go_simp
              refine tree_one rfl rfl ?_
              go_simp
              refine (HAp.out w7 HD7.out).mono ?_
              rintro r w6 ⟨z6, y6, rfl, hr6, hx6, hb6⟩
              have HR6 : Hid (RowF mc w6 (.slice z6 m' y6) L) := hr6
              have HX6 : Hid ((∀ j, (Value.slice z6 m' y6).ownBlock = some j → w5.heap.size ≤ j ∨ (Value.slice ma m mq).ownBlock = some j)) := hx6
              have HD6 : Hid (Below w5.heap.size w5 w6) := (show Below _ _ _ from bnext (w := w7) HD7.out hb6)
              have HV8 : Hid (VarAt w6 w5.heap.size 32 (.slice none 0 0) ⟨[], 0⟩) := (show VarAt _ _ _ _ _ from HV7.out.below hb6)
              clear hr6 hb6 hx6
              refine ⟨⟨⟨_, HD6.out⟩, rfl⟩, ?_⟩
              go_simp
              iterate 3 (refine tree_still rfl rfl ?_; go_big_quiet_step (fail); refine wpQuiet_nil ?_)
              have HP : Hid (VarAt (putS w6 w5.heap.size (.slice z6 m' y6) E) w5.heap.size 32 (.slice z6 m' y6) ⟨L, E⟩ ∧ Below w5.heap.size w5 (putS w6 w5.heap.size (.slice z6 m' y6) E) ∧ w5.heap.size ≤ w5.heap.size ∧ (∀ j, (Value.slice z6 m' y6).ownBlock = some j → w5.heap.size ≤ j ∨ (Value.slice ma m mq).ownBlock = some j)) := ⟨putS_at HV8.out HR6.out, putS_below HD6.out (Nat.le_refl _), Nat.le_refl _, HX6.out⟩
              have g0 := HV8.out.blk.cell 0 _ rfl; have g1 := HV8.out.blk.cell 1 _ rfl; have i0 := HV8.out.blk.frozen 0; have i1 := HV8.out.blk.frozen 1
              refine tree_one rfl rfl ?_
              go_simp
              refine ⟨⟨⟨_, HP.out.2.1⟩, rfl⟩, ?_⟩
              go_simp
              refine tree_still rfl rfl ?_; go_big_quiet_step (fail); refine wpQuiet_nil ?_
              refine tree_done ?_
              go_wp2
              go_meet
              exact ⟨_, _, _, rfl, rfl, HP⟩
          case rest =>
            obtain ⟨ub, uz, uy, htv, hkv, HT⟩ := hcut
            rename World => w7
            subst htv
            subst hkv
            have HU7 : Hid (VarAt w7 ub 32 (.slice uz m' uy) ⟨L, E⟩) := HT.out.1
            have HB57 : Hid (Below w5.heap.size w5 w7) := HT.out.2.1
            have HUg : Hid (w5.heap.size ≤ ub) := HT.out.2.2.1
            have HUn : Hid (∀ j, (Value.slice uz m' uy).ownBlock = some j → w5.heap.size ≤ j ∨ (Value.slice ma m mq).ownBlock = some j) := HT.out.2.2.2
            have HS7 : Hid (PlSt wy w7 B sb mb S (.slice sa m sq) (.slice ma m mq) (.slice (some ⟨ag, ao, none⟩) (k + 1) q3) ds2) := (show PlSt _ _ _ _ _ _ _ _ _ _ from HS5.out.below HB57.out)
            have HT7 : Hid (VarAt w7 tb 28 (.slice tz m' ty) ⟨L, E⟩) := (show VarAt _ _ _ _ _ from HT5.out.below HB57.out)
            have HBn : Hid (B ≤ w7.heap.size) := (show _ ≤ _ from Nat.le_trans HS2.out (Nat.le_trans HW5.out HB57.out.size))
            have HAg : Hid (ag < w3.heap.size) := (show _ < _ from (HS1.out.all.own.lt ag rfl).2)
            have HSa : Hid (Sep (.slice tz m' ty) (.slice (some ⟨ag, ao, none⟩) (k + 1) q3)) := (show Sep _ _ from fun j hj e => by
              cases e
              have h1 := HTn.out ag hj
              have h2 := HAg.out
              omega)
            have HSb : Hid (Sep (.slice uz m' uy) (.slice (some ⟨ag, ao, none⟩) (k + 1) q3)) := (show Sep _ _ from fun j hj e => by
              rcases HUn.out j hj with h | h
              · cases e
                have h4 : w5.heap.size ≤ ag := h
                have h2 := HAg.out
                have h3 := HW5.out
                omega
              · exact HS7.out.sb j h e)
            clear HT v0 v1 e0 e1 e2 e3 e4 e5 ne HAp HDw HT5 HB35 HTn HS5 HB57 HUn HS1 HAg
            have H16 : Hid (∀ w', Below w7.heap.size w7 w' → Calls Try.prog 16 #[.agg #[.slice tz m' ty, .int .i64 E]] w' fun r w'' => ∃ a q, r = .returned (.agg #[.slice a m' q, .int .i64 E]) ∧ RowF mc w'' (.slice a m' q) L ∧ Below w7.heap.size w7 w'') := fun w' hb => by
              refine (state16 (HT7.out.row.below hb) (by have h1 := HI.out.2; have h2 := apply_len (S := S) (c := ⟨ck, cw, cp, cm, cws, co⟩) HS7.out.ok; rw [HAe.out] at h2; dsimp only at h2; show L.length ≤ 1000; omega)).mono ?_
              rintro r w'' ⟨v, rfl, hr, hb'⟩
              obtain ⟨a, q, e⟩ := hr.len
              rw [← HM'.out] at e
              subst e
              exact ⟨a, q, rfl, hr, bnext hb hb'⟩
            have H15 : Hid (∀ w' a q, Below w7.heap.size w7 w' → RowF mc w' (.slice a m' q) L → Calls Try.prog 15 #[.agg #[.slice a m' q, .int .i64 E], .agg #[.slice uz m' uy, .int .i64 E]] w' fun r w'' => r = .returned (.bool true) ∧ Below w7.heap.size w7 w'') := fun w' a q hb hr => by
              refine (same15 hr (HU7.out.row.below hb)).mono ?_
              rintro r w'' ⟨rfl, hb'⟩
              exact ⟨rfl, bnext hb hb'⟩
            have hcl : ∀ (z : WIn (fun w' => Below w7.heap.size w7 w')) p v, w7.cell? p = some v → z.w.cell? p = some v := fun z p v hp => (z.ok.cell (World.block_lt_of_cell? w7 _ hp)).trans hp
            have v0 := fun z => hcl z _ _ (HT7.out.blk.cell 0 _ rfl); have v1 := fun z => hcl z _ _ (HT7.out.blk.cell 1 _ rfl)
            have t0 := fun z => hcl z _ _ (HU7.out.blk.cell 0 _ rfl); have t1 := fun z => hcl z _ _ (HU7.out.blk.cell 1 _ rfl)
            have HD7 : Hid (Below w7.heap.size w7 w7.drew) := (show Below _ _ _ from (Below.refl _ _).drew)
            have ne : Nonempty (WIn (fun w' => Below w7.heap.size w7 w')) := ⟨⟨w7, Below.refl _ _⟩⟩
            have hKK : (K != K) = false := by simp
            clear hcl
            go_upto_region 11 with fail
            refine wp_region_ord (C := fun w' => ∃ z : WIn (fun w' => Below w7.heap.size w7 w'), w' = z.w) [(false, 0), (false, 1), (false, 2), (false, 3), (false, 4), (false, 6), (true, 5), (true, 7), (false, 8), (false, 9)] (by kernel_rfl) (by kernel_rfl) ⟨⟨w7.drew, HD7.out⟩, rfl⟩ ?_
            iterate 6 (refine ord_still rfl rfl ?_; go_big_quiet_step (fail); refine wpQuiet_nil ?_)
            refine ord_mem rfl rfl ?_
            go_simp
            refine (H16.out w7.drew HD7.out).mono ?_
            rintro r w8 ⟨a8, q8, rfl, hr8, hb8⟩
            have HR8 : Hid (RowF mc w8 (.slice a8 m' q8) L) := hr8
            have HB8 : Hid (Below w7.heap.size w7 w8) := hb8
            clear hr8 hb8
            refine ⟨⟨⟨_, HB8.out⟩, rfl⟩, ?_⟩
            go_simp
            refine ord_mem rfl rfl ?_
            go_simp
            refine (H15.out w8 a8 q8 HB8.out HR8.out).mono ?_
            rintro r w9 ⟨rfl, hb9⟩
            have HB9 : Hid (Below w7.heap.size w7 w9) := hb9
            clear hb9
            refine ⟨⟨⟨_, HB9.out⟩, rfl⟩, ?_⟩
            go_simp
            iterate 2 (refine ord_still rfl rfl ?_; go_big_quiet_step (fail); refine wpQuiet_nil ?_)
            refine ord_end ?_
            have HS9 : Hid (PlSt wy w9 B sb mb S (.slice sa m sq) (.slice ma m mq) (.slice (some ⟨ag, ao, none⟩) (k + 1) q3) ds2) := (show PlSt _ _ _ _ _ _ _ _ _ _ from HS7.out.below HB9.out)
            have HT9 : Hid (VarAt w9 tb 28 (.slice tz m' ty) ⟨L, E⟩) := (show VarAt _ _ _ _ _ from HT7.out.below HB9.out)
            have HU9 : Hid (VarAt w9 ub 32 (.slice uz m' uy) ⟨L, E⟩) := (show VarAt _ _ _ _ _ from HU7.out.below HB9.out)
            have HB9n : Hid (B ≤ w9.heap.size) := (show _ ≤ _ from Nat.le_trans HBn.out HB9.out.size)
            clear v0 v1 t0 t1 ne HR8 HB8 HB9 H16 H15 HS7 HT7 HU7 HD7 HBn
            by_cases hK : K = 0
            · subst hK
              obtain ⟨hok, hl2, _, _, hkp⟩ := apply_ok HS9.out.ok (show (applyM S ⟨ck, cw, cp, cm, cws, co⟩).2 = 0 by rw [HAe.out])
              rw [HAe.out] at hok hl2 hkp
              dsimp only at hl2 hkp
              have hpos : 0 < L.length := by
                obtain ⟨x, hx⟩ : ∃ x, x ∈ S.l := by
                  have := HS9.out.pos
                  cases hh : S.l with
                  | nil => rw [hh] at this; simp at this
                  | cons x r => exact ⟨x, by simp⟩
                obtain ⟨y, hy, _⟩ := hkp x hx
                exact List.length_pos_of_mem hy
              have HPz : Hid (PlSt wy (putS (putS w9.drew sb (.slice tz m' ty) E) mb (.slice uz m' uy) E) B sb mb ⟨L, E⟩ (.slice tz m' ty) (.slice uz m' uy) (.slice (some ⟨ag, ao, none⟩) (k + 1) q3) ds2) := (show PlSt _ _ _ _ _ _ _ _ _ _ from
                PlSt.put (T := ⟨L, E⟩) (HS9.out.below (w' := w9.drew) (Below.refl _ _).drew) HBk.out.1 HBk.out.2.1 HBk.out.2.2.1 HBk.out.2.2.2.1 HBk.out.2.2.2.2.1 (HT9.out.below (w' := w9.drew) (Below.refl _ _).drew).row (HU9.out.below (w' := w9.drew) (Below.refl _ _).drew).row hok hpos HSa.out HSb.out)
              have HBz : Hid (B ≤ (putS (putS w9.drew sb (.slice tz m' ty) E) mb (.slice uz m' uy) E).heap.size) := (show _ ≤ _ by rw [putS_size, putS_size]; exact HB9n.out)
              have HIz : Hid (m' = L.length ∧ m' ≤ k + 1 + 1) := (show _ ∧ _ from by
                have h1 := HM'.out
                have h2 := HI.out.2
                omega)
              have hne : sb ≠ mb := HBk.out.2.2.2.2.1
              have HCl : Hid (∀ b vs t, Blk w9 b t vs → (b ≠ sb ∧ b ≠ mb) → ∀ v, Blk (putS w9.drew sb v E) b t vs) := fun b vs t h hb v => putS_other (w := w9.drew) h hb.1
              have htb : tb ≠ sb ∧ tb ≠ mb := by
                have h1 := HTg.out; have h2 := HBk.out; have h3 := HS2.out
                omega
              have hub : ub ≠ sb ∧ ub ≠ mb := by
                have h1 := HUg.out; have h2 := HBk.out; have h3 := HS2.out; have h4 := HW5.out
                omega
              have z0 := fun z : WIn (fun w' => Blk w' tb 28 [.slice tz m' ty, .int .i64 E] ∧ Blk w' ub 32 [.slice uz m' uy, .int .i64 E]) => z.ok.1.cell 0 _ rfl
              have z1 := fun z : WIn (fun w' => Blk w' tb 28 [.slice tz m' ty, .int .i64 E] ∧ Blk w' ub 32 [.slice uz m' uy, .int .i64 E]) => z.ok.1.cell 1 _ rfl
              have z2 := fun z : WIn (fun w' => Blk w' tb 28 [.slice tz m' ty, .int .i64 E] ∧ Blk w' ub 32 [.slice uz m' uy, .int .i64 E]) => z.ok.2.cell 0 _ rfl
              have z3 := fun z : WIn (fun w' => Blk w' tb 28 [.slice tz m' ty, .int .i64 E] ∧ Blk w' ub 32 [.slice uz m' uy, .int .i64 E]) => z.ok.2.cell 1 _ rfl
              have H0 : Hid (Blk w9.drew tb 28 [.slice tz m' ty, .int .i64 E] ∧ Blk w9.drew ub 32 [.slice uz m' uy, .int .i64 E]) := ⟨HT9.out.blk, HU9.out.blk⟩
              have H1 : Hid (Blk (putS w9.drew sb (.slice tz m' ty) E) tb 28 [.slice tz m' ty, .int .i64 E] ∧ Blk (putS w9.drew sb (.slice tz m' ty) E) ub 32 [.slice uz m' uy, .int .i64 E]) := ⟨putS_other (w := w9.drew) HT9.out.blk htb.1, putS_other (w := w9.drew) HU9.out.blk hub.1⟩
              have H2 : Hid (Blk (putS (putS w9.drew sb (.slice tz m' ty) E) mb (.slice uz m' uy) E) tb 28 [.slice tz m' ty, .int .i64 E] ∧ Blk (putS (putS w9.drew sb (.slice tz m' ty) E) mb (.slice uz m' uy) E) ub 32 [.slice uz m' uy, .int .i64 E]) := ⟨putS_other H1.out.1 htb.2, putS_other H1.out.2 hub.2⟩
              have HM1 : Hid (Blk (putS w9.drew sb (.slice tz m' ty) E) mb 32 [.slice ma m mq, .int .i64 S.e]) := (show Blk _ _ _ _ from putS_other (w := w9.drew) HS9.out.m.blk (Ne.symm hne))
              have g0 := HS9.out.s.blk.cell 0 _ rfl; have g1 := HS9.out.s.blk.cell 1 _ rfl; have j0 := HS9.out.s.blk.frozen 0; have j1 := HS9.out.s.blk.frozen 1
              have h0 := HS9.out.m.blk.cell 0 _ rfl; have h1 := HS9.out.m.blk.cell 1 _ rfl; have l0 := HS9.out.m.blk.frozen 0; have l1 := HS9.out.m.blk.frozen 1
              have ne : Nonempty (WIn (fun w' => Blk w' tb 28 [.slice tz m' ty, .int .i64 E] ∧ Blk w' ub 32 [.slice uz m' uy, .int .i64 E])) := ⟨⟨w9, ⟨HT9.out.blk, HU9.out.blk⟩⟩⟩
              clear hok hl2 hkp hpos htb hub HCl HM1
              go_upto_region 14 with fail
              refine wp_region_ord (C := fun w' => ∃ z : WIn (fun w' => Blk w' tb 28 [.slice tz m' ty, .int .i64 E] ∧ Blk w' ub 32 [.slice uz m' uy, .int .i64 E]), w' = z.w) [(false, 0), (false, 1), (true, 2), (true, 3)] (by kernel_rfl) (by kernel_rfl) ⟨⟨w9.drew, H0.out⟩, rfl⟩ ?_
              iterate 2 (refine ord_still rfl rfl ?_; go_big_quiet_step (fail); refine wpQuiet_nil ?_)
              refine ord_mem rfl rfl ?_
              go_simp
              refine ⟨⟨⟨_, H1.out⟩, rfl⟩, ?_⟩
              go_simp
              refine ord_mem rfl rfl ?_
              go_simp
              refine ⟨⟨⟨_, H2.out⟩, rfl⟩, ?_⟩
              go_simp
              refine ord_end ?_
              have HPy : Hid (PlSt wy (((((w9.setCell ⟨sb, 0, none⟩ (.slice tz m' ty)).setCell ⟨sb, 1, none⟩ (.int .i64 E)).setCell ⟨mb, 0, none⟩ (.slice uz m' uy)).setCell ⟨mb, 1, none⟩ (.int .i64 E)).drew) B sb mb ⟨L, E⟩ (.slice tz m' ty) (.slice uz m' uy) (.slice (some ⟨ag, ao, none⟩) (k + 1) q3) ds2) := HPz
              have HBy : Hid (B ≤ (((((w9.setCell ⟨sb, 0, none⟩ (.slice tz m' ty)).setCell ⟨sb, 1, none⟩ (.int .i64 E)).setCell ⟨mb, 0, none⟩ (.slice uz m' uy)).setCell ⟨mb, 1, none⟩ (.int .i64 E)).drew).heap.size) := HBz
              clear HPz HBz z0 z1 z2 z3 g0 g1 j0 j1 h0 h1 l0 l1 ne H0 H1 H2 hne
              generalize ((((w9.setCell ⟨sb, 0, none⟩ (.slice tz m' ty)).setCell ⟨sb, 1, none⟩ (.int .i64 E)).setCell ⟨mb, 0, none⟩ (.slice uz m' uy)).setCell ⟨mb, 1, none⟩ (.int .i64 E)).drew = wA at *
              obtain ⟨T, ta, tq, ua, uq, tm, HQ, HQi⟩ : ∃ (T : Sm) (ta : Option Addr) (tq : Nat) (ua : Option Addr) (uq tm : Nat), Hid (PlSt wy wA B sb mb T (.slice ta tm tq) (.slice ua tm uq) (.slice (some ⟨ag, ao, none⟩) (k + 1) q3) ds2) ∧ Hid (tm = T.l.length ∧ tm ≤ k + 1 + 1) := ⟨⟨L, E⟩, tz, ty, uz, uy, m', HPy, HIz⟩
              clear HPy HIz HS9 HT9 HU9 HB9n HSa HSb HAe HM' HI
              obtain ⟨⟨x0, x1, x2', x3, x4⟩, hxx⟩ : ∃ x, x = (findM T.l who).getD zm := ⟨_, rfl⟩
              obtain ⟨fb, hfb⟩ : ∃ fb, fb = (findM T.l who).isSome := ⟨_, rfl⟩
              have H17 : Hid (Calls Try.prog 17 #[.agg #[.slice ta tm tq, .int .i64 T.e], .int .i64 who] wA fun r w'' => r = .returned (.tuple #[.agg #[.int .i64 x0, .int .u64 x1, .int .i64 x2', .int .i64 x3, .int .i64 x4], .bool fb]) ∧ Below wA.heap.size wA w'') := (show Calls _ _ _ _ _ from by
                refine (find17 HQ.out.s.row who T.e).mono ?_
                rintro r w'' ⟨rfl, hb'⟩
                rw [← hxx, ← hfb]
                exact ⟨rfl, hb'⟩)
              have H18 : Hid (∀ w', Below wA.heap.size wA w' → Calls Try.prog 18 #[.agg #[.slice ua tm uq, .int .i64 T.e], .int .i64 who] w' fun r w'' => r = .returned (.tuple #[.agg #[.int .i64 x0, .int .u64 x1, .int .i64 x2', .int .i64 x3, .int .i64 x4], .bool fb]) ∧ Below w'.heap.size w' w'') := fun w' hb => by
                refine (rfind18 (HQ.out.m.row.below hb) who T.e).mono ?_
                rintro r w'' ⟨rfl, hb'⟩
                rw [← hxx, ← hfb]
                exact ⟨rfl, hb'⟩
              clear hxx hfb
              have g0 := HQ.out.s.blk.cell 0 _ rfl; have g1 := HQ.out.s.blk.cell 1 _ rfl
              go_upto_region 16 with (go_at_call 17; go_must (refine H17.out.mono ?_; rintro r wB ⟨rfl, hbB⟩))
              clear g0 g1
              have HX1 : Hid (Blk (wB.alloc (.cells #[.int .i64 x0, .int .u64 x1, .int .i64 x2', .int .i64 x3, .int .i64 x4] 51)) wB.heap.size 51 [.int .i64 x0, .int .u64 x1, .int .i64 x2', .int .i64 x3, .int .i64 x4]) := (show Blk _ _ _ _ from blk_new wB [.int .i64 x0, .int .u64 x1, .int .i64 x2', .int .i64 x3, .int .i64 x4] 51)
              have HBB : Hid (Below wA.heap.size wA (wB.alloc (.cells #[.int .i64 x0, .int .u64 x1, .int .i64 x2', .int .i64 x3, .int .i64 x4] 51))) := (show Below _ _ _ from balloc hbB _)
              obtain ⟨xb1, hxb1⟩ : ∃ xb1, xb1 = wB.heap.size := ⟨_, rfl⟩
              rw [← hxb1] at HX1 ⊢
              generalize wB.alloc (.cells #[.int .i64 x0, .int .u64 x1, .int .i64 x2', .int .i64 x3, .int .i64 x4] 51) = wC at *
              clear hbB hxb1 H17
              have g0 := (HQ.out.m.below HBB.out).blk.cell 0 _ rfl; have g1 := (HQ.out.m.below HBB.out).blk.cell 1 _ rfl
              go_upto_region 17 with (go_at_call 18; go_must (refine (H18.out wC HBB.out).mono ?_; rintro r wD ⟨rfl, hbD⟩))
              clear g0 g1
              have HY1 : Hid (Blk (wD.alloc (.cells #[.int .i64 x0, .int .u64 x1, .int .i64 x2', .int .i64 x3, .int .i64 x4] 54)) wD.heap.size 54 [.int .i64 x0, .int .u64 x1, .int .i64 x2', .int .i64 x3, .int .i64 x4]) := (show Blk _ _ _ _ from blk_new wD [.int .i64 x0, .int .u64 x1, .int .i64 x2', .int .i64 x3, .int .i64 x4] 54)
              have hbE : Below wC.heap.size wC (wD.alloc (.cells #[.int .i64 x0, .int .u64 x1, .int .i64 x2', .int .i64 x3, .int .i64 x4] 54)) := balloc hbD _
              have HX2 : Hid (Blk (wD.alloc (.cells #[.int .i64 x0, .int .u64 x1, .int .i64 x2', .int .i64 x3, .int .i64 x4] 54)) xb1 51 [.int .i64 x0, .int .u64 x1, .int .i64 x2', .int .i64 x3, .int .i64 x4]) := (show Blk _ _ _ _ from HX1.out.below hbE)
              have HBE : Hid (Below wA.heap.size wA (wD.alloc (.cells #[.int .i64 x0, .int .u64 x1, .int .i64 x2', .int .i64 x3, .int .i64 x4] 54))) := (show Below _ _ _ from bnext HBB.out hbE)
              obtain ⟨yb1, hyb1⟩ : ∃ yb1, yb1 = wD.heap.size := ⟨_, rfl⟩
              rw [← hyb1] at HY1 ⊢
              generalize wD.alloc (.cells #[.int .i64 x0, .int .u64 x1, .int .i64 x2', .int .i64 x3, .int .i64 x4] 54) = wE at *
              clear hbD hyb1 H18 hbE HX1 HBB
              have HQE : Hid (PlSt wy wE B sb mb T (.slice ta tm tq) (.slice ua tm uq) (.slice (some ⟨ag, ao, none⟩) (k + 1) q3) ds2) := (show PlSt _ _ _ _ _ _ _ _ _ _ from HQ.out.below HBE.out)
              have HBw : Hid (B ≤ wE.heap.size) := (show _ ≤ _ from Nat.le_trans HBy.out HBE.out.size)
              obtain ⟨nw, hnw⟩ : ∃ nw, nw = nowM T.l := ⟨_, rfl⟩
              obtain ⟨nn, hnn⟩ : ∃ nn, nn = nw.length := ⟨_, rfl⟩
              have HNn : Hid (nn = nw.length) := hnn
              have H19 : Hid (∀ w', Below wE.heap.size wE w' → Calls Try.prog 19 #[.agg #[.slice ta tm tq, .int .i64 T.e]] w' fun r w'' => ∃ x q, r = .returned (.slice x nn q) ∧ RowF mc w'' (.slice x nn q) nw ∧ Below wE.heap.size wE w'') := fun w' hb => by
                refine (now19 (HQE.out.s.row.below hb) (by have := HQi.out; omega) T.e).mono ?_
                rintro r w'' ⟨v, rfl, hr, hb'⟩
                rw [← hnw] at hr
                obtain ⟨x, q, e⟩ := hr.len
                rw [← hnn] at e
                subst e
                exact ⟨x, q, rfl, hr, bnext hb hb'⟩
              have H20 : Hid (∀ w', Below wE.heap.size wE w' → Calls Try.prog 20 #[.agg #[.slice ua tm uq, .int .i64 T.e]] w' fun r w'' => ∃ x q, r = .returned (.slice x nn q) ∧ RowF mc w'' (.slice x nn q) nw ∧ Below w'.heap.size w' w'') := fun w' hb => by
                refine (rnow20 (HQE.out.m.row.below hb) (by have := HQi.out; omega) T.e).mono ?_
                rintro r w'' ⟨v, rfl, hr, hb'⟩
                rw [← hnw] at hr
                obtain ⟨x, q, e⟩ := hr.len
                rw [← hnn] at e
                subst e
                exact ⟨x, q, rfl, hr, hb'⟩
              clear hnw hnn
              have hcl : ∀ (z : WIn (fun w' => Below wE.heap.size wE w')) p v, wE.cell? p = some v → z.w.cell? p = some v := fun z p v hp => (z.ok.cell (World.block_lt_of_cell? wE _ hp)).trans hp
              have s0' := fun z => hcl z _ _ (HQE.out.s.blk.cell 0 _ rfl); have s1 := fun z => hcl z _ _ (HQE.out.s.blk.cell 1 _ rfl)
              have t0 := fun z => hcl z _ _ (HQE.out.m.blk.cell 0 _ rfl); have t1 := fun z => hcl z _ _ (HQE.out.m.blk.cell 1 _ rfl)
              have HDE : Hid (Below wE.heap.size wE wE.drew) := (show Below _ _ _ from (Below.refl _ _).drew)
              have ne : Nonempty (WIn (fun w' => Below wE.heap.size wE w')) := ⟨⟨wE, Below.refl _ _⟩⟩
              clear hcl
              refine wp_region_ord (C := fun w' => ∃ z : WIn (fun w' => Below wE.heap.size wE w'), w' = z.w) [(false, 0), (false, 2), (true, 1), (true, 3), (false, 4), (false, 5)] (by kernel_rfl) (by kernel_rfl) ⟨⟨wE.drew, HDE.out⟩, rfl⟩ ?_
              iterate 2 (refine ord_still rfl rfl ?_; go_big_quiet_step (fail); refine wpQuiet_nil ?_)
              refine ord_mem rfl rfl ?_
              go_simp
              refine (H19.out wE.drew HDE.out).mono ?_
              rintro r wF ⟨nx, nq, rfl, hrF, hbF⟩
              have HRF : Hid (RowF mc wF (.slice nx nn nq) nw) := hrF
              have HBF : Hid (Below wE.heap.size wE wF) := hbF
              clear hrF hbF
              refine ⟨⟨⟨_, HBF.out⟩, rfl⟩, ?_⟩
              go_simp
              refine ord_mem rfl rfl ?_
              go_simp
              refine (H20.out wF HBF.out).mono ?_
              rintro r wG ⟨ox, oq', rfl, hrG, hbG⟩
              have HRG : Hid (RowF mc wG (.slice ox nn oq') nw) := hrG
              have HRF2 : Hid (RowF mc wG (.slice nx nn nq) nw) := (show RowF _ _ _ _ from HRF.out.below hbG)
              have HBG : Hid (Below wE.heap.size wE wG) := (show Below _ _ _ from bnext HBF.out hbG)
              clear hrG hbG
              refine ⟨⟨⟨_, HBG.out⟩, rfl⟩, ?_⟩
              go_simp
              iterate 2 (refine ord_still rfl rfl ?_; go_big_quiet_step (fail); refine wpQuiet_nil ?_)
              refine ord_end ?_
              have hn1 : nn ≤ nq := HRF2.out.caps.2.1
              have hn2 : nq ≤ 9223372036854775807 := HRF2.out.caps.2.2
              have hn3 : nn ≤ oq' := HRG.out.caps.2.1
              have hn4 : oq' ≤ 9223372036854775807 := HRG.out.caps.2.2
              clear s0' s1 t0 t1 ne HRF HBF HDE H19 H20
              have HX3 : Hid (Blk wG xb1 51 [.int .i64 x0, .int .u64 x1, .int .i64 x2', .int .i64 x3, .int .i64 x4]) := (show Blk _ _ _ _ from HX2.out.below HBG.out)
              have HY3 : Hid (Blk wG yb1 54 [.int .i64 x0, .int .u64 x1, .int .i64 x2', .int .i64 x3, .int .i64 x4]) := (show Blk _ _ _ _ from HY1.out.below HBG.out)
              have hcl : ∀ (z : WIn (fun w' => Below wG.heap.size wG w')) p v, wG.cell? p = some v → z.w.cell? p = some v := fun z p v hp => (z.ok.cell (World.block_lt_of_cell? wG _ hp)).trans hp
              have s0' := fun z => hcl z _ _ (HX3.out.cell 0 _ rfl); have s1 := fun z => hcl z _ _ (HX3.out.cell 1 _ rfl); have s2 := fun z => hcl z _ _ (HX3.out.cell 2 _ rfl); have s3 := fun z => hcl z _ _ (HX3.out.cell 3 _ rfl); have s4 := fun z => hcl z _ _ (HX3.out.cell 4 _ rfl)
              have t0 := fun z => hcl z _ _ (HY3.out.cell 0 _ rfl); have t1 := fun z => hcl z _ _ (HY3.out.cell 1 _ rfl); have t2 := fun z => hcl z _ _ (HY3.out.cell 2 _ rfl); have t3 := fun z => hcl z _ _ (HY3.out.cell 3 _ rfl); have t4 := fun z => hcl z _ _ (HY3.out.cell 4 _ rfl)
              have HDG : Hid (Below wG.heap.size wG wG.drew) := (show Below _ _ _ from (Below.refl _ _).drew)
              have ne : Nonempty (WIn (fun w' => Below wG.heap.size wG w')) := ⟨⟨wG, Below.refl _ _⟩⟩
              have HMb : Hid (∀ m w, Calls Try.prog 21 #[mv m] w fun r w' => r = .returned (mv m) ∧ Below w.heap.size w w') := fun m w => member21 m w
              unfold mv at HMb
              clear hcl
              go_upto_region 18 with fail
              refine wp_region_ord (C := fun w' => ∃ z : WIn (fun w' => Below wG.heap.size wG w'), w' = z.w) [(false, 0), (false, 2), (true, 1), (false, 3), (false, 4), (false, 5), (false, 6), (false, 7), (false, 8), (false, 9), (false, 10), (false, 11), (false, 12), (false, 13), (false, 14), (false, 15)] (by kernel_rfl) (by kernel_rfl) ⟨⟨wG.drew, HDG.out⟩, rfl⟩ ?_
              iterate 2 (refine ord_still rfl rfl ?_; go_big_quiet_step (fail); refine wpQuiet_nil ?_)
              refine ord_mem rfl rfl ?_
              go_simp
              refine (HMb.out ⟨x0, x1, x2', x3, x4⟩ wG.drew).mono ?_
              rintro r wH ⟨rfl, hbH⟩
              have HBH : Hid (Below wG.heap.size wG wH) := (show Below _ _ _ from bnext (w := wG.drew) HDG.out hbH)
              clear hbH
              refine ⟨⟨⟨_, HBH.out⟩, rfl⟩, ?_⟩
              go_simp
              iterate 4 (refine ord_still rfl rfl ?_; go_big_quiet_step (fail); refine wpQuiet_nil ?_)
              have hff : (fb != fb) = false := by simp
              iterate 9 (refine ord_still rfl rfl ?_; go_big_quiet_step (fail); refine wpQuiet_nil ?_)
              refine ord_end ?_
              clear s0' s1 s2 s3 s4 t0 t1 t2 t3 t4 ne HDG HX3 HY3 HX2 HY1 HMb
              have HRN : Hid (RowF mc wH (.slice nx nn nq) nw) := (show RowF _ _ _ _ from HRF2.out.below HBH.out)
              have HRO : Hid (RowF mc wH (.slice ox nn oq') nw) := (show RowF _ _ _ _ from HRG.out.below HBH.out)
              have HBI : Hid (Below wE.heap.size wE wH) := (show Below _ _ _ from bnext HBG.out HBH.out)
              clear HRF2 HRG HBG HBH
              generalize wr = wold at *
              go_wp2
              go_loopw [21] (fun jv wr => ∃ j : Nat, j ≤ nn ∧ jv = .int .i64 j ∧ Hid (Below wH.heap.size wH wr)) (fun jv _ => nn - (intOf jv).toNat)
              case atStart => exact ⟨0, Nat.zero_le _, rfl, (show Below _ _ _ from Below.refl _ _)⟩
              case round =>
                obtain ⟨j, hj, rfl, HBr⟩ := hrel
                by_cases hjn : j < nn
                · obtain ⟨y, hy⟩ : ∃ y, nw[j]? = some y := ⟨_, List.getElem?_eq_getElem (by have := HNn.out; omega)⟩
                  obtain ⟨g5, o5, e5', hr5⟩ := (HRN.out.below HBr.out).at mc_len hy
                  obtain ⟨g6, o6, e6', hr6⟩ := (HRO.out.below HBr.out).at mc_len hy
                  subst e5' e6'
                  obtain ⟨y0, y1, y2', y3, y4⟩ := y
                  have hcl : ∀ (z : WIn (fun w' => Below wr.heap.size wr w')) p v, wr.cell? p = some v → z.w.cell? p = some v := fun z p v hp => (z.ok.cell (World.block_lt_of_cell? wr _ hp)).trans hp
                  have s0' := fun z => hcl z _ _ (hr5 0 _ rfl); have s1 := fun z => hcl z _ _ (hr5 1 _ rfl); have s2 := fun z => hcl z _ _ (hr5 2 _ rfl); have s3 := fun z => hcl z _ _ (hr5 3 _ rfl); have s4 := fun z => hcl z _ _ (hr5 4 _ rfl)
                  have t0 := fun z => hcl z _ _ (hr6 0 _ rfl); have t1 := fun z => hcl z _ _ (hr6 1 _ rfl); have t2 := fun z => hcl z _ _ (hr6 2 _ rfl); have t3 := fun z => hcl z _ _ (hr6 3 _ rfl); have t4 := fun z => hcl z _ _ (hr6 4 _ rfl)
                  simp only [Nat.add_zero] at s0' t0
                  have HDr : Hid (Below wr.heap.size wr wr.drew) := (show Below _ _ _ from (Below.refl _ _).drew)
                  have ne : Nonempty (WIn (fun w' => Below wr.heap.size wr w')) := ⟨⟨wr, Below.refl _ _⟩⟩
                  have HMb : Hid (∀ m w, Calls Try.prog 21 #[mv m] w fun r w' => r = .returned (mv m) ∧ Below w.heap.size w w') := fun m w => member21 m w
                  unfold mv at HMb
                  clear hcl hr5 hr6 hy
                  go_upto_region 23 with fail
                  refine wp_region_ord (C := fun w' => ∃ z : WIn (fun w' => Below wr.heap.size wr w'), w' = z.w) [(false, 0), (false, 1), (false, 2), (false, 3), (false, 5), (false, 6), (false, 7), (false, 8), (true, 4), (false, 9)] (by kernel_rfl) (by kernel_rfl) ⟨⟨wr.drew, HDr.out⟩, rfl⟩ ?_
                  iterate 8 (refine ord_still rfl rfl ?_; go_big_quiet_step (fail); refine wpQuiet_nil ?_)
                  refine ord_mem rfl rfl ?_
                  go_simp
                  refine (HMb.out ⟨y0, y1, y2', y3, y4⟩ wr.drew).mono ?_
                  rintro r wK ⟨rfl, hbK⟩
                  have HBK : Hid (Below wr.heap.size wr wK) := (show Below _ _ _ from bnext (w := wr.drew) HDr.out hbK)
                  clear hbK
                  refine ⟨⟨⟨_, HBK.out⟩, rfl⟩, ?_⟩
                  go_simp
                  iterate 1 (refine ord_still rfl rfl ?_; go_big_quiet_step (fail); refine wpQuiet_nil ?_)
                  refine ord_end ?_
                  have HBL : Hid (Below wH.heap.size wH wK) := (show Below _ _ _ from bnext HBr.out HBK.out)
                  clear s0' s1 s2 s3 s4 t0 t1 t2 t3 t4 ne
                  go_wp2
                  go_roundw
                  case rel => exact ⟨j + 1, by omega, by go_num, HBL⟩
                  case measure => simp [intOf]; omega
                · have HQz : Hid (PlSt wy wr B sb mb T (.slice ta tm tq) (.slice ua tm uq) (.slice (some ⟨ag, ao, none⟩) (k + 1) q3) ds2) := (show PlSt _ _ _ _ _ _ _ _ _ _ from HQE.out.below (bnext HBI.out HBr.out))
                  have HBz : Hid (B ≤ wr.heap.size) := (show _ ≤ _ from Nat.le_trans HBw.out (bnext HBI.out HBr.out).size)
                  go_wp2
                  go_roundw
                  case rel => exact ⟨k + 1, T, ds2, ta, tq, ua, uq, some ⟨ag, ao, none⟩, q3, tm, by omega, by go_num, rfl, HQz, ⟨HD2.out, HQi.out.1, HQi.out.2⟩, HBz⟩
                  case measure => simp [intOf]; omega
            · obtain ⟨wA, hwA⟩ : ∃ wA, wA = w9 := ⟨_, rfl⟩
              obtain ⟨T, ta, tq, ua, uq, tm, HQ, HQi⟩ : ∃ (T : Sm) (ta : Option Addr) (tq : Nat) (ua : Option Addr) (uq tm : Nat), Hid (PlSt wy wA B sb mb T (.slice ta tm tq) (.slice ua tm uq) (.slice (some ⟨ag, ao, none⟩) (k + 1) q3) ds2) ∧ Hid (tm = T.l.length ∧ tm ≤ k + 1 + 1) := ⟨S, sa, sq, ma, mq, m, (by rw [hwA]; exact HS9), ⟨HI.out.2.1, by have := HI.out.2.2; omega⟩⟩
              have HBy : Hid (B ≤ wA.heap.size) := (by rw [hwA]; exact HB9n)
              rw [← hwA]
              have hK2 : (K == 0) = false := by simp [hK]
              clear hwA HS9 HT9 HU9 HB9n HSa HSb HAe HM' HI hK
              obtain ⟨⟨x0, x1, x2', x3, x4⟩, hxx⟩ : ∃ x, x = (findM T.l who).getD zm := ⟨_, rfl⟩
              obtain ⟨fb, hfb⟩ : ∃ fb, fb = (findM T.l who).isSome := ⟨_, rfl⟩
              have H17 : Hid (Calls Try.prog 17 #[.agg #[.slice ta tm tq, .int .i64 T.e], .int .i64 who] wA fun r w'' => r = .returned (.tuple #[.agg #[.int .i64 x0, .int .u64 x1, .int .i64 x2', .int .i64 x3, .int .i64 x4], .bool fb]) ∧ Below wA.heap.size wA w'') := (show Calls _ _ _ _ _ from by
                refine (find17 HQ.out.s.row who T.e).mono ?_
                rintro r w'' ⟨rfl, hb'⟩
                rw [← hxx, ← hfb]
                exact ⟨rfl, hb'⟩)
              have H18 : Hid (∀ w', Below wA.heap.size wA w' → Calls Try.prog 18 #[.agg #[.slice ua tm uq, .int .i64 T.e], .int .i64 who] w' fun r w'' => r = .returned (.tuple #[.agg #[.int .i64 x0, .int .u64 x1, .int .i64 x2', .int .i64 x3, .int .i64 x4], .bool fb]) ∧ Below w'.heap.size w' w'') := fun w' hb => by
                refine (rfind18 (HQ.out.m.row.below hb) who T.e).mono ?_
                rintro r w'' ⟨rfl, hb'⟩
                rw [← hxx, ← hfb]
                exact ⟨rfl, hb'⟩
              clear hxx hfb
              have g0 := HQ.out.s.blk.cell 0 _ rfl; have g1 := HQ.out.s.blk.cell 1 _ rfl
              go_upto_region 16 with (go_at_call 17; go_must (refine H17.out.mono ?_; rintro r wB ⟨rfl, hbB⟩))
              clear g0 g1
              have HX1 : Hid (Blk (wB.alloc (.cells #[.int .i64 x0, .int .u64 x1, .int .i64 x2', .int .i64 x3, .int .i64 x4] 51)) wB.heap.size 51 [.int .i64 x0, .int .u64 x1, .int .i64 x2', .int .i64 x3, .int .i64 x4]) := (show Blk _ _ _ _ from blk_new wB [.int .i64 x0, .int .u64 x1, .int .i64 x2', .int .i64 x3, .int .i64 x4] 51)
              have HBB : Hid (Below wA.heap.size wA (wB.alloc (.cells #[.int .i64 x0, .int .u64 x1, .int .i64 x2', .int .i64 x3, .int .i64 x4] 51))) := (show Below _ _ _ from balloc hbB _)
              obtain ⟨xb1, hxb1⟩ : ∃ xb1, xb1 = wB.heap.size := ⟨_, rfl⟩
              rw [← hxb1] at HX1 ⊢
              generalize wB.alloc (.cells #[.int .i64 x0, .int .u64 x1, .int .i64 x2', .int .i64 x3, .int .i64 x4] 51) = wC at *
              clear hbB hxb1 H17
              have g0 := (HQ.out.m.below HBB.out).blk.cell 0 _ rfl; have g1 := (HQ.out.m.below HBB.out).blk.cell 1 _ rfl
              go_upto_region 17 with (go_at_call 18; go_must (refine (H18.out wC HBB.out).mono ?_; rintro r wD ⟨rfl, hbD⟩))
              clear g0 g1
              have HY1 : Hid (Blk (wD.alloc (.cells #[.int .i64 x0, .int .u64 x1, .int .i64 x2', .int .i64 x3, .int .i64 x4] 54)) wD.heap.size 54 [.int .i64 x0, .int .u64 x1, .int .i64 x2', .int .i64 x3, .int .i64 x4]) := (show Blk _ _ _ _ from blk_new wD [.int .i64 x0, .int .u64 x1, .int .i64 x2', .int .i64 x3, .int .i64 x4] 54)
              have hbE : Below wC.heap.size wC (wD.alloc (.cells #[.int .i64 x0, .int .u64 x1, .int .i64 x2', .int .i64 x3, .int .i64 x4] 54)) := balloc hbD _
              have HX2 : Hid (Blk (wD.alloc (.cells #[.int .i64 x0, .int .u64 x1, .int .i64 x2', .int .i64 x3, .int .i64 x4] 54)) xb1 51 [.int .i64 x0, .int .u64 x1, .int .i64 x2', .int .i64 x3, .int .i64 x4]) := (show Blk _ _ _ _ from HX1.out.below hbE)
              have HBE : Hid (Below wA.heap.size wA (wD.alloc (.cells #[.int .i64 x0, .int .u64 x1, .int .i64 x2', .int .i64 x3, .int .i64 x4] 54))) := (show Below _ _ _ from bnext HBB.out hbE)
              obtain ⟨yb1, hyb1⟩ : ∃ yb1, yb1 = wD.heap.size := ⟨_, rfl⟩
              rw [← hyb1] at HY1 ⊢
              generalize wD.alloc (.cells #[.int .i64 x0, .int .u64 x1, .int .i64 x2', .int .i64 x3, .int .i64 x4] 54) = wE at *
              clear hbD hyb1 H18 hbE HX1 HBB
              have HQE : Hid (PlSt wy wE B sb mb T (.slice ta tm tq) (.slice ua tm uq) (.slice (some ⟨ag, ao, none⟩) (k + 1) q3) ds2) := (show PlSt _ _ _ _ _ _ _ _ _ _ from HQ.out.below HBE.out)
              have HBw : Hid (B ≤ wE.heap.size) := (show _ ≤ _ from Nat.le_trans HBy.out HBE.out.size)
              obtain ⟨nw, hnw⟩ : ∃ nw, nw = nowM T.l := ⟨_, rfl⟩
              obtain ⟨nn, hnn⟩ : ∃ nn, nn = nw.length := ⟨_, rfl⟩
              have HNn : Hid (nn = nw.length) := hnn
              have H19 : Hid (∀ w', Below wE.heap.size wE w' → Calls Try.prog 19 #[.agg #[.slice ta tm tq, .int .i64 T.e]] w' fun r w'' => ∃ x q, r = .returned (.slice x nn q) ∧ RowF mc w'' (.slice x nn q) nw ∧ Below wE.heap.size wE w'') := fun w' hb => by
                refine (now19 (HQE.out.s.row.below hb) (by have := HQi.out; omega) T.e).mono ?_
                rintro r w'' ⟨v, rfl, hr, hb'⟩
                rw [← hnw] at hr
                obtain ⟨x, q, e⟩ := hr.len
                rw [← hnn] at e
                subst e
                exact ⟨x, q, rfl, hr, bnext hb hb'⟩
              have H20 : Hid (∀ w', Below wE.heap.size wE w' → Calls Try.prog 20 #[.agg #[.slice ua tm uq, .int .i64 T.e]] w' fun r w'' => ∃ x q, r = .returned (.slice x nn q) ∧ RowF mc w'' (.slice x nn q) nw ∧ Below w'.heap.size w' w'') := fun w' hb => by
                refine (rnow20 (HQE.out.m.row.below hb) (by have := HQi.out; omega) T.e).mono ?_
                rintro r w'' ⟨v, rfl, hr, hb'⟩
                rw [← hnw] at hr
                obtain ⟨x, q, e⟩ := hr.len
                rw [← hnn] at e
                subst e
                exact ⟨x, q, rfl, hr, hb'⟩
              clear hnw hnn
              have hcl : ∀ (z : WIn (fun w' => Below wE.heap.size wE w')) p v, wE.cell? p = some v → z.w.cell? p = some v := fun z p v hp => (z.ok.cell (World.block_lt_of_cell? wE _ hp)).trans hp
              have s0' := fun z => hcl z _ _ (HQE.out.s.blk.cell 0 _ rfl); have s1 := fun z => hcl z _ _ (HQE.out.s.blk.cell 1 _ rfl)
              have t0 := fun z => hcl z _ _ (HQE.out.m.blk.cell 0 _ rfl); have t1 := fun z => hcl z _ _ (HQE.out.m.blk.cell 1 _ rfl)
              have HDE : Hid (Below wE.heap.size wE wE.drew) := (show Below _ _ _ from (Below.refl _ _).drew)
              have ne : Nonempty (WIn (fun w' => Below wE.heap.size wE w')) := ⟨⟨wE, Below.refl _ _⟩⟩
              clear hcl
              refine wp_region_ord (C := fun w' => ∃ z : WIn (fun w' => Below wE.heap.size wE w'), w' = z.w) [(false, 0), (false, 2), (true, 1), (true, 3), (false, 4), (false, 5)] (by kernel_rfl) (by kernel_rfl) ⟨⟨wE.drew, HDE.out⟩, rfl⟩ ?_
              iterate 2 (refine ord_still rfl rfl ?_; go_big_quiet_step (fail); refine wpQuiet_nil ?_)
              refine ord_mem rfl rfl ?_
              go_simp
              refine (H19.out wE.drew HDE.out).mono ?_
              rintro r wF ⟨nx, nq, rfl, hrF, hbF⟩
              have HRF : Hid (RowF mc wF (.slice nx nn nq) nw) := hrF
              have HBF : Hid (Below wE.heap.size wE wF) := hbF
              clear hrF hbF
              refine ⟨⟨⟨_, HBF.out⟩, rfl⟩, ?_⟩
              go_simp
              refine ord_mem rfl rfl ?_
              go_simp
              refine (H20.out wF HBF.out).mono ?_
              rintro r wG ⟨ox, oq', rfl, hrG, hbG⟩
              have HRG : Hid (RowF mc wG (.slice ox nn oq') nw) := hrG
              have HRF2 : Hid (RowF mc wG (.slice nx nn nq) nw) := (show RowF _ _ _ _ from HRF.out.below hbG)
              have HBG : Hid (Below wE.heap.size wE wG) := (show Below _ _ _ from bnext HBF.out hbG)
              clear hrG hbG
              refine ⟨⟨⟨_, HBG.out⟩, rfl⟩, ?_⟩
              go_simp
              iterate 2 (refine ord_still rfl rfl ?_; go_big_quiet_step (fail); refine wpQuiet_nil ?_)
              refine ord_end ?_
              have hn1 : nn ≤ nq := HRF2.out.caps.2.1
              have hn2 : nq ≤ 9223372036854775807 := HRF2.out.caps.2.2
              have hn3 : nn ≤ oq' := HRG.out.caps.2.1
              have hn4 : oq' ≤ 9223372036854775807 := HRG.out.caps.2.2
              clear s0' s1 t0 t1 ne HRF HBF HDE H19 H20
              have HX3 : Hid (Blk wG xb1 51 [.int .i64 x0, .int .u64 x1, .int .i64 x2', .int .i64 x3, .int .i64 x4]) := (show Blk _ _ _ _ from HX2.out.below HBG.out)
              have HY3 : Hid (Blk wG yb1 54 [.int .i64 x0, .int .u64 x1, .int .i64 x2', .int .i64 x3, .int .i64 x4]) := (show Blk _ _ _ _ from HY1.out.below HBG.out)
              have hcl : ∀ (z : WIn (fun w' => Below wG.heap.size wG w')) p v, wG.cell? p = some v → z.w.cell? p = some v := fun z p v hp => (z.ok.cell (World.block_lt_of_cell? wG _ hp)).trans hp
              have s0' := fun z => hcl z _ _ (HX3.out.cell 0 _ rfl); have s1 := fun z => hcl z _ _ (HX3.out.cell 1 _ rfl); have s2 := fun z => hcl z _ _ (HX3.out.cell 2 _ rfl); have s3 := fun z => hcl z _ _ (HX3.out.cell 3 _ rfl); have s4 := fun z => hcl z _ _ (HX3.out.cell 4 _ rfl)
              have t0 := fun z => hcl z _ _ (HY3.out.cell 0 _ rfl); have t1 := fun z => hcl z _ _ (HY3.out.cell 1 _ rfl); have t2 := fun z => hcl z _ _ (HY3.out.cell 2 _ rfl); have t3 := fun z => hcl z _ _ (HY3.out.cell 3 _ rfl); have t4 := fun z => hcl z _ _ (HY3.out.cell 4 _ rfl)
              have HDG : Hid (Below wG.heap.size wG wG.drew) := (show Below _ _ _ from (Below.refl _ _).drew)
              have ne : Nonempty (WIn (fun w' => Below wG.heap.size wG w')) := ⟨⟨wG, Below.refl _ _⟩⟩
              have HMb : Hid (∀ m w, Calls Try.prog 21 #[mv m] w fun r w' => r = .returned (mv m) ∧ Below w.heap.size w w') := fun m w => member21 m w
              unfold mv at HMb
              clear hcl
              go_upto_region 18 with fail
              refine wp_region_ord (C := fun w' => ∃ z : WIn (fun w' => Below wG.heap.size wG w'), w' = z.w) [(false, 0), (false, 2), (true, 1), (false, 3), (false, 4), (false, 5), (false, 6), (false, 7), (false, 8), (false, 9), (false, 10), (false, 11), (false, 12), (false, 13), (false, 14), (false, 15)] (by kernel_rfl) (by kernel_rfl) ⟨⟨wG.drew, HDG.out⟩, rfl⟩ ?_
              iterate 2 (refine ord_still rfl rfl ?_; go_big_quiet_step (fail); refine wpQuiet_nil ?_)
              refine ord_mem rfl rfl ?_
              go_simp
              refine (HMb.out ⟨x0, x1, x2', x3, x4⟩ wG.drew).mono ?_
              rintro r wH ⟨rfl, hbH⟩
              have HBH : Hid (Below wG.heap.size wG wH) := (show Below _ _ _ from bnext (w := wG.drew) HDG.out hbH)
              clear hbH
              refine ⟨⟨⟨_, HBH.out⟩, rfl⟩, ?_⟩
              go_simp
              iterate 4 (refine ord_still rfl rfl ?_; go_big_quiet_step (fail); refine wpQuiet_nil ?_)
              have hff : (fb != fb) = false := by simp
              iterate 9 (refine ord_still rfl rfl ?_; go_big_quiet_step (fail); refine wpQuiet_nil ?_)
              refine ord_end ?_
              clear s0' s1 s2 s3 s4 t0 t1 t2 t3 t4 ne HDG HX3 HY3 HX2 HY1 HMb
              have HRN : Hid (RowF mc wH (.slice nx nn nq) nw) := (show RowF _ _ _ _ from HRF2.out.below HBH.out)
              have HRO : Hid (RowF mc wH (.slice ox nn oq') nw) := (show RowF _ _ _ _ from HRG.out.below HBH.out)
              have HBI : Hid (Below wE.heap.size wE wH) := (show Below _ _ _ from bnext HBG.out HBH.out)
              clear HRF2 HRG HBG HBH
              generalize wr = wold at *
              go_wp2
              go_loopw [21] (fun jv wr => ∃ j : Nat, j ≤ nn ∧ jv = .int .i64 j ∧ Hid (Below wH.heap.size wH wr)) (fun jv _ => nn - (intOf jv).toNat)
              case atStart => exact ⟨0, Nat.zero_le _, rfl, (show Below _ _ _ from Below.refl _ _)⟩
              case round =>
                obtain ⟨j, hj, rfl, HBr⟩ := hrel
                by_cases hjn : j < nn
                · obtain ⟨y, hy⟩ : ∃ y, nw[j]? = some y := ⟨_, List.getElem?_eq_getElem (by have := HNn.out; omega)⟩
                  obtain ⟨g5, o5, e5', hr5⟩ := (HRN.out.below HBr.out).at mc_len hy
                  obtain ⟨g6, o6, e6', hr6⟩ := (HRO.out.below HBr.out).at mc_len hy
                  subst e5' e6'
                  obtain ⟨y0, y1, y2', y3, y4⟩ := y
                  have hcl : ∀ (z : WIn (fun w' => Below wr.heap.size wr w')) p v, wr.cell? p = some v → z.w.cell? p = some v := fun z p v hp => (z.ok.cell (World.block_lt_of_cell? wr _ hp)).trans hp
                  have s0' := fun z => hcl z _ _ (hr5 0 _ rfl); have s1 := fun z => hcl z _ _ (hr5 1 _ rfl); have s2 := fun z => hcl z _ _ (hr5 2 _ rfl); have s3 := fun z => hcl z _ _ (hr5 3 _ rfl); have s4 := fun z => hcl z _ _ (hr5 4 _ rfl)
                  have t0 := fun z => hcl z _ _ (hr6 0 _ rfl); have t1 := fun z => hcl z _ _ (hr6 1 _ rfl); have t2 := fun z => hcl z _ _ (hr6 2 _ rfl); have t3 := fun z => hcl z _ _ (hr6 3 _ rfl); have t4 := fun z => hcl z _ _ (hr6 4 _ rfl)
                  simp only [Nat.add_zero] at s0' t0
                  have HDr : Hid (Below wr.heap.size wr wr.drew) := (show Below _ _ _ from (Below.refl _ _).drew)
                  have ne : Nonempty (WIn (fun w' => Below wr.heap.size wr w')) := ⟨⟨wr, Below.refl _ _⟩⟩
                  have HMb : Hid (∀ m w, Calls Try.prog 21 #[mv m] w fun r w' => r = .returned (mv m) ∧ Below w.heap.size w w') := fun m w => member21 m w
                  unfold mv at HMb
                  clear hcl hr5 hr6 hy
                  go_upto_region 23 with fail
                  refine wp_region_ord (C := fun w' => ∃ z : WIn (fun w' => Below wr.heap.size wr w'), w' = z.w) [(false, 0), (false, 1), (false, 2), (false, 3), (false, 5), (false, 6), (false, 7), (false, 8), (true, 4), (false, 9)] (by kernel_rfl) (by kernel_rfl) ⟨⟨wr.drew, HDr.out⟩, rfl⟩ ?_
                  iterate 8 (refine ord_still rfl rfl ?_; go_big_quiet_step (fail); refine wpQuiet_nil ?_)
                  refine ord_mem rfl rfl ?_
                  go_simp
                  refine (HMb.out ⟨y0, y1, y2', y3, y4⟩ wr.drew).mono ?_
                  rintro r wK ⟨rfl, hbK⟩
                  have HBK : Hid (Below wr.heap.size wr wK) := (show Below _ _ _ from bnext (w := wr.drew) HDr.out hbK)
                  clear hbK
                  refine ⟨⟨⟨_, HBK.out⟩, rfl⟩, ?_⟩
                  go_simp
                  iterate 1 (refine ord_still rfl rfl ?_; go_big_quiet_step (fail); refine wpQuiet_nil ?_)
                  refine ord_end ?_
                  have HBL : Hid (Below wH.heap.size wH wK) := (show Below _ _ _ from bnext HBr.out HBK.out)
                  clear s0' s1 s2 s3 s4 t0 t1 t2 t3 t4 ne
                  go_wp2
                  go_roundw
                  case rel => exact ⟨j + 1, by omega, by go_num, HBL⟩
                  case measure => simp [intOf]; omega
                · have HQz : Hid (PlSt wy wr B sb mb T (.slice ta tm tq) (.slice ua tm uq) (.slice (some ⟨ag, ao, none⟩) (k + 1) q3) ds2) := (show PlSt _ _ _ _ _ _ _ _ _ _ from HQE.out.below (bnext HBI.out HBr.out))
                  have HBz : Hid (B ≤ wr.heap.size) := (show _ ≤ _ from Nat.le_trans HBw.out (bnext HBI.out HBr.out).size)
                  go_wp2
                  go_roundw
                  case rel => exact ⟨k + 1, T, ds2, ta, tq, ua, uq, some ⟨ag, ao, none⟩, q3, tm, by omega, by go_num, rfl, HQz, ⟨HD2.out, HQi.out.1, HQi.out.2⟩, HBz⟩
                  case measure => simp [intOf]; omega
      · have HMp : Hid (ds.map (·.1) = cs.map (·.1)) := (show _ = _ by rw [HI.out.1, List.take_of_length_le (by rw [List.length_map]; have := HN.out; omega)])
        obtain ⟨w4, hw4⟩ : ∃ w4, w4 = wr := ⟨_, rfl⟩
        rw [← hw4] at HP ⊢
        clear hw4
        have HB : Hid (Below wy.heap.size wy w4) := HP.out.bel
        obtain ⟨R, hR⟩ : ∃ R, R = behM p (cs.map (·.1)) := ⟨_, rfl⟩
        obtain ⟨rm, hrm⟩ : ∃ rm, rm = R.1.l.length := ⟨_, rfl⟩
        have HRm : Hid (rm = R.1.l.length ∧ rm ≤ 1000) := (show _ ∧ _ from by
          have h1 := (behM_ok p (cs.map (·.1))).2.2
          rw [← hR, List.length_map, ← HN.out] at h1
          omega)
        obtain ⟨rk, hrk⟩ : ∃ rk : Nat, rk = R.2.1 := ⟨_, rfl⟩
        obtain ⟨rc, hrc⟩ : ∃ rc : Int, rc = R.2.2 := ⟨_, rfl⟩
        have H22 : Hid (Calls Try.prog 22 #[.slice oa k oq, .int .u64 p] w4 fun r w' => ∃ x q, r = .returned (.tuple #[.agg #[.slice x rm q, .int .i64 R.1.e], .int .i64 (rk : Nat), .int .i64 rc]) ∧ RowF mc w' (.slice x rm q) R.1.l ∧ Below w4.heap.size w4 w') := (show Calls _ _ _ _ _ from by
          refine (behind22 p HP.out.all.chs (by have := HDl.out; omega)).mono ?_
          rintro r w' ⟨v, rfl, hr, hb⟩
          rw [HMp.out, ← hR] at hr
          obtain ⟨x, q, e⟩ := hr.len
          rw [← hrm] at e
          subst e
          refine ⟨x, q, ?_, hr, hb⟩
          rw [HMp.out, ← hR, hrk, hrc]
          rfl)
        have H23 : Hid (∀ w', Below wy.heap.size wy w' → Calls Try.prog 23 #[.slice la n lc, .int .u64 p] w' fun r w'' => ∃ x q, r = .returned (.tuple #[.agg #[.slice x rm q, .int .i64 R.1.e], .int .i64 (rk : Nat), .int .i64 rc]) ∧ RowF mc w'' (.slice x rm q) R.1.l ∧ Below w'.heap.size w' w'') := fun w' hb => by
          refine (rbehind23 p (HCs.out.below hb) (by have := HN.out; omega)).mono ?_
          rintro r w'' ⟨v, rfl, hr, hb⟩
          rw [← hR] at hr
          obtain ⟨x, q, e⟩ := hr.len
          rw [← hrm] at e
          subst e
          refine ⟨x, q, ?_, hr, hb⟩
          rw [← hR, hrk, hrc]
          rfl
        clear hR hrm hrk hrc HP HMp HI HBs
        go_upto_region 26 with (go_at_call 22; go_must (refine H22.out.mono ?_; rintro r w5 ⟨x5, q5, rfl, hr5, hb5⟩))
        have HT6 : Hid (VarAt (w5.alloc (.cells #[.slice x5 rm q5, .int .i64 R.1.e] 28)) w5.heap.size 28 (.slice x5 rm q5) R.1) := (show VarAt _ _ _ _ _ from var_new (S := R.1) 28 hr5)
        have HB6 : Hid (Below wy.heap.size wy (w5.alloc (.cells #[.slice x5 rm q5, .int .i64 R.1.e] 28))) := (show Below _ _ _ from balloc (bnext HB.out hb5) _)
        obtain ⟨tb, htb⟩ : ∃ tb, tb = w5.heap.size := ⟨_, rfl⟩
        rw [← htb] at HT6 ⊢
        generalize w5.alloc (.cells #[.slice x5 rm q5, .int .i64 R.1.e] 28) = w6 at *
        clear hr5 hb5 htb H22
        go_upto_region 27 with (go_at_call 23; go_must (refine (H23.out w6 HB6.out).mono ?_; rintro r w7 ⟨x7, q7, rfl, hr7, hb7⟩))
        have HU8 : Hid (VarAt (w7.alloc (.cells #[.slice x7 rm q7, .int .i64 R.1.e] 32)) w7.heap.size 32 (.slice x7 rm q7) R.1) := (show VarAt _ _ _ _ _ from var_new (S := R.1) 32 hr7)
        have hb68 : Below w6.heap.size w6 (w7.alloc (.cells #[.slice x7 rm q7, .int .i64 R.1.e] 32)) := balloc hb7 _
        have HT8 : Hid (VarAt (w7.alloc (.cells #[.slice x7 rm q7, .int .i64 R.1.e] 32)) tb 28 (.slice x5 rm q5) R.1) := (show VarAt _ _ _ _ _ from HT6.out.below hb68)
        have HB8 : Hid (Below wy.heap.size wy (w7.alloc (.cells #[.slice x7 rm q7, .int .i64 R.1.e] 32))) := (show Below _ _ _ from bnext HB6.out hb68)
        obtain ⟨ub, hub⟩ : ∃ ub, ub = w7.heap.size := ⟨_, rfl⟩
        rw [← hub] at HU8 ⊢
        generalize w7.alloc (.cells #[.slice x7 rm q7, .int .i64 R.1.e] 32) = w8 at *
        clear hr7 hb7 hub hb68 HT6 HB6 H23
        have H16 : Hid (∀ w', Below w8.heap.size w8 w' → Calls Try.prog 16 #[.agg #[.slice x5 rm q5, .int .i64 R.1.e]] w' fun r w'' => ∃ a q, r = .returned (.agg #[.slice a rm q, .int .i64 R.1.e]) ∧ RowF mc w'' (.slice a rm q) R.1.l ∧ Below w8.heap.size w8 w'') := fun w' hb => by
          refine (state16 (HT8.out.row.below hb) (by have := HRm.out; omega)).mono ?_
          rintro r w'' ⟨v, rfl, hr, hb'⟩
          obtain ⟨a, q, e⟩ := hr.len
          rw [← HRm.out.1] at e
          subst e
          exact ⟨a, q, rfl, hr, bnext hb hb'⟩
        have H15 : Hid (∀ w' a q, Below w8.heap.size w8 w' → RowF mc w' (.slice a rm q) R.1.l → Calls Try.prog 15 #[.agg #[.slice a rm q, .int .i64 R.1.e], .agg #[.slice x7 rm q7, .int .i64 R.1.e]] w' fun r w'' => r = .returned (.bool true) ∧ Below w8.heap.size w8 w'') := fun w' a q hb hr => by
          refine (same15 hr (HU8.out.row.below hb)).mono ?_
          rintro r w'' ⟨rfl, hb'⟩
          exact ⟨rfl, bnext hb hb'⟩
        have H9 : Hid (∀ w', Below w8.heap.size w8 w' → Calls Try.prog 9 #[] w' fun r w'' => r = .returned (.bool true) ∧ Below w8.heap.size w8 w'') := fun w' hb => by
          refine (HAl.out w').mono ?_
          rintro r w'' ⟨rfl, hb'⟩
          exact ⟨rfl, bnext hb hb'⟩
        have hcl : ∀ (z : WIn (fun w' => Below w8.heap.size w8 w')) p v, w8.cell? p = some v → z.w.cell? p = some v := fun z p v hp => (z.ok.cell (World.block_lt_of_cell? w8 _ hp)).trans hp
        have s0' := fun z => hcl z _ _ (HT8.out.blk.cell 0 _ rfl); have s1 := fun z => hcl z _ _ (HT8.out.blk.cell 1 _ rfl)
        have t0 := fun z => hcl z _ _ (HU8.out.blk.cell 0 _ rfl); have t1 := fun z => hcl z _ _ (HU8.out.blk.cell 1 _ rfl)
        have HD8 : Hid (Below w8.heap.size w8 w8.drew) := (show Below _ _ _ from (Below.refl _ _).drew)
        have ne : Nonempty (WIn (fun w' => Below w8.heap.size w8 w')) := ⟨⟨w8, Below.refl _ _⟩⟩
        have hkk : ((rk : Int) == (rk : Int)) = true := by simp
        have hcc : (rc == rc) = true := by simp
        clear hcl
        refine wp_region_ord (C := fun w' => ∃ z : WIn (fun w' => Below w8.heap.size w8 w'), w' = z.w) [(false, 0), (false, 2), (true, 1), (true, 3), (false, 4), (false, 5), (false, 6), (false, 7), (false, 8), (false, 9), (false, 10), (false, 11), (false, 12), (false, 13), (false, 14), (true, 15), (false, 16), (false, 17)] (by kernel_rfl) (by kernel_rfl) ⟨⟨w8.drew, HD8.out⟩, rfl⟩ ?_
        iterate 2 (refine ord_still rfl rfl ?_; go_big_quiet_step (fail); refine wpQuiet_nil ?_)
        refine ord_mem rfl rfl ?_
        go_simp
        refine (H16.out w8.drew HD8.out).mono ?_
        rintro r w9 ⟨a9, q9, rfl, hr9, hb9⟩
        have HR9 : Hid (RowF mc w9 (.slice a9 rm q9) R.1.l) := hr9
        have HB9 : Hid (Below w8.heap.size w8 w9) := hb9
        clear hr9 hb9
        refine ⟨⟨⟨_, HB9.out⟩, rfl⟩, ?_⟩
        go_simp
        refine ord_mem rfl rfl ?_
        go_simp
        refine (H15.out w9 a9 q9 HB9.out HR9.out).mono ?_
        rintro r w10 ⟨rfl, hb10⟩
        have HB10 : Hid (Below w8.heap.size w8 w10) := hb10
        clear hb10
        refine ⟨⟨⟨_, HB10.out⟩, rfl⟩, ?_⟩
        go_simp
        iterate 11 (refine ord_still rfl rfl ?_; go_big_quiet_step (fail); refine wpQuiet_nil ?_)
        refine ord_mem rfl rfl ?_
        go_simp
        refine (H9.out w10 HB10.out).mono ?_
        rintro r w11 ⟨rfl, hb11⟩
        have HB11 : Hid (Below w8.heap.size w8 w11) := hb11
        clear hb11
        refine ⟨⟨⟨_, HB11.out⟩, rfl⟩, ?_⟩
        go_simp
        iterate 2 (refine ord_still rfl rfl ?_; go_big_quiet_step (fail); refine wpQuiet_nil ?_)
        refine ord_end ?_
        have HBz : Hid (Below wy.heap.size wy w11) := (show Below _ _ _ from bnext HB8.out HB11.out)
        clear s0' s1 t0 t1 ne
        go_wp2
        go_ret
        exact ⟨rfl, HBz.out⟩
end Go.Proofs.Ytgoghmabhdkdjaa
