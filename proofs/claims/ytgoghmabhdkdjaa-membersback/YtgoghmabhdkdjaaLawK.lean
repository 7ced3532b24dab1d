/-
  The walk of MembersKeeps: a change that is refused changes nothing, a state is its own, members stay by who they are.
-/
import Derived.Test.YtgoghmabhdkdjaaAlv
import Derived.Test.YtgoghmabhdkdjaaPurA
namespace Go.Proofs.Ytgoghmabhdkdjaa
set_option linter.unusedVariables false
set_option linter.unusedSimpArgs false
set_option synthInstance.maxSize 20000
set_option maxHeartbeats 2000000
set_option maxRecDepth 20000
open Go.RowKit Go.Maps

theorem light_each {cs : List Cq} (h : lightB (cs.map (·.1)) = true) : cs.length ≤ 60 ∧ ∀ q ∈ cs, q.1.ws.length ≤ 20 := by
  unfold lightB at h
  rw [Bool.and_eq_true] at h
  refine ⟨by simpa using h.1, fun q hq => ?_⟩
  have := List.all_eq_true.1 h.2 q.1 (List.mem_map.2 ⟨q, hq, rfl⟩)
  unfold lightC at this
  rw [Bool.and_eq_true] at this
  have := of_decide_eq_true this.1
  exact this.1
theorem srt_at {l : List Mb} (h : Srt l) {i : Nat} {x y : Mb} (hx : l[i]? = some x) (hy : l[i + 1]? = some y) : x.w < y.w := by
  have h1 := List.getElem?_eq_some_iff.1 hx
  have h2 := List.getElem?_eq_some_iff.1 hy
  have := List.pairwise_iff_getElem.1 h i (i + 1) h1.1 h2.1 (by omega)
  rw [h1.2, h2.2] at this
  exact this
theorem keeps_walk (p : Int) (lv : Value) (cs : List Cq) (w : World) (hp : U64 p) (hl : ChsAt w lv cs) : Calls Try.prog 7 #[.int .u64 p, lv] w fun r w' => r = .returned (.bool true) ∧ Below w.heap.size w w' := by
  clear hp
  have HLt : Hid (Calls Try.prog 8 #[lv] w fun r w' => r = .returned (.bool (lightB (cs.map (·.1)))) ∧ w' = w) := (show Calls _ _ _ _ _ from light8 hl)
  have HAl : Hid (∀ w, Calls Try.prog 9 #[] w fun r w' => r = .returned (.bool true) ∧ Below w.heap.size w w') := alive9
  obtain ⟨la, lc, rfl⟩ := hl.row.len
  have hcap := hl.row.caps
  have hc1 : cs.length ≤ lc := hcap.2.1
  have hc2 : lc ≤ 9223372036854775807 := hcap.2.2
  cases hlt : lightB (cs.map (·.1))
  · rw [hlt] at HLt
    go_enter Try.func7, Try.ntmps7
    go_wp2_with (first
      | (go_at_call 8; go_must (refine HLt.out.mono ?_; rintro r wy ⟨rfl, rfl⟩))
      | (go_at_call 9; go_must (refine (HAl.out _).mono ?_; rintro r wz ⟨rfl, hbz⟩)))
    go_ret
    exact ⟨rfl, hbz⟩
  · rw [hlt] at HLt
    obtain ⟨h60, hws⟩ := light_each hlt
    have HWs : Hid (∀ q ∈ cs, q.1.ws.length ≤ 20) := hws
    have HCs : Hid (ChsAt w (.slice la cs.length lc) cs) := hl
    obtain ⟨n, hn⟩ : ∃ n, n = cs.length := ⟨_, rfl⟩
    have HN : Hid (n = cs.length) := hn
    have HNew : Hid (Calls Try.prog 10 #[.int .u64 p] w fun r w' => ∃ a q, r = .returned (.agg #[.slice a 1 q, .int .i64 (-1)]) ∧ RowF mc w' (.slice a 1 q) [⟨0, p, 0, -1, 0⟩] ∧ Below w.heap.size w w') := (show Calls _ _ _ _ _ from by
      refine (new10 p w).mono ?_
      rintro r w' ⟨v, rfl, hr, hb⟩
      obtain ⟨a, q, rfl⟩ := hr.len
      exact ⟨a, q, rfl, hr, hb⟩)
    rw [← hn] at hc1 h60 HCs HLt ⊢
    clear hl hcap hlt hws hn
    go_enter Try.func7, Try.ntmps7
    go_wp2_with (first
      | (go_at_call 8; go_must (refine HLt.out.mono ?_; rintro r wy ⟨rfl, rfl⟩))
      | (go_at_call 10; go_must (refine HNew.out.mono ?_; rintro r w1 ⟨a1, q1, rfl, hr1, hb1⟩)))
    have HV2 : Hid (VarAt (w1.alloc (.cells #[.slice a1 1 q1, .int .i64 (-1)] 28)) w1.heap.size 28 (.slice a1 1 q1) ⟨[⟨0, p, 0, -1, 0⟩], -1⟩) := var_new (S := ⟨[⟨0, p, 0, -1, 0⟩], -1⟩) 28 hr1
    have HB2 : Hid (Below wy.heap.size wy (w1.alloc (.cells #[.slice a1 1 q1, .int .i64 (-1)] 28))) := balloc hb1 _
    obtain ⟨sb, hsb⟩ : ∃ sb, sb = w1.heap.size := ⟨_, rfl⟩
    have HSb : Hid (wy.heap.size ≤ sb) := (show _ ≤ _ by rw [hsb]; exact hb1.size)
    rw [← hsb] at HV2 ⊢
    generalize w1.alloc (.cells #[.slice a1 1 q1, .int .i64 (-1)] 28) = w2 at *
    clear hr1 hb1 hsb HNew HLt
    go_loopw [6] (fun iv wr => ∃ (k : Nat) (S : Sm) (a : Option Addr) (q m : Nat), k ≤ n ∧ iv = .int .i64 k ∧ Hid (VarAt wr sb 28 (.slice a m q) S) ∧ Hid (MOk S ∧ m = S.l.length ∧ m ≤ k + 1) ∧ Hid (Below wy.heap.size wy wr)) (fun iv _ => n - (intOf iv).toNat)
    case atStart => exact ⟨0, _, a1, q1, 1, Nat.zero_le _, rfl, HV2, ⟨sok_new p, rfl, Nat.le_refl _⟩, HB2⟩
    case round =>
      obtain ⟨k, S, sa, sq, m, hk, rfl, HV, HI, HB⟩ := hrel
      by_cases hki : k < n
      · have HSt : Hid (Calls Try.prog 16 #[.agg #[.slice sa m sq, .int .i64 S.e]] wr fun r w' => ∃ a q, r = .returned (.agg #[.slice a m q, .int .i64 S.e]) ∧ RowF mc w' (.slice a m q) S.l ∧ Below wr.heap.size wr w') := (show Calls _ _ _ _ _ from by
          refine (state16 HV.out.row (by have := HI.out.2; omega)).mono ?_
          rintro r w' ⟨v, rfl, hr, hb⟩
          obtain ⟨a, q, e⟩ := hr.len
          rw [← HI.out.2.1] at e
          subst e
          exact ⟨a, q, rfl, hr, hb⟩)
        have x0 := HV.out.blk.cell 0 _ rfl; have x1 := HV.out.blk.cell 1 _ rfl
        go_upto_region 8 with (go_at_call 16; go_must (refine HSt.out.mono ?_; rintro r w3 ⟨a3, q3, rfl, hr3, hb3⟩))
        clear x0 x1
        have HW4 : Hid (VarAt (w3.alloc (.cells #[.slice a3 m q3, .int .i64 S.e] 32)) w3.heap.size 32 (.slice a3 m q3) S) := var_new (S := S) 32 hr3
        have hb34 : Below wr.heap.size wr (w3.alloc (.cells #[.slice a3 m q3, .int .i64 S.e] 32)) := balloc hb3 _
        have HV4 : Hid (VarAt (w3.alloc (.cells #[.slice a3 m q3, .int .i64 S.e] 32)) sb 28 (.slice sa m sq) S) := (show VarAt _ _ _ _ _ from HV.out.below hb34)
        have HB4 : Hid (Below wy.heap.size wy (w3.alloc (.cells #[.slice a3 m q3, .int .i64 S.e] 32))) := (show Below _ _ _ from bnext HB.out hb34)
        obtain ⟨wb, hwb⟩ : ∃ wb, wb = w3.heap.size := ⟨_, rfl⟩
        have HWb : Hid (wy.heap.size ≤ wb ∧ sb < wb) := (by
          have h1 := HV.out.blk.lt
          have h2 := hb3.size
          have h3 := HB.out.size
          exact (show _ ∧ _ by omega))
        rw [← hwb] at HW4 ⊢
        generalize w3.alloc (.cells #[.slice a3 m q3, .int .i64 S.e] 32) = w4 at *
        clear hr3 hb3 hb34 hwb HSt HV HB
        obtain ⟨q, hq⟩ : ∃ q, cs[k]? = some q := ⟨_, List.getElem?_eq_getElem (by have := HN.out; omega)⟩
        obtain ⟨g, off, ea, hr⟩ := (HCs.out.row.below HB4.out).at cqf_len hq
        subst ea
        obtain ⟨qs, hcg⟩ := (HCs.out.below HB4.out).each q (List.mem_of_getElem? hq)
        have hql := HWs.out q (List.mem_of_getElem? hq)
        rw [← hcg.len] at hql
        have HQs : Hid (qs.length ≤ 20) := hql
        obtain ⟨⟨ck, cw, cp, cm, cws, co⟩, va, vb⟩ := q
        obtain ⟨⟨xa, na, pa, hva⟩, xb, nb, pb, hvb⟩ := slices_of hcg
        dsimp only at hva hvb hcg
        subst hva hvb
        have HCg : Hid (CgAt w4 ⟨ck, cw, cp, cm, cws, co⟩ (.slice xa na pa) (.slice xb nb pb) qs) := hcg
        have hcl : ∀ (z : WIn (fun w' => Below w4.heap.size w4 w')) p v, w4.cell? p = some v → z.w.cell? p = some v := fun z p v hp => (z.ok.cell (World.block_lt_of_cell? w4 _ hp)).trans hp
        have s0 := fun z => hcl z _ _ (HV4.out.blk.cell 0 _ rfl); have s1 := fun z => hcl z _ _ (HV4.out.blk.cell 1 _ rfl)
        have e0 := fun z => hcl z _ _ (hr 0 _ rfl); have e1 := fun z => hcl z _ _ (hr 1 _ rfl); have e2 := fun z => hcl z _ _ (hr 2 _ rfl); have e3 := fun z => hcl z _ _ (hr 3 _ rfl); have e4 := fun z => hcl z _ _ (hr 4 _ rfl); have e5 := fun z => hcl z _ _ (hr 5 _ rfl)
        simp only [Nat.add_zero] at e0
        clear hcg hql hr hcl hq
        have HOw : Hid (∀ w', Below w4.heap.size w4 w' → Calls Try.prog 12 #[.agg #[.int .i64 ck, .int .i64 cw, .int .u64 cp, .int .i64 cm, .slice xa na pa, .slice xb nb pb]] w' fun r w'' => ∃ x nn y, r = .returned (.agg #[.int .i64 ck, .int .i64 cw, .int .u64 cp, .int .i64 cm, .slice x nn y, .slice xb nb pb]) ∧ CgAt w'' ⟨ck, cw, cp, cm, cws, co⟩ (.slice x nn y) (.slice xb nb pb) qs ∧ Below w'.heap.size w' w'') := fun w' hb => by
          refine (own12 (HCg.out.below hb) (by have := HQs.out; omega)).mono ?_
          rintro r w'' ⟨a', rfl, h1, h2⟩
          obtain ⟨x, y, e⟩ := h1.row.len
          subst e
          exact ⟨x, _, y, rfl, h1, h2⟩
        obtain ⟨L, E, K, hAe⟩ : ∃ L E K, applyM S ⟨ck, cw, cp, cm, cws, co⟩ = (⟨L, E⟩, K) := ⟨_, _, _, rfl⟩
        obtain ⟨m', hm'⟩ : ∃ m', m' = L.length := ⟨_, rfl⟩
        have HAe : Hid (applyM S ⟨ck, cw, cp, cm, cws, co⟩ = (⟨L, E⟩, K)) := hAe
        have HM' : Hid (m' = L.length) := hm'
        have HAp : Hid (∀ w' x nn y, Below w4.heap.size w4 w' → CgAt w' ⟨ck, cw, cp, cm, cws, co⟩ (.slice x nn y) (.slice xb nb pb) qs → Calls Try.prog 13 #[.agg #[.slice sa m sq, .int .i64 S.e], .agg #[.int .i64 ck, .int .i64 cw, .int .u64 cp, .int .i64 cm, .slice x nn y, .slice xb nb pb]] w' fun r w'' => ∃ z y', r = .returned (.tuple #[.agg #[.slice z m' y', .int .i64 E], .int .i64 K]) ∧ RowF mc w'' (.slice z m' y') L ∧ Below w'.heap.size w' w'') := fun w' x nn y hb hc => by
          have h1 := apply13 (S := S) (HV4.out.row.below hb) (by have := HI.out.2; omega) HI.out.1.e hc
          rw [HAe.out] at h1
          refine h1.mono ?_
          rintro r w'' ⟨v, rfl, hr, hb'⟩
          obtain ⟨z, y', e⟩ := hr.len
          subst e
          refine ⟨z, y', ?_, ?_, hb'⟩
          · rw [HM'.out]; rfl
          · rw [HM'.out]; exact hr
        clear hAe hm'
        have HD4 : Hid (Below w4.heap.size w4 w4.drew) := (show Below _ _ _ from (Below.refl _ _).drew)
        have ne : Nonempty (WIn (fun w' => Below w4.heap.size w4 w')) := ⟨⟨w4, Below.refl _ _⟩⟩
        go_cut [8, 9] (fun tv kv wx => ∃ (tb : Nat) (z : Option Addr) (y : Nat), tv = ptr tb ∧ kv = .int .i64 K ∧ Hid (ApV w4 wx tb (.slice z m' y) ⟨L, E⟩))
        case first =>
          refine wp_region_tree (C := fun w' => ∃ z : WIn (fun w' => Below w4.heap.size w4 w'), w' = z.w) (.still 0 (.still 1 (.still 2 (.still 3 (.still 4 (.two 5 (.two 6 (.still 7 (.still 8 (.still 9 (.one 10 (.one 11 (.still 12 .done)))))) 10 (.one 6 (.still 7 (.still 8 (.still 9 (.one 11 (.still 12 .done))))))) 10 (.one 5 (.one 6 (.still 7 (.still 8 (.still 9 (.one 11 (.still 12 .done))))))))))))) (by kernel_rfl) (by kernel_rfl) ⟨⟨w4.drew, HD4.out⟩, rfl⟩ ?_
          iterate 5 (refine tree_still rfl rfl ?_; go_big_quiet_step (fail); refine wpQuiet_nil ?_)
          refine tree_two rfl rfl rfl rfl ?_ ?_
          · go_simp
            refine (HOw.out w4.drew HD4.out).mono ?_
            rintro r w5 ⟨x5, n5, y5, rfl, hc5, hb5⟩
            have HC5 : Hid (CgAt w5 ⟨ck, cw, cp, cm, cws, co⟩ (.slice x5 n5 y5) (.slice xb nb pb) qs) := hc5
            have HD5 : Hid (Below w4.heap.size w4 w5) := (show Below _ _ _ from bnext (w := w4.drew) HD4.out hb5)
            clear hc5 hb5
            refine ⟨⟨⟨_, HD5.out⟩, rfl⟩, ?_⟩
            go_simp
            refine tree_two rfl rfl rfl rfl ?_ ?_
            · go_simp
              refine (HAp.out w5 x5 n5 y5 HD5.out HC5.out).mono ?_
              rintro r w6 ⟨z6, y6, rfl, hr6, hb6⟩
              have HR6 : Hid (RowF mc w6 (.slice z6 m' y6) L) := hr6
              have HD6 : Hid (Below w4.heap.size w4 w6) := (show Below _ _ _ from bnext (w := w5) HD5.out hb6)
              clear hr6 hb6
              refine ⟨⟨⟨_, HD6.out⟩, rfl⟩, ?_⟩
              go_simp
              iterate 3 (refine tree_still rfl rfl ?_; go_big_quiet_step (fail); refine wpQuiet_nil ?_)
              refine tree_one rfl rfl ?_
              go_simp
              have HP : Hid (ApV w4 (w6.alloc (.cells #[.slice z6 m' y6, .int .i64 E] 28)) w6.heap.size (.slice z6 m' y6) ⟨L, E⟩) := (show ApV _ _ _ _ _ from apv_new (S := ⟨L, E⟩) HR6.out HD6.out)
              have HZ : Hid (Below w4.heap.size w4 (w6.alloc (.cells #[.slice none 0 0, .int .i64 0] 28))) := (show Below _ _ _ from balloc HD6.out _)
              refine ⟨⟨⟨_, HZ.out⟩, rfl⟩, ?_⟩
              go_simp
              refine tree_one rfl rfl ?_
              go_simp
              refine ⟨⟨⟨_, HP.out.bel⟩, rfl⟩, ?_⟩
              go_simp
              refine tree_still rfl rfl ?_; go_big_quiet_step (fail); refine wpQuiet_nil ?_
              refine tree_done ?_
              go_wp2
              go_meet
              exact ⟨_, _, _, rfl, rfl, HP⟩
            · go_simp
              have HV7 : Hid (VarAt (w5.alloc (.cells #[.slice none 0 0, .int .i64 0] 28)) w5.heap.size 28 (.slice none 0 0) ⟨[], 0⟩) := var_new (S := ⟨[], 0⟩) 28 (rowF_nil w5)
              have HD7 : Hid (Below w4.heap.size w4 (w5.alloc (.cells #[.slice none 0 0, .int .i64 0] 28))) := (show Below _ _ _ from balloc HD5.out _)
              have HTb : Hid (w4.heap.size ≤ w5.heap.size) := (show _ ≤ _ from (HD5.out).size)
              have HC7 : Hid (CgAt (w5.alloc (.cells #[.slice none 0 0, .int .i64 0] 28)) ⟨ck, cw, cp, cm, cws, co⟩ (.slice x5 n5 y5) (.slice xb nb pb) qs) := (show CgAt _ _ _ _ _ from HC5.out.below (balloc (Below.refl _ _) _))
              obtain ⟨tb, htb⟩ : ∃ tb, tb = w5.heap.size := ⟨_, rfl⟩
              rw [← htb] at HV7 HTb ⊢
              generalize w5.alloc (.cells #[.slice none 0 0, .int .i64 0] 28) = w7 at *
              clear htb
              refine ⟨⟨⟨_, HD7.out⟩, rfl⟩, ?_⟩
              go_simp
              refine tree_one rfl rfl ?_
              go_simp
              refine (HAp.out w7 x5 n5 y5 HD7.out HC7.out).mono ?_
              rintro r w6 ⟨z6, y6, rfl, hr6, hb6⟩
              have HR6 : Hid (RowF mc w6 (.slice z6 m' y6) L) := hr6
              have HD6 : Hid (Below w4.heap.size w4 w6) := (show Below _ _ _ from bnext (w := w7) HD7.out hb6)
              have HV8 : Hid (VarAt w6 tb 28 (.slice none 0 0) ⟨[], 0⟩) := (show VarAt _ _ _ _ _ from HV7.out.below hb6)
              clear hr6 hb6
              refine ⟨⟨⟨_, HD6.out⟩, rfl⟩, ?_⟩
              go_simp
              iterate 3 (refine tree_still rfl rfl ?_; go_big_quiet_step (fail); refine wpQuiet_nil ?_)
              have HP : Hid (ApV w4 (putS w6 tb (.slice z6 m' y6) E) tb (.slice z6 m' y6) ⟨L, E⟩) := (show ApV _ _ _ _ _ from apv_put (S := ⟨L, E⟩) HV8.out HR6.out HD6.out HTb.out)
              have g0 := HV8.out.blk.cell 0 _ rfl; have g1 := HV8.out.blk.cell 1 _ rfl; have i0 := HV8.out.blk.frozen 0; have i1 := HV8.out.blk.frozen 1
              refine tree_one rfl rfl ?_
              go_simp
              refine ⟨⟨⟨_, HP.out.bel⟩, rfl⟩, ?_⟩
              go_simp
              refine tree_still rfl rfl ?_; go_big_quiet_step (fail); refine wpQuiet_nil ?_
              refine tree_done ?_
              go_wp2
              go_meet
              exact ⟨_, _, _, rfl, rfl, HP⟩
          · go_simp
            have HV7 : Hid (VarAt (w4.alloc (.cells #[.slice none 0 0, .int .i64 0] 28)).drew w4.heap.size 28 (.slice none 0 0) ⟨[], 0⟩) := (show VarAt _ _ _ _ _ from var_new (S := ⟨[], 0⟩) 28 (rowF_nil w4.drew))
            have HD7 : Hid (Below w4.heap.size w4 (w4.alloc (.cells #[.slice none 0 0, .int .i64 0] 28)).drew) := (show Below _ _ _ from (balloc (Below.refl _ _) _).drew)
            have HTb : Hid (w4.heap.size ≤ w4.heap.size) := (show _ ≤ _ from Nat.le_refl _)
            generalize (w4.alloc (.cells #[.slice none 0 0, .int .i64 0] 28)).drew = w7 at *
            refine ⟨⟨⟨_, HD7.out⟩, rfl⟩, ?_⟩
            go_simp
            refine tree_one rfl rfl ?_
            go_simp
            refine (HOw.out w7 HD7.out).mono ?_
            rintro r w5 ⟨x5, n5, y5, rfl, hc5, hb5⟩
            have HC5 : Hid (CgAt w5 ⟨ck, cw, cp, cm, cws, co⟩ (.slice x5 n5 y5) (.slice xb nb pb) qs) := hc5
            have HD5 : Hid (Below w4.heap.size w4 w5) := (show Below _ _ _ from bnext (w := w7) HD7.out hb5)
            have HV9 : Hid (VarAt w5 w4.heap.size 28 (.slice none 0 0) ⟨[], 0⟩) := (show VarAt _ _ _ _ _ from HV7.out.below hb5)
            clear hc5 hb5 HV7
            refine ⟨⟨⟨_, HD5.out⟩, rfl⟩, ?_⟩
            go_simp
            refine tree_one rfl rfl ?_
            have HV7 := HV9
            go_simp
            refine (HAp.out w5 x5 n5 y5 HD5.out HC5.out).mono ?_
            rintro r w6 ⟨z6, y6, rfl, hr6, hb6⟩
            have HR6 : Hid (RowF mc w6 (.slice z6 m' y6) L) := hr6
            have HD6 : Hid (Below w4.heap.size w4 w6) := (show Below _ _ _ from bnext (w := w5) HD5.out hb6)
            have HV8 : Hid (VarAt w6 w4.heap.size 28 (.slice none 0 0) ⟨[], 0⟩) := (show VarAt _ _ _ _ _ from HV7.out.below hb6)
            clear hr6 hb6
            refine ⟨⟨⟨_, HD6.out⟩, rfl⟩, ?_⟩
            go_simp
            iterate 3 (refine tree_still rfl rfl ?_; go_big_quiet_step (fail); refine wpQuiet_nil ?_)
            have HP : Hid (ApV w4 (putS w6 w4.heap.size (.slice z6 m' y6) E) w4.heap.size (.slice z6 m' y6) ⟨L, E⟩) := (show ApV _ _ _ _ _ from apv_put (S := ⟨L, E⟩) HV8.out HR6.out HD6.out HTb.out)
            have g0 := HV8.out.blk.cell 0 _ rfl; have g1 := HV8.out.blk.cell 1 _ rfl; have i0 := HV8.out.blk.frozen 0; have i1 := HV8.out.blk.frozen 1
            refine tree_one rfl rfl ?_
            go_simp
            refine ⟨⟨⟨_, HP.out.bel⟩, rfl⟩, ?_⟩
            go_simp
            refine tree_still rfl rfl ?_; go_big_quiet_step (fail); refine wpQuiet_nil ?_
            refine tree_done ?_
            go_wp2
            go_meet
            exact ⟨_, _, _, rfl, rfl, HP⟩
        case rest =>
          obtain ⟨tb, tz, ty, htv, hkv, HP⟩ := hcut
          rename World => w5
          subst htv
          subst hkv
          have hb45 := HP.out.bel
          have HT5 : Hid (VarAt w5 tb 28 (.slice tz m' ty) ⟨L, E⟩) := HP.out.var
          have HS5 : Hid (VarAt w5 sb 28 (.slice sa m sq) S) := (show VarAt _ _ _ _ _ from HV4.out.below hb45)
          have HW5 : Hid (VarAt w5 wb 32 (.slice a3 m q3) S) := (show VarAt _ _ _ _ _ from HW4.out.below hb45)
          have HB5 : Hid (Below wy.heap.size wy w5) := (show Below _ _ _ from bnext HB4.out hb45)
          have HTs : Hid (wb < tb ∧ sb < tb) := (show _ ∧ _ from by
            have h1 := HP.out.tb
            have h2 := HW4.out.blk.lt
            have h3 := HWb.out
            omega)
          clear hb45 HP HV4 HW4 HOw HAp HD4 ne s0 s1 e0 e1 e2 e3 e4 e5 HCg HQs
          have H16 : Hid (∀ w', Below w5.heap.size w5 w' → Calls Try.prog 16 #[.agg #[.slice sa m sq, .int .i64 S.e]] w' fun r w'' => ∃ a q, r = .returned (.agg #[.slice a m q, .int .i64 S.e]) ∧ RowF mc w'' (.slice a m q) S.l ∧ Below w5.heap.size w5 w'') := fun w' hb => by
            refine (state16 (HS5.out.row.below hb) (by have := HI.out.2; omega)).mono ?_
            rintro r w'' ⟨v, rfl, hr, hb'⟩
            obtain ⟨a, q, e⟩ := hr.len
            rw [← HI.out.2.1] at e
            subst e
            exact ⟨a, q, rfl, hr, bnext hb hb'⟩
          have H15 : Hid (∀ w' a q, Below w5.heap.size w5 w' → RowF mc w' (.slice a m q) S.l → Calls Try.prog 15 #[.agg #[.slice a m q, .int .i64 S.e], .agg #[.slice a3 m q3, .int .i64 S.e]] w' fun r w'' => r = .returned (.bool true) ∧ Below w5.heap.size w5 w'') := fun w' a q hb hr => by
            refine (same15 hr (HW5.out.row.below hb)).mono ?_
            rintro r w'' ⟨rfl, hb'⟩
            exact ⟨rfl, bnext hb hb'⟩
          have hcl : ∀ (z : WIn (fun w' => Below w5.heap.size w5 w')) p v, w5.cell? p = some v → z.w.cell? p = some v := fun z p v hp => (z.ok.cell (World.block_lt_of_cell? w5 _ hp)).trans hp
          have s0 := fun z => hcl z _ _ (HS5.out.blk.cell 0 _ rfl); have s1 := fun z => hcl z _ _ (HS5.out.blk.cell 1 _ rfl)
          have t0 := fun z => hcl z _ _ (HW5.out.blk.cell 0 _ rfl); have t1 := fun z => hcl z _ _ (HW5.out.blk.cell 1 _ rfl)
          have HD5 : Hid (Below w5.heap.size w5 w5.drew) := (show Below _ _ _ from (Below.refl _ _).drew)
          have ne : Nonempty (WIn (fun w' => Below w5.heap.size w5 w')) := ⟨⟨w5, Below.refl _ _⟩⟩
          clear hcl
          go_upto_region 9 with fail
          refine wp_region_ord (C := fun w' => ∃ z : WIn (fun w' => Below w5.heap.size w5 w'), w' = z.w) [(false, 0), (false, 2), (true, 1), (true, 3), (false, 4)] (by kernel_rfl) (by kernel_rfl) ⟨⟨w5.drew, HD5.out⟩, rfl⟩ ?_
          iterate 2 (refine ord_still rfl rfl ?_; go_big_quiet_step (fail); refine wpQuiet_nil ?_)
          refine ord_mem rfl rfl ?_
          go_simp
          refine (H16.out w5.drew HD5.out).mono ?_
          rintro r w6 ⟨a6, q6, rfl, hr6, hb6⟩
          have HR6 : Hid (RowF mc w6 (.slice a6 m q6) S.l) := hr6
          have HB6 : Hid (Below w5.heap.size w5 w6) := hb6
          clear hr6 hb6
          refine ⟨⟨⟨_, HB6.out⟩, rfl⟩, ?_⟩
          go_simp
          refine ord_mem rfl rfl ?_
          go_simp
          refine (H15.out w6 a6 q6 HB6.out HR6.out).mono ?_
          rintro r w7 ⟨rfl, hb7⟩
          have HB7 : Hid (Below w5.heap.size w5 w7) := hb7
          clear hb7
          refine ⟨⟨⟨_, HB7.out⟩, rfl⟩, ?_⟩
          go_simp
          refine ord_still rfl rfl ?_; go_big_quiet_step (fail); refine wpQuiet_nil ?_
          refine ord_end ?_
          have HT : Hid (VarAt w7 tb 28 (.slice tz m' ty) ⟨L, E⟩) := (show VarAt _ _ _ _ _ from HT5.out.below HB7.out)
          have HS : Hid (VarAt w7 sb 28 (.slice sa m sq) S) := (show VarAt _ _ _ _ _ from HS5.out.below HB7.out)
          have HW : Hid (VarAt w7 wb 32 (.slice a3 m q3) S) := (show VarAt _ _ _ _ _ from HW5.out.below HB7.out)
          have HB : Hid (Below wy.heap.size wy w7) := (show Below _ _ _ from bnext HB5.out HB7.out)
          clear s0 s1 t0 t1 ne HR6 HB6 HB7 H16 H15 HT5 HS5 HW5 HB5 HD5 HB4
          by_cases hK : K = 0
          · subst hK
            obtain ⟨hok, hlen, hE1, hE2, hkp⟩ := apply_ok HI.out.1 (show (applyM S ⟨ck, cw, cp, cm, cws, co⟩).2 = 0 by rw [HAe.out])
            rw [HAe.out] at hok hlen hE1 hE2 hkp
            have HOk : Hid (MOk ⟨L, E⟩) := hok
            have HKp : Hid (Keeps S.l L) := hkp
            obtain ⟨hs1, hs2⟩ := HI.out.1.e
            obtain ⟨hs3, hs4⟩ := hok.e
            dsimp only at hlen hE1 hE2 hs3 hs4
            have HM1 : Hid (m' ≤ k + 1 + 1) := (show _ ≤ _ from by
              have h1 := HM'.out
              have h2 := HI.out.2
              omega)
            have HMl : Hid (m = S.l.length) := HI.out.2.1
            clear hok hkp hlen HAe HI
            clear HB2 HV2
            have hcT := HT.out.row.caps
            have hcT1 : m' ≤ ty := hcT.2.1
            have hcT2 : ty ≤ 9223372036854775807 := hcT.2.2
            have hcW := HW.out.row.caps
            have hcW1 : m ≤ q3 := hcW.2.1
            have hcW2 : q3 ≤ 9223372036854775807 := hcW.2.2
            clear hcT hcW
            have v0 := HW.out.blk.cell 0 _ rfl
            generalize wr = wold at *
            go_wp2
            go_loopw [10] (fun jv wr => ∃ j : Nat, j ≤ m ∧ jv = .int .i64 j ∧ Hid (Below w7.heap.size w7 wr)) (fun jv _ => m - (intOf jv).toNat)
            case atStart => exact ⟨0, Nat.zero_le _, rfl, (show Below _ _ _ from Below.refl _ _)⟩
            case round =>
              obtain ⟨j, hj, rfl, HBr⟩ := hrel
              have HTr : Hid (VarAt wr tb 28 (.slice tz m' ty) ⟨L, E⟩) := (show VarAt _ _ _ _ _ from HT.out.below HBr.out)
              have HWr : Hid (VarAt wr wb 32 (.slice a3 m q3) S) := (show VarAt _ _ _ _ _ from HW.out.below HBr.out)
              clear v0
              have v0 := HWr.out.blk.cell 0 _ rfl
              by_cases hjm : j < m
              · obtain ⟨x, hx⟩ : ∃ x, S.l[j]? = some x := ⟨_, List.getElem?_eq_getElem (by have := HMl.out; omega)⟩
                obtain ⟨y, hy1, hy2, hy3, hy4, hy5⟩ := HKp.out.find HOk.out.srt (List.mem_of_getElem? hx)
                obtain ⟨g3, o3, ea3, hr3⟩ := HWr.out.row.at mc_len hx
                subst ea3
                have HF : Hid (∀ w', Below wr.heap.size wr w' → Calls Try.prog 17 #[.agg #[.slice tz m' ty, .int .i64 E], .int .i64 x.w] w' fun r w'' => r = .returned (.tuple #[mv y, .bool true]) ∧ Below w'.heap.size w' w'') := fun w' hb => by
                  refine (find17 (HTr.out.row.below hb) x.w E).mono ?_
                  rintro r w'' ⟨rfl, hb'⟩
                  rw [hy1]
                  exact ⟨rfl, hb'⟩
                obtain ⟨x0, x1, x2, x3, x4⟩ := x
                obtain ⟨y0, y1, y2, y3, y4⟩ := y
                dsimp only at hy1 hy2 hy3 hy4 hy5 HF
                subst hy2 hy3 hy4
                have HY5 : Hid (x3 ≠ -1 → y3 = x3 ∧ y4 = x4) := fun h => by have := hy5 h; simp at this; exact this
                unfold mv at HF
                dsimp only at HF
                have hcl : ∀ (z : WIn (fun w' => Below wr.heap.size wr w')) p v, wr.cell? p = some v → z.w.cell? p = some v := fun z p v hp => (z.ok.cell (World.block_lt_of_cell? wr _ hp)).trans hp
                have s0 := fun z => hcl z _ _ (HTr.out.blk.cell 0 _ rfl); have s1 := fun z => hcl z _ _ (HTr.out.blk.cell 1 _ rfl)
                have t0 := fun z => hcl z _ _ v0
                have e0 := fun z => hcl z _ _ (hr3 0 _ rfl); have e1 := fun z => hcl z _ _ (hr3 1 _ rfl); have e2 := fun z => hcl z _ _ (hr3 2 _ rfl); have e3 := fun z => hcl z _ _ (hr3 3 _ rfl); have e4 := fun z => hcl z _ _ (hr3 4 _ rfl)
                have HE0 : Hid (∀ (i : Nat) (u : Value), (mc ⟨y0, y1, y2, x3, x4⟩)[i]? = some u → wr.cell? ⟨g3, o3 + j * 5 + i, none⟩ = some u) := fun i u hu => hr3 i u hu
                simp only [Nat.add_zero] at e0
                have HDr : Hid (Below wr.heap.size wr wr.drew) := (show Below _ _ _ from (Below.refl _ _).drew)
                have ne : Nonempty (WIn (fun w' => Below wr.heap.size wr w')) := ⟨⟨wr, Below.refl _ _⟩⟩
                clear hr3 hy1 hy5 hx
                go_upto_region 15 with fail
                go_cut [11, 12] (fun mv' iv wx => ∃ mb : Nat, mv' = ptr mb ∧ iv = .bool true ∧ Hid (Blk wx mb 51 [.int .i64 y0, .int .u64 y1, .int .i64 y2, .int .i64 y3, .int .i64 y4] ∧ Below wr.heap.size wr wx))
                case first =>
                  refine wp_region_tree (C := fun w' => ∃ z : WIn (fun w' => Below wr.heap.size wr w'), w' = z.w) (.still 0 (.still 1 (.still 2 (.still 3 (.still 4 (.still 5 (.still 6 (.two 7 (.still 8 (.still 9 (.still 10 (.one 11 (.one 12 (.still 13 .done)))))) 11 (.one 7 (.still 8 (.still 9 (.still 10 (.one 12 (.still 13 .done)))))))))))))) (by kernel_rfl) (by kernel_rfl) ⟨⟨wr.drew, HDr.out⟩, rfl⟩ ?_
                  iterate 7 (refine tree_still rfl rfl ?_; go_big_quiet_step (fail); refine wpQuiet_nil ?_)
                  refine tree_two rfl rfl rfl rfl ?_ ?_
                  · go_simp
                    refine (HF.out wr.drew HDr.out).mono ?_
                    rintro r w8 ⟨rfl, hb8⟩
                    have HB8 : Hid (Below wr.heap.size wr w8) := (show Below _ _ _ from bnext (w := wr.drew) HDr.out hb8)
                    clear hb8
                    refine ⟨⟨⟨_, HB8.out⟩, rfl⟩, ?_⟩
                    go_simp
                    iterate 3 (refine tree_still rfl rfl ?_; go_big_quiet_step (fail); refine wpQuiet_nil ?_)
                    refine tree_one rfl rfl ?_
                    go_simp
                    have HZ : Hid (Below wr.heap.size wr (w8.alloc (.cells #[.int .i64 0, .int .u64 0, .int .i64 0, .int .i64 0, .int .i64 0] 51))) := (show Below _ _ _ from balloc HB8.out _)
                    refine ⟨⟨⟨_, HZ.out⟩, rfl⟩, ?_⟩
                    go_simp
                    have HP : Hid (Blk (w8.alloc (.cells #[.int .i64 y0, .int .u64 y1, .int .i64 y2, .int .i64 y3, .int .i64 y4] 51)) w8.heap.size 51 [.int .i64 y0, .int .u64 y1, .int .i64 y2, .int .i64 y3, .int .i64 y4] ∧ Below wr.heap.size wr (w8.alloc (.cells #[.int .i64 y0, .int .u64 y1, .int .i64 y2, .int .i64 y3, .int .i64 y4] 51))) := ⟨blk_new w8 [.int .i64 y0, .int .u64 y1, .int .i64 y2, .int .i64 y3, .int .i64 y4] 51, balloc HB8.out _⟩
                    refine tree_one rfl rfl ?_
                    go_simp
                    refine ⟨⟨⟨_, HP.out.2⟩, rfl⟩, ?_⟩
                    go_simp
                    refine tree_still rfl rfl ?_; go_big_quiet_step (fail); refine wpQuiet_nil ?_
                    refine tree_done ?_
                    go_wp2
                    go_meet
                    exact ⟨_, rfl, rfl, HP⟩
                  · go_simp
                    have HZ : Hid (Blk (wr.alloc (.cells #[.int .i64 0, .int .u64 0, .int .i64 0, .int .i64 0, .int .i64 0] 51)).drew wr.heap.size 51 [.int .i64 0, .int .u64 0, .int .i64 0, .int .i64 0, .int .i64 0]) := (show Blk _ _ _ _ from blk_new wr [.int .i64 0, .int .u64 0, .int .i64 0, .int .i64 0, .int .i64 0] 51)
                    have HZb : Hid (Below wr.heap.size wr (wr.alloc (.cells #[.int .i64 0, .int .u64 0, .int .i64 0, .int .i64 0, .int .i64 0] 51)).drew) := (show Below _ _ _ from (balloc (Below.refl _ _) _).drew)
                    generalize (wr.alloc (.cells #[.int .i64 0, .int .u64 0, .int .i64 0, .int .i64 0, .int .i64 0] 51)).drew = w9 at *
                    refine ⟨⟨⟨_, HZb.out⟩, rfl⟩, ?_⟩
                    go_simp
                    refine tree_one rfl rfl ?_
                    go_simp
                    refine (HF.out w9 HZb.out).mono ?_
                    rintro r w8 ⟨rfl, hb8⟩
                    have HB8 : Hid (Below wr.heap.size wr w8) := (show Below _ _ _ from bnext (w := w9) HZb.out hb8)
                    have HZ8 := HZ.out.below hb8
                    have g0 := HZ8.cell 0 _ rfl; have g1 := HZ8.cell 1 _ rfl; have g2 := HZ8.cell 2 _ rfl; have g3' := HZ8.cell 3 _ rfl; have g4 := HZ8.cell 4 _ rfl
                    have i0 := HZ8.frozen 0; have i1 := HZ8.frozen 1; have i2 := HZ8.frozen 2; have i3 := HZ8.frozen 3; have i4 := HZ8.frozen 4
                    have HP : Hid (Blk (put5 w8 wr.heap.size (.int .i64 y0) (.int .u64 y1) (.int .i64 y2) (.int .i64 y3) (.int .i64 y4)) wr.heap.size 51 [.int .i64 y0, .int .u64 y1, .int .i64 y2, .int .i64 y3, .int .i64 y4] ∧ Below wr.heap.size wr (put5 w8 wr.heap.size (.int .i64 y0) (.int .u64 y1) (.int .i64 y2) (.int .i64 y3) (.int .i64 y4))) := ⟨put5_blk HZ8, put5_below HB8.out (Nat.le_refl _)⟩
                    clear hb8 HZ8
                    refine ⟨⟨⟨_, HB8.out⟩, rfl⟩, ?_⟩
                    go_simp
                    iterate 3 (refine tree_still rfl rfl ?_; go_big_quiet_step (fail); refine wpQuiet_nil ?_)
                    refine tree_one rfl rfl ?_
                    go_simp
                    refine ⟨⟨⟨_, HP.out.2⟩, rfl⟩, ?_⟩
                    go_simp
                    refine tree_still rfl rfl ?_; go_big_quiet_step (fail); refine wpQuiet_nil ?_
                    refine tree_done ?_
                    go_wp2
                    go_meet
                    exact ⟨_, rfl, rfl, HP⟩
                case rest =>
                  obtain ⟨mb, hmv, hiv, HP⟩ := hcut
                  rename World => w8
                  subst hmv
                  subst hiv
                  have HBw : Hid (Below w7.heap.size w7 w8) := (show Below _ _ _ from bnext HBr.out HP.out.2)
                  have hcl : ∀ (z : WIn (fun w' => Below w8.heap.size w8 w')) p v, w8.cell? p = some v → z.w.cell? p = some v := fun z p v hp => (z.ok.cell (World.block_lt_of_cell? w8 _ hp)).trans hp
                  have hc8 : ∀ p v, wr.cell? p = some v → w8.cell? p = some v := fun p v hp => (HP.out.2.cell (World.block_lt_of_cell? wr _ hp)).trans hp
                  have HX : Hid (∀ (z : WIn (fun w' => Below w8.heap.size w8 w')) (i : Nat) (u : Value), (mc ⟨y0, y1, y2, x3, x4⟩)[i]? = some u → z.w.cell? ⟨g3, o3 + j * 5 + i, none⟩ = some u) := fun z i u hu => hcl z _ _ (hc8 _ _ (HE0.out i u hu))
                  have T0 := fun z => hcl z _ _ (hc8 _ _ v0)
                  have n0 := fun z => hcl z _ _ (HP.out.1.cell 0 _ rfl); have n1 := fun z => hcl z _ _ (HP.out.1.cell 1 _ rfl); have n2 := fun z => hcl z _ _ (HP.out.1.cell 2 _ rfl); have n3 := fun z => hcl z _ _ (HP.out.1.cell 3 _ rfl); have n4 := fun z => hcl z _ _ (HP.out.1.cell 4 _ rfl)
                  clear hcl hc8 s0 s1 t0 e0 e1 e2 e3 e4 HE0 ne HDr HF v0
                  have e0 := fun z => HX.out z 0 _ rfl; have e1 := fun z => HX.out z 1 _ rfl; have e2 := fun z => HX.out z 2 _ rfl; have e3 := fun z => HX.out z 3 _ rfl; have e4 := fun z => HX.out z 4 _ rfl
                  simp only [Nat.add_zero] at e0
                  clear HX
                  have HD8 : Hid (Below w8.heap.size w8 w8.drew) := (show Below _ _ _ from (Below.refl _ _).drew)
                  have ne : Nonempty (WIn (fun w' => Below w8.heap.size w8 w')) := ⟨⟨w8, Below.refl _ _⟩⟩
                  have HMb : Hid (∀ m w, Calls Try.prog 21 #[mv m] w fun r w' => r = .returned (mv m) ∧ Below w.heap.size w w') := fun m w => member21 m w
                  go_upto_region 16 with fail
                  by_cases hx3 : x3 = -1
                  · subst hx3
                    refine wp_region_ord (C := fun w' => ∃ z : WIn (fun w' => Below w8.heap.size w8 w'), w' = z.w) [(false, 0), (false, 1), (false, 2), (false, 3), (false, 4), (false, 5), (false, 6), (false, 7), (false, 8), (false, 9), (false, 10), (false, 11), (false, 12), (false, 13), (false, 14), (false, 15), (false, 16), (false, 17), (false, 18), (false, 19), (false, 20), (false, 21), (false, 22), (false, 23), (false, 24), (false, 25), (false, 26), (false, 27), (false, 28), (false, 29), (false, 30), (false, 31), (false, 32), (false, 33), (false, 34), (false, 35), (false, 36), (false, 37), (false, 38), (false, 39), (false, 40), (false, 41), (false, 42)] (by kernel_rfl) (by kernel_rfl) ⟨⟨w8.drew, HD8.out⟩, rfl⟩ ?_
                    iterate 34 (refine ord_still rfl rfl ?_; go_big_quiet_step (fail); refine wpQuiet_nil ?_)
                    refine ord_shut rfl rfl ?_
                    go_big_quiet_step (fail)
                    refine wpQuiet_nil ?_
                    iterate 8 (refine ord_still rfl rfl ?_; go_big_quiet_step (fail); refine wpQuiet_nil ?_)
                    refine ord_end ?_
                    clear e0 e1 e2 e3 e4 n0 n1 n2 n3 n4 T0 ne
                    have HBd : Hid (Below w7.heap.size w7 w8.drew) := (show Below _ _ _ from HBw.out.drew)
                    go_wp2
                    go_roundw
                    case rel => exact ⟨j + 1, by omega, by go_num, HBd⟩
                    case measure => simp [intOf]; omega
                  · obtain ⟨h3, h4⟩ := HY5.out hx3
                    subst h3 h4
                    unfold mv at HMb
                    have hq : (y3 != -1) = true := by simpa using hx3
                    refine wp_region_ord (C := fun w' => ∃ z : WIn (fun w' => Below w8.heap.size w8 w'), w' = z.w) [(false, 0), (false, 1), (false, 2), (false, 3), (false, 4), (false, 5), (false, 6), (false, 7), (false, 8), (false, 9), (false, 10), (false, 11), (false, 12), (false, 13), (false, 14), (false, 15), (false, 16), (false, 17), (false, 18), (false, 19), (false, 20), (false, 21), (false, 22), (false, 23), (false, 24), (false, 25), (false, 26), (false, 27), (false, 28), (false, 29), (false, 30), (false, 31), (false, 32), (false, 33), (false, 35), (false, 36), (false, 37), (false, 38), (false, 39), (true, 34), (false, 40), (false, 41), (false, 42)] (by kernel_rfl) (by kernel_rfl) ⟨⟨w8.drew, HD8.out⟩, rfl⟩ ?_
                    iterate 32 (refine ord_still rfl rfl ?_; go_big_quiet_step (fail); refine wpQuiet_nil ?_)
                    iterate 7 (refine ord_still rfl rfl ?_; go_big_quiet_step (fail); refine wpQuiet_nil ?_)
                    refine ord_mem rfl rfl ?_
                    go_simp
                    refine (HMb.out ⟨y0, y1, y2, y3, y4⟩ w8.drew).mono ?_
                    rintro r w9 ⟨rfl, hb9⟩
                    have HB9 : Hid (Below w8.heap.size w8 w9) := (show Below _ _ _ from bnext (w := w8.drew) HD8.out hb9)
                    clear hb9
                    refine ⟨⟨⟨_, HB9.out⟩, rfl⟩, ?_⟩
                    go_simp
                    iterate 3 (refine ord_still rfl rfl ?_; go_big_quiet_step (fail); refine wpQuiet_nil ?_)
                    refine ord_end ?_
                    clear e0 e1 e2 e3 e4 n0 n1 n2 n3 n4 T0 ne
                    have HBd : Hid (Below w7.heap.size w7 w9) := (show Below _ _ _ from bnext HBw.out HB9.out)
                    go_wp2
                    go_roundw
                    case rel => exact ⟨j + 1, by omega, by go_num, HBd⟩
                    case measure => simp [intOf]; omega
              · obtain ⟨wx, hwx⟩ : ∃ wx, wx = wr := ⟨_, rfl⟩
                have HBx : Hid (Below w7.heap.size w7 wx) := (by rw [hwx]; exact HBr)
                have HTx : Hid (VarAt wx tb 28 (.slice tz m' ty) ⟨L, E⟩) := (by rw [hwx]; exact HTr)
                have HWx : Hid (VarAt wx wb 32 (.slice a3 m q3) S) := (by rw [hwx]; exact HWr)
                have HSx : Hid (VarAt wx sb 28 (.slice sa m sq) S) := (by rw [hwx]; exact (show VarAt _ _ _ _ _ from HS.out.below HBr.out))
                rw [← hwx] at v0 ⊢
                have k0 := HTx.out.blk.cell 0 _ rfl
                clear hwx HTr HWr HBr
                generalize wr = wold2 at *
                go_wp2
                go_loopw [13] (fun jv wr => ∃ j : Nat, 1 ≤ j ∧ j ≤ m' + 1 ∧ jv = .int .i64 j ∧ Hid (Below wx.heap.size wx wr)) (fun jv _ => m' + 1 - (intOf jv).toNat)
                case atStart => exact ⟨1, Nat.le_refl _, by omega, rfl, (show Below _ _ _ from Below.refl _ _)⟩
                case round =>
                  obtain ⟨j, hj1, hj2, rfl, HBr⟩ := hrel
                  have HTr : Hid (VarAt wr tb 28 (.slice tz m' ty) ⟨L, E⟩) := (show VarAt _ _ _ _ _ from HTx.out.below HBr.out)
                  clear k0
                  have k0 := HTr.out.blk.cell 0 _ rfl
                  have k1 := HTr.out.blk.cell 1 _ rfl
                  by_cases hjm : j < m'
                  · obtain ⟨i, hi⟩ : ∃ i, j = i + 1 := ⟨j - 1, by omega⟩
                    subst hi
                    have hii : ((i + 1 : Nat) : Int) - 1 = (i : Int) := by omega
                    obtain ⟨x, hx⟩ : ∃ x, L[i]? = some x := ⟨_, List.getElem?_eq_getElem (by have := HM'.out; omega)⟩
                    obtain ⟨y, hy⟩ : ∃ y, L[i + 1]? = some y := ⟨_, List.getElem?_eq_getElem (by have := HM'.out; omega)⟩
                    have hxy : x.w < y.w := srt_at HOk.out.srt hx hy
                    obtain ⟨g3, o3, ea3, hr3⟩ := HTr.out.row.at mc_len hx
                    obtain ⟨g4, o4, ea4, hr4⟩ := HTr.out.row.at mc_len hy
                    rw [ea3] at ea4
                    obtain ⟨rfl, rfl⟩ : g3 = g4 ∧ o3 = o4 := by simpa using ea4
                    subst ea3
                    have hcl : ∀ (z : WIn (fun w' => Below wr.heap.size wr w')) p v, wr.cell? p = some v → z.w.cell? p = some v := fun z p v hp => (z.ok.cell (World.block_lt_of_cell? wr _ hp)).trans hp
                    have s0 := fun z => hcl z _ _ k0
                    have e0 := fun z => hcl z _ _ (hr3 0 _ rfl); have f0 := fun z => hcl z _ _ (hr4 0 _ rfl)
                    simp only [Nat.add_zero] at e0 f0
                    have HDr : Hid (Below wr.heap.size wr wr.drew) := (show Below _ _ _ from (Below.refl _ _).drew)
                    have ne : Nonempty (WIn (fun w' => Below wr.heap.size wr w')) := ⟨⟨wr, Below.refl _ _⟩⟩
                    have HBd : Hid (Below wx.heap.size wx wr.drew) := (show Below _ _ _ from HBr.out.drew)
                    obtain ⟨x0, x1, x2, x3, x4⟩ := x
                    obtain ⟨y0, y1, y2, y3, y4⟩ := y
                    dsimp only at hxy e0 f0
                    clear hr3 hr4 hx hy hcl ea4 k1
                    go_upto_region 21 with fail
                    refine wp_region_ord (C := fun w' => ∃ z : WIn (fun w' => Below wr.heap.size wr w'), w' = z.w) [(false, 0), (false, 1), (false, 2), (false, 3), (false, 4), (false, 5), (false, 6), (false, 7), (false, 8), (false, 9), (false, 10), (false, 11), (false, 12), (false, 13)] (by kernel_rfl) (by kernel_rfl) ⟨⟨wr.drew, HDr.out⟩, rfl⟩ ?_
                    iterate 14 (refine ord_still rfl rfl ?_; go_big_quiet_step (fail); refine wpQuiet_nil ?_)
                    refine ord_end ?_
                    clear s0 e0 f0 ne
                    go_wp2
                    go_roundw
                    case rel => exact ⟨i + 1 + 1, by omega, by omega, by go_num, HBd⟩
                    case measure => simp [intOf]; omega
                  · have HWr : Hid (VarAt wr wb 32 (.slice a3 m q3) S) := (show VarAt _ _ _ _ _ from HWx.out.below HBr.out)
                    have HSr : Hid (VarAt wr sb 28 (.slice sa m sq) S) := (show VarAt _ _ _ _ _ from HSx.out.below HBr.out)
                    have HBz : Hid (Below wy.heap.size wy (putS wr sb (.slice tz m' ty) E)) := (show Below _ _ _ from putS_below (bnext (bnext HB.out HBx.out) HBr.out) HSb.out)
                    have HVz : Hid (VarAt (putS wr sb (.slice tz m' ty) E) sb 28 (.slice tz m' ty) ⟨L, E⟩) := (show VarAt _ _ _ _ _ from putS_at HSr.out HTr.out.row)
                    have l1 := HWr.out.blk.cell 1 _ rfl
                    have r0 := HSr.out.blk.cell 0 _ rfl; have r1 := HSr.out.blk.cell 1 _ rfl; have p0 := HSr.out.blk.frozen 0; have p1 := HSr.out.blk.frozen 1
                    dsimp only at k1
                    go_wp2
                    go_roundw
                    case rel => exact ⟨k + 1, ⟨L, E⟩, tz, ty, m', by omega, by go_num, HVz, ⟨HOk.out, HM'.out, HM1.out⟩, HBz⟩
                    case measure => simp [intOf]; omega
          · go_wp2
            go_roundw
            case rel => exact ⟨k + 1, S, sa, sq, m, by omega, by go_num, HS, ⟨HI.out.1, HI.out.2.1, by have := HI.out.2.2; omega⟩, HB⟩
            case measure => simp [intOf]; omega
      · go_wp2_with (go_at_call 9; go_must (refine (HAl.out _).mono ?_; rintro r wz ⟨rfl, hbz⟩; have HBz : Hid (Below wy.heap.size wy wz) := bnext HB.out hbz; clear hbz))
        go_ret
        exact ⟨rfl, HBz.out⟩
end Go.Proofs.Ytgoghmabhdkdjaa
