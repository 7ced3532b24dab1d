/-
  The reference of layer 10: stands.
-/
import Derived.Test.YtkcighejmjgalaaDoorRef2
namespace Go.Proofs.YtkcighejmjgalaaDoor
set_option linter.unusedVariables false
set_option linter.unusedSimpArgs false
set_option synthInstance.maxSize 20000
set_option maxHeartbeats 2000000
set_option maxRecDepth 20000
open Go.RowKit Go.Maps

theorem run_append_bytes {w : World} {B : Nat} {v y : Value} {l m : List Int} (ty : TypeId) (hown : Own B 5 w v l) (hm : Rd w y m) (hlen : l.length + m.length ≤ 140737488355328) (hbase : B ≤ w.heap.size) :
    ∃ v' w', (Builtin.append_ #[30, 30] ty #[v, y]).run Tryd.prog w = .ok v' w' ∧ Own B 5 w' v' (l ++ m) ∧ w.grownBy w' v.ownBlock := by
  obtain ⟨hoct, ad, c, rfl, h1, h2, h3, h4⟩ := hm
  obtain ⟨i, hi, hz, hs1, hs2⟩ := info_parts byteTy.info
  have hmax : l.length + m.length ≤ maxLen := by unfold maxLen; omega
  cases ad with
  | none =>
    have h0 := h3 rfl
    subst h0
    have hm0 : m = [] := List.eq_nil_of_length_eq_zero (by omega)
    subst hm0
    have hrun := run_append_owned_none (P := Tryd.prog) w B 30 ty 5 i 1 byteTy.under hi v _ _ hown.2
    exact ⟨v, w, hrun, by simpa using hown, grown_refl _ _⟩
  | some ad =>
    have hcells : ∀ j u, (cs8 m)[j]? = some u → w.cell? (ad.add j) = some u := fun j u hu => by
      obtain ⟨hj, rfl⟩ := cs8_some hu
      obtain ⟨b, off, e, hc⟩ := h4 (by omega)
      cases e
      rw [Addr.add_lit]
      exact hc j hj
    obtain ⟨v', w', hr, r1, r2, _⟩ := run_append_own (P := Tryd.prog) w B 30 ty 5 i (.int .u8 0) 1 1 byteTy.under hi hz hs1 hs2 rfl (by decide) v l.length (cs8 l) hown.2 ad m.length c (cs8 m) (by simp [cs8]) hcells (cs8_one m) hmax (by omega) hbase
    refine ⟨v', w', hr, ⟨hown.1.append hoct, ?_⟩, r2⟩
    rw [cs8_append, List.length_append]
    exact r1
theorem exec_append23 {o : Oper} {r : Operand → Value} {w w' : World} (d x : Operand) {dv xv v : Value} (ho : o.op = .call { callee := .builtin .append, args := #[d, x], argTypes := #[30, 30] }) (hd : r d = dv) (hx : r x = xv) (h : (Builtin.append_ #[30, 30] o.type #[dv, xv]).run Tryd.prog w = .ok v w') : (execOp r o).run Tryd.prog w = .ok (.value v) w' := by
  simp [execOp, ho, resolve, invoke, builtin, hd, hx, h, Result.andThen]

/-- What the i-th sector must be, if something stands there. -/
theorem stand_each {l : List (List Int)} {gen seq : Int} {n : Nat} (hn : (l.headD []).getD 14 0 = (n : Int)) (h : (stand l gen seq).2 ≠ 0) {i : Nat} (hi : i < n) {s : List Int} (hs : l[i]? = some s) : s.length = 64 ∧ s.getD 15 0 ≤ 48 := by
  obtain ⟨r0, x, hx, e, hl⟩ := stand_head h
  rw [e, partB_n] at hn
  obtain ⟨r, _, _, h3⟩ := (stand_some h).at
  have h4 := h3 i (by omega)
  rw [hs] at h4
  have h5 := Option.some.inj h4
  rw [h5]
  exact ⟨partB_len (chunk_len _ _), by rw [partB_l]; have := chunk_len (stand l gen seq).1 i; omega⟩
theorem stand_r0 {l : List (List Int)} {gen seq : Int} (h : num4 ((l.headD []).drop 5) = 0) : stand l gen seq = ([], 0) := by
  unfold stand standR
  rw [if_neg (fun hc => hc.2.2.1 h)]
theorem stand_n0 {l : List (List Int)} {gen seq : Int} (h : (l.headD []).getD 14 0 = 0) : stand l gen seq = ([], 0) := by
  refine stand_zero ?_
  unfold stand standR
  split
  · rw [h]; rfl
  · rfl
theorem stand_is {l : List (List Int)} {gen seq R : Int} {n : Nat} (hR : num4 ((l.headD []).drop 5) = R) (hn : (l.headD []).getD 14 0 = (n : Int)) : stand l gen seq = standR l gen seq R n := by
  unfold stand
  rw [hR, hn, Int.toNat_natCast]
theorem bodyOf_small {s : List Int} (h : s.length = 64) (ho : Oct s) (h48 : s.getD 15 0 ≤ 48) : bodyOf s = (s.drop 16).take (s.getD 15 0).toNat := by
  have := ho.at 15
  unfold bodyOf
  rw [if_pos h, Nat.min_eq_right (by omega)]

/-- Up to i. -/
structure RSt (w : World) (T : List (List Int)) (wr : World) (v : Value) (i : Nat) : Prop where
  own : Own w.heap.size 5 wr v (joinL (T.take i))
  bel : Below w.heap.size w wr

theorem rstands39 {w : World} {v : Value} {qs : List VB} {gen seq : Int} (h : RL w v qs) (hl : qs.length ≤ 400) (hg : U32 gen) (hs : U32 seq) : Calls Tryd.prog 58 #[v, .int .u32 gen, .int .u32 seq] w fun r w' => ∃ v', r = .returned (.tuple #[v', .int .i64 ((stand (LL qs) gen seq).2 : Nat)]) ∧ OutR w.heap.size w' v' (stand (LL qs) gen seq).1 ∧ Below w.heap.size w w' := by
  obtain ⟨a, cap, rfl⟩ := h.len
  have hcap := h.row.caps
  have hm1 : qs.length ≤ cap := hcap.2.1
  have hm2 : cap ≤ 9223372036854775807 := hcap.2.2
  clear hcap
  cases hqs : qs with
  | nil =>
    subst hqs
    have e : stand (LL []) gen seq = ([], 0) := stand_short (by simp [LL])
    rw [e]
    clear e h
    go_enter Tryd.func58, Tryd.ntmps58
    go_wp2
    refine bodyPost_ret (results_tmp2 rfl _ _ _) rfl ⟨_, rfl, outR_nil _ _, Below.refl _ _⟩
  | cons q ts =>
    rw [← hqs]
    have hq : qs[0]? = some q := by rw [hqs]; rfl
    have hhd : (LL qs).headD [] = q.2 := by rw [hqs]; rfl
    have hpos : 0 < qs.length := by rw [hqs]; simp
    clear hqs
    obtain ⟨bb, off, rfl, hcell⟩ := h.at hq
    have hqr : Rd w q.1 q.2 := h.rd q (List.mem_of_getElem? hq)
    obtain ⟨qv, s⟩ := q
    simp only at hcell hqr hhd
    rw [Nat.add_zero] at hcell
    obtain ⟨m, hm⟩ : ∃ m, m = qs.length := ⟨_, rfl⟩
    have HM : Hid (m = qs.length) := hm
    by_cases h64 : s.length = 64
    · obtain ⟨sb, so, sc, hqv, hs1, hs2, hs3, hs4⟩ := hqr.spot (by omega)
      subst hqv
      have c14 := hs4 14 (by omega)
      have o14 := hqr.oct.at 14
      obtain ⟨n, hn⟩ : ∃ n : Nat, s.getD 14 0 = n := ⟨(s.getD 14 0).toNat, by omega⟩
      rw [hn] at c14
      have hn256 : n < 256 := by omega
      have hr5 : Rd w (.slice (some ⟨sb, so + 5, none⟩) 4 (sc - 5)) ((s.drop 5).take 4) := rd_sub (i := 5) (n := 4) hqr (by omega)
      have hnum : num4 ((s.drop 5).take 4) = num4 (s.drop 5) := by
        unfold num4
        simp [List.getD_eq_getElem?_getD, List.getElem?_take]
      have H40 : Hid (Calls Tryd.prog 59 #[.slice (some ⟨sb, so + 5, none⟩) 4 (sc - 5)] w.drew fun r w' => r = .returned (.int .u32 (num4 (s.drop 5))) ∧ Below w.drew.heap.size w.drew w') := by
        have := rnumber40 hr5.drewn (by rw [List.length_take, List.length_drop]; omega)
        rwa [hnum] at this
      have hu5 : U32 (num4 (s.drop 5)) := num4_u32 (hqr.oct.drop 5)
      have T0 : TwoC bb off sb (so + 14) (.slice (some ⟨sb, so, none⟩) 64 sc) (.int .u8 (n : Int)) w.drew := ⟨by rw [h64] at hcell; exact hcell, c14⟩
      have ne : Nonempty (WIn (TwoC bb off sb (so + 14) (.slice (some ⟨sb, so, none⟩) 64 sc) (.int .u8 (n : Int)))) := ⟨⟨_, T0⟩⟩
      have e1 : ∀ z : WIn (TwoC bb off sb (so + 14) (.slice (some ⟨sb, so, none⟩) 64 sc) (.int .u8 (n : Int))), z.w.cell? ⟨bb, off, none⟩ = some (.slice (some ⟨sb, so, none⟩) 64 sc) := fun z => z.ok.c1
      have e2 : ∀ z : WIn (TwoC bb off sb (so + 14) (.slice (some ⟨sb, so, none⟩) 64 sc) (.int .u8 (n : Int))), z.w.cell? ⟨sb, so + 14, none⟩ = some (.int .u8 (n : Int)) := fun z => z.ok.c2
      have HT0 : Hid (TwoC bb off sb (so + 14) (.slice (some ⟨sb, so, none⟩) 64 sc) (.int .u8 (n : Int)) w.drew) := T0
      have HSr0 : Hid (num4 (s.drop 5) = 0 → stand (LL qs) gen seq = ([], 0)) := fun h0 => stand_r0 (by rw [hhd]; exact h0)
      have HSn0 : Hid (n = 0 → stand (LL qs) gen seq = ([], 0)) := fun h0 => stand_n0 (by rw [hhd, hn, h0]; rfl)
      have HSf : Hid (m < n → stand (LL qs) gen seq = ([], 0)) := fun h0 => stand_far (by rw [hhd, hn, LL_len, ← hm]; exact h0)
      have HSe : Hid (∀ i s', i < n → (LL qs)[i]? = some s' → ¬ (s'.length = 64 ∧ s'.getD 15 0 ≤ 48) → stand (LL qs) gen seq = ([], 0)) := fun i s' hi hs' hno => stand_zero (Classical.byContradiction fun h0 => hno (stand_each (by rw [hhd]; exact hn) h0 hi hs'))
      have HSt : Hid (stand (LL qs) gen seq = standR (LL qs) gen seq (num4 (s.drop 5)) n) := stand_is (by rw [hhd]) (by rw [hhd]; exact hn)
      have HRL : Hid (RL w (.slice (some ⟨bb, off, none⟩) m cap) qs) := by rw [hm]; exact h
      have HBd : Hid (Below w.heap.size w w.drew) := (Below.refl _ _).drew
      rw [h64] at hs1 hcell
      rw [← hm] at hm1 hpos hl ⊢
      generalize num4 (s.drop 5) = R at *
      clear h hs4 hqr hhd hq h64 hs3 hm hr5 hnum T0 hn o14 c14
      go_enter Tryd.func58, Tryd.ntmps58
      go_upto_region 3 with fail
      refine wp_region_tree (C := fun w' => ∃ z : WIn (TwoC bb off sb (so + 14) (.slice (some ⟨sb, so, none⟩) 64 sc) (.int .u8 (n : Int))), w' = z.w) (.still 0 (.still 1 (.still 2 (.still 3 (.still 5 (.still 6 (.still 7 (.still 8 (.still 9 (.still 10 (.one 4 (.still 11 (.still 12 .done))))))))))))) (by kernel_rfl) (by kernel_rfl) ⟨⟨w.drew, HT0.out⟩, rfl⟩ ?_
      clear hcell
      generalize w.drew = wd at *
      iterate 10 (refine tree_still rfl rfl ?_; go_big_quiet_step (fail); refine wpQuiet_nil ?_)
      refine tree_one rfl rfl ?_
      go_simp
      refine H40.out.mono ?_
      rintro r w1 ⟨rfl, hb1⟩
      have HT1 : Hid (TwoC bb off sb (so + 14) (.slice (some ⟨sb, so, none⟩) 64 sc) (.int .u8 (n : Int)) w1) := HT0.out.below hb1
      have HB1 : Hid (Below w.heap.size w w1) := bnext HBd.out hb1
      clear hb1
      refine ⟨⟨⟨w1, HT1.out⟩, rfl⟩, ?_⟩
      iterate 2 (refine tree_still rfl rfl ?_; go_big_quiet_step (fail); refine wpQuiet_nil ?_)
      refine tree_done ?_
      clear e1 e2 ne
      by_cases hR0 : R = 0
      · have E0 : Hid (stand (LL qs) gen seq = ([], 0)) := HSr0.out hR0
        subst hR0
        go_wp2
        rw [E0.out]
        refine bodyPost_ret (results_tmp2 rfl _ _ _) rfl ⟨_, rfl, outR_nil _ _, HB1.out⟩
      · have hR1 : (R == 0) = false := by simpa using hR0
        by_cases hn0 : n = 0
        · have E0 : Hid (stand (LL qs) gen seq = ([], 0)) := HSn0.out hn0
          subst hn0
          go_wp2
          rw [E0.out]
          refine bodyPost_ret (results_tmp2 rfl _ _ _) rfl ⟨_, rfl, outR_nil _ _, HB1.out⟩
        · have hn1 : ((n : Int) == 0) = false := by simpa using hn0
          by_cases hnm : m < n
          · go_wp2
            rw [HSf.out hnm]
            refine bodyPost_ret (results_tmp2 rfl _ _ _) rfl ⟨_, rfl, outR_nil _ _, HB1.out⟩
          · have HK0 : Hid (RSt w (LL qs) w1 (.slice none 0 0) 0) := ⟨own_nil _ _ _, HB1.out⟩
            clear hR0 hn0
            go_wp2
            go_loopw [10, 11] (fun bv iv wr => ∃ (i : Nat), i ≤ n ∧ iv = .int .i64 i ∧ Hid (RSt w (LL qs) wr bv i)) (fun _ iv _ => n - (intOf iv).toNat)
            case atStart => exact ⟨0, Nat.zero_le _, rfl, HK0⟩
            case round =>
              obtain ⟨i, hi, rfl, hK⟩ := hrel
              obtain ⟨ba, bcap, hbv⟩ := hK.out.own.rd.len
              subst hbv
              have hjl : (joinL ((LL qs).take i)).length ≤ 48 * 400 := take_len_le (by rw [LL_len, ← HM.out]; exact hl)
              by_cases hlt : i < n
              · obtain ⟨q, hq⟩ : ∃ q, qs[i]? = some q := ⟨_, List.getElem?_eq_getElem (by rw [← HM.out]; omega)⟩
                have hrl := HRL.out
                obtain ⟨b2, o2, e2, hcell⟩ := hrl.at hq
                obtain ⟨rfl, rfl⟩ : bb = b2 ∧ off = o2 := by simpa using e2
                clear e2
                have hqr : Rd w q.1 q.2 := hrl.rd q (List.mem_of_getElem? hq)
                have hTi := LL_at hq
                obtain ⟨qv, t⟩ := q
                simp only at hcell hqr hTi
                have hcr := (hK.out.bel.cell (World.block_lt_of_cell? w _ hcell)).trans hcell
                by_cases ht64 : t.length = 64
                · obtain ⟨tb, tz, tc, hqv, ht1, ht2, ht3, ht4⟩ := hqr.spot (by omega)
                  subst hqv
                  have c15 := ht4 15 (by omega)
                  have c15r := (hK.out.bel.cell (World.block_lt_of_cell? w _ c15)).trans c15
                  have o15 := hqr.oct.at 15
                  rw [ht64] at hcell ht1 hcr
                  by_cases h48 : t.getD 15 0 ≤ 48
                  · obtain ⟨nn, hnn⟩ : ∃ nn : Nat, t.getD 15 0 = nn := ⟨(t.getD 15 0).toNat, by omega⟩
                    have hsub := rd_sub (i := 16) (n := nn) (hqr.below hK.out.bel) (by omega)
                    have hbody : bodyOf t = (t.drop 16).take nn := by rw [bodyOf_small ht64 hqr.oct h48, hnn, Int.toNat_natCast]
                    rw [← hbody] at hsub
                    rw [hnn] at c15 c15r h48
                    have hn48 : nn ≤ 48 := by omega
                    have hJ : joinL ((LL qs).take (i + 1)) = joinL ((LL qs).take i) ++ bodyOf t := join_snoc hTi
                    have hbl : (bodyOf t).length = nn := by rw [hbody, List.length_take, List.length_drop]; omega
                    obtain ⟨v9, w9, hrun9, ho9, hg9⟩ := run_append_bytes (w := wr.drew) (y := .slice (some ⟨tb, tz + 16, none⟩) (16 + nn - 16) (tc - 16)) (m := bodyOf t) 30 (⟨hK.out.own.1, hK.out.own.2⟩ : Own w.heap.size 5 wr.drew (.slice ba (joinL ((LL qs).take i)).length bcap) (joinL ((LL qs).take i))) (by rw [Nat.add_sub_cancel_left]; exact hsub.drewn) (by omega) hK.out.bel.size
                    have HRun : Hid ((Builtin.append_ #[30, 30] 30 #[.slice ba (joinL ((LL qs).take i)).length bcap, .slice (some ⟨tb, tz + 16, none⟩) (16 + nn - 16) (tc - 16)]).run Tryd.prog wr.drew = .ok v9 w9) := hrun9
                    have HK9 : Hid (RSt w (LL qs) w9 v9 (i + 1)) := ⟨by rw [hJ]; exact ho9, hK.out.own.below hK.out.bel (Nat.le_refl _) (grown_of_drew hg9)⟩
                    have ne : Nonempty (WIn (Below w.heap.size w)) := ⟨⟨w, Below.refl _ _⟩⟩
                    have e1 : ∀ z : WIn (Below w.heap.size w), z.w.cell? ⟨bb, off + i, none⟩ = some (.slice (some ⟨tb, tz, none⟩) 64 tc) := fun z => (z.ok.cell (World.block_lt_of_cell? w _ hcell)).trans hcell
                    have e2 : ∀ z : WIn (Below w.heap.size w), z.w.cell? ⟨tb, tz + 15, none⟩ = some (.int .u8 (nn : Int)) := fun z => (z.ok.cell (World.block_lt_of_cell? w _ c15)).trans c15
                    have HBd2 : Hid (Below w.heap.size w wr.drew) := hK.out.bel.drew
                    clear hqr ht4 hJ hbody hsub hrun9 ho9 hg9 hbl hTi hnn hcell c15 hrl o15
                    generalize (joinL ((LL qs).take i)).length = jl at *
                    go_upto_region 12 with fail
                    refine wp_region_tree (C := fun w' => ∃ z : WIn (Below w.heap.size w), w' = z.w) (.still 0 (.still 1 (.still 2 (.still 3 (.still 4 (.still 5 (.still 6 (.still 7 (.still 8 (.still 9 (.still 10 (.still 11 (.still 12 (.still 13 (.one 14 (.still 15 .done)))))))))))))))) (by kernel_rfl) (by kernel_rfl) ⟨⟨wr.drew, HBd2.out⟩, rfl⟩ ?_
                    generalize wr.drew = wq at *
                    iterate 14 (refine tree_still rfl rfl ?_; go_big_quiet_step (fail); refine wpQuiet_nil ?_)
                    refine tree_one rfl rfl ?_
                    refine wp_ok (exec_append23 (.tmp 68) (.tmp 81) rfl rfl rfl HRun.out) ?_
                    refine ⟨⟨⟨w9, HK9.out.bel⟩, rfl⟩, ?_⟩
                    obtain ⟨a9, c9, hv9⟩ := HK9.out.own.rd.len
                    subst hv9
                    go_simp
                    refine tree_still rfl rfl ?_
                    go_big_quiet_step (fail)
                    refine wpQuiet_nil ?_
                    refine tree_done ?_
                    clear e1 e2 ne
                    go_wp2
                    go_roundw
                    case rel => exact ⟨i + 1, by omega, by go_num, HK9⟩
                    case measure => simp [intOf]; omega
                  · have E0 : Hid (stand (LL qs) gen seq = ([], 0)) := HSe.out i t hlt hTi (fun h9 => h48 h9.2)
                    have h48' : 48 < t.getD 15 0 := by omega
                    generalize t.getD 15 0 = x15 at *
                    generalize (joinL ((LL qs).take i)).length = jl at *
                    clear hqr ht4 hTi hcell c15 hrl h48
                    go_wp2
                    rw [E0.out]
                    refine bodyPost_ret (results_tmp2 rfl _ _ _) rfl ⟨_, rfl, outR_nil _ _, hK.out.bel⟩
                · have E0 : Hid (stand (LL qs) gen seq = ([], 0)) := HSe.out i t hlt hTi (fun h9 => ht64 h9.1)
                  have ht64' : ((t.length : Int) != 64) = true := by simp; omega
                  obtain ⟨ta, tc, hqv⟩ := hqr.len
                  subst hqv
                  generalize t.length = tl at *
                  generalize (joinL ((LL qs).take i)).length = jl at *
                  clear hqr hTi hcell hrl ht64
                  go_wp2
                  rw [E0.out]
                  refine bodyPost_ret (results_tmp2 rfl _ _ _) rfl ⟨_, rfl, outR_nil _ _, hK.out.bel⟩
              · obtain rfl : i = n := by omega
                have HFr : Hid (Calls Tryd.prog 70 #[.int .u32 gen, .int .u32 R, .int .u32 seq, .slice ba (joinL ((LL qs).take i)).length bcap] wr fun r w'' => ∃ v, r = .returned (.tuple #[v, .int .i64 (frameK gen R (joinL ((LL qs).take i)))]) ∧ OutL wr.heap.size w'' v (frameB gen R seq (joinL ((LL qs).take i))) ∧ Below wr.heap.size wr w'') := rframe11 hg hu5 hs hK.out.own.rd (by omega)
                have HST2 : Hid (stand (LL qs) gen seq = if (joinL ((LL qs).take i)).length ≤ 4000 ∧ gen ≠ 0 ∧ R ≠ 0 ∧ (LL qs).take i = frameL gen R seq (joinL ((LL qs).take i)) then (joinL ((LL qs).take i), i) else ([], 0)) := HSt.out
                have HOw : Hid (Own w.heap.size 5 wr (.slice ba (joinL ((LL qs).take i)).length bcap) (joinL ((LL qs).take i))) := hK.out.own
                have HBr : Hid (Below w.heap.size w wr) := hK.out.bel
                have HTl : Hid (((LL qs).take i).length = i) := by
                  show _ = _
                  rw [List.length_take, LL_len, ← HM.out]
                  omega
                have HTat : Hid (∀ k s', k < i → (LL qs)[k]? = some s' → ((LL qs).take i)[k]? = some s') := fun k s' hk hs' => by rw [List.getElem?_take, if_pos hk]; exact hs'
                clear HSt HSr0 HSn0 HSf HSe hK HK0 H40 HT0 HT1 HBd HB1
                generalize hTT : (LL qs).take i = T at *
                generalize joinL T = J at *
                generalize hjj : J.length = jl at *
                by_cases hK : frameK gen R J = 0
                · have hK2 := frameK_zero.1 hK
                  rw [hK, frame_some hK] at HFr
                  have hFl := frameL_len (gen := gen) (round := R) (seq := seq) (b := J)
                  have hp84 := partsN_le hK2.1
                  rw [← hFl] at hp84
                  have E1 : Hid (T = frameL gen R seq J → stand (LL qs) gen seq = (J, i)) := fun hTF => by rw [HST2.out, if_pos ⟨by rw [← hjj]; exact hK2.1, hK2.2.1, hK2.2.2, hTF⟩]
                  have E0 : Hid (¬ T = frameL gen R seq J → stand (LL qs) gen seq = ([], 0)) := fun hTF => by rw [HST2.out, if_neg (fun h9 => hTF h9.2.2.2)]
                  by_cases hFI : (frameL gen R seq J).length = i
                  · have hfn : (((frameL gen R seq J).length : Int) != (i : Int)) = false := by simp [hFI]
                    have HFI : Hid ((frameL gen R seq J).length = i) := hFI
                    clear hFI hK hFl hK2 HST2
                    generalize frameL gen R seq J = FL at *
                    go_wp2_with (go_at_call 70; go_must (refine HFr.out.mono ?_; rintro r w3 ⟨v3, rfl, ⟨fs, f1, f2, f3⟩, hb3⟩; have hfl : fs.length = FL.length := (by rw [← f2, LL_len]); obtain ⟨a3, c3, hv3⟩ := f1.len; rw [hfl] at hv3; subst hv3; have hcap3 := f1.row.caps; have HF1 : Hid (RL w3 (.slice a3 FL.length c3) fs) := f1; have HF2 : Hid (LL fs = FL) := f2; have HB3 : Hid (Below wr.heap.size wr w3) := hb3; have HFl : Hid (fs.length = FL.length) := hfl; have hc31 : FL.length ≤ c3 := hcap3.2.1; have hc32 : c3 ≤ 9223372036854775807 := hcap3.2.2; clear f1 f2 f3 hb3 hfl hcap3))
                    generalize wr = wo at *
                    go_loopw [14] (fun kv wr => ∃ (k : Nat), k ≤ i ∧ kv = .int .i64 k ∧ Hid (T.take k = FL.take k) ∧ Hid (Below w3.heap.size w3 wr)) (fun kv _ => i - (intOf kv).toNat)
                    case atStart => exact ⟨0, Nat.zero_le _, rfl, rfl, Below.refl _ _⟩
                    case round =>
                      obtain ⟨k, hk, rfl, hTk, hB⟩ := hrel
                      by_cases hlt2 : k < i
                      · obtain ⟨p, hp⟩ : ∃ p, fs[k]? = some p := ⟨_, List.getElem?_eq_getElem (by rw [HFl.out, HFI.out]; exact hlt2)⟩
                        obtain ⟨q, hq⟩ : ∃ q, qs[k]? = some q := ⟨_, List.getElem?_eq_getElem (by rw [← HM.out]; omega)⟩
                        have hkF : k < FL.length := by rw [HFI.out]; exact hlt2
                        have rp := HF1.out.below hB.out
                        have rq := HRL.out.below (bnext (bnext HBr.out HB3.out) hB.out)
                        obtain ⟨bp, op, rfl, cp⟩ := rp.at hp
                        obtain ⟨bq, oq, eq, cq⟩ := rq.at hq
                        obtain ⟨rfl, rfl⟩ : bb = bq ∧ off = oq := by simpa using eq
                        clear eq
                        have hrp := rp.rd p (List.mem_of_getElem? hp)
                        have hrq := rq.rd q (List.mem_of_getElem? hq)
                        have HC0 := same_any _ _ _ _ wr.drew hrp.drewn hrq.drewn
                        have hpq : Hid ((p.2 = q.2 → T.take (k + 1) = FL.take (k + 1)) ∧ (¬ p.2 = q.2 → ¬ T = FL)) := by
                          have h1 := LL_at hp
                          have h2 := HTat.out k _ hlt2 (LL_at hq)
                          rw [HF2.out] at h1
                          exact ⟨fun h9 => ll_take_snoc hTk.out h2 h1 h9.symm, fun h9 e => h9 (by rw [e, h1] at h2; exact Option.some.inj h2)⟩
                        obtain ⟨ap, kp, hpv⟩ := hrp.len
                        obtain ⟨aq, kq, hqv⟩ := hrq.len
                        rw [hpv] at cp HC0
                        rw [hqv] at cq HC0
                        have T0 : TwoC bp (op + k) bb (off + k) (.slice ap p.2.length kp) (.slice aq q.2.length kq) wr.drew := ⟨cp, cq⟩
                        have ne : Nonempty (WIn (TwoC bp (op + k) bb (off + k) (.slice ap p.2.length kp) (.slice aq q.2.length kq))) := ⟨⟨_, T0⟩⟩
                        have e1 : ∀ z : WIn (TwoC bp (op + k) bb (off + k) (.slice ap p.2.length kp) (.slice aq q.2.length kq)), z.w.cell? ⟨bp, op + k, none⟩ = some (.slice ap p.2.length kp) := fun z => z.ok.c1
                        have e2 : ∀ z : WIn (TwoC bp (op + k) bb (off + k) (.slice ap p.2.length kp) (.slice aq q.2.length kq)), z.w.cell? ⟨bb, off + k, none⟩ = some (.slice aq q.2.length kq) := fun z => z.ok.c2
                        have HT0 : Hid (TwoC bp (op + k) bb (off + k) (.slice ap p.2.length kp) (.slice aq q.2.length kq) wr.drew) := T0
                        have HC : Hid (Calls Tryd.prog 21 #[.slice ap p.2.length kp, .slice aq q.2.length kq] wr.drew fun e w' => e = .returned (.bool (decide (p.2 = q.2))) ∧ Below wr.drew.heap.size wr.drew w') := HC0
                        have HBd : Hid (Below w3.heap.size w3 wr.drew) := hB.out.drew
                        clear rp rq hp hq hpv hqv hrp hrq HC0 cp cq T0
                        generalize p.2 = pp at *
                        generalize q.2 = qq at *
                        generalize pp.length = pl at *
                        generalize qq.length = ql at *
                        go_upto_region 19 with fail
                        refine wp_region_tree (C := fun w' => ∃ z : WIn (TwoC bp (op + k) bb (off + k) (.slice ap pl kp) (.slice aq ql kq)), w' = z.w) (.still 0 (.still 1 (.still 2 (.still 3 (.still 4 (.still 5 (.still 6 (.still 7 (.one 8 (.still 9 .done)))))))))) (by kernel_rfl) (by kernel_rfl) ⟨⟨wr.drew, HT0.out⟩, rfl⟩ ?_
                        generalize wr.drew = wd2 at *
                        iterate 8 (refine tree_still rfl rfl ?_; go_big_quiet_step (fail); refine wpQuiet_nil ?_)
                        refine tree_one rfl rfl ?_
                        go_simp
                        refine HC.out.mono ?_
                        rintro r w4 ⟨rfl, hb4⟩
                        have HT4 : Hid (TwoC bp (op + k) bb (off + k) (.slice ap pl kp) (.slice aq ql kq) w4) := HT0.out.below hb4
                        have HB4 : Hid (Below w3.heap.size w3 w4) := bnext HBd.out hb4
                        clear hb4
                        refine ⟨⟨⟨w4, HT4.out⟩, rfl⟩, ?_⟩
                        refine tree_still rfl rfl ?_
                        go_big_quiet_step (fail)
                        refine wpQuiet_nil ?_
                        refine tree_done ?_
                        clear e1 e2 ne
                        by_cases h9 : pp = qq
                        · have hd : decide (pp = qq) = true := decide_eq_true h9
                          have HT5 : Hid (T.take (k + 1) = FL.take (k + 1)) := hpq.out.1 h9
                          clear h9
                          generalize decide (pp = qq) = dd at *
                          subst hd
                          go_wp2
                          go_roundw
                          case rel => exact ⟨k + 1, by omega, by go_num, HT5, HB4⟩
                          case measure => simp [intOf]; omega
                        · have hd : decide (pp = qq) = false := decide_eq_false h9
                          have E9 : Hid (stand (LL qs) gen seq = ([], 0) ∧ Below w.heap.size w w4) := ⟨E0.out (hpq.out.2 h9), bnext (bnext HBr.out HB3.out) HB4.out⟩
                          clear h9
                          generalize decide (pp = qq) = dd at *
                          subst hd
                          go_wp2
                          rw [E9.out.1]
                          refine bodyPost_ret (results_tmp2 rfl _ _ _) rfl ⟨_, rfl, outR_nil _ _, E9.out.2⟩
                      · obtain rfl : k = i := by omega
                        have HTF : T = FL := by
                          have := hTk.out
                          rwa [List.take_of_length_le (by rw [HTl.out]; exact Nat.le_refl _), List.take_of_length_le (by rw [HFI.out]; exact Nat.le_refl _)] at this
                        have E2 : Hid (stand (LL qs) gen seq = (J, k)) := E1.out HTF
                        clear HTF
                        have HO9 : Hid (OutR w.heap.size wr (.slice ba jl bcap) J ∧ Below w.heap.size w wr) := ⟨⟨((HOw.out.rd.below HB3.out).below hB.out), fun k hk => (HOw.out.2.lt k hk).1⟩, bnext (bnext HBr.out HB3.out) hB.out⟩
                        go_wp2
                        rw [E2.out]
                        refine bodyPost_ret (results_tmp2 rfl _ _ _) rfl ⟨_, rfl, HO9.out.1, HO9.out.2⟩
                  · have hfn : (((frameL gen R seq J).length : Int) != (i : Int)) = true := by simp; omega
                    have E9 : Hid (stand (LL qs) gen seq = ([], 0)) := E0.out (fun e => hFI (by rw [← e, HTl.out]))
                    clear hFI hK hFl hK2 HST2
                    generalize frameL gen R seq J = FL at *
                    go_wp2_with (go_at_call 70; go_must (refine HFr.out.mono ?_; rintro r w3 ⟨v3, rfl, ⟨fs, f1, f2, f3⟩, hb3⟩; have hfl : fs.length = FL.length := (by rw [← f2, LL_len]); obtain ⟨a3, c3, hv3⟩ := f1.len; rw [hfl] at hv3; subst hv3; have hcap3 := f1.row.caps; have HB3 : Hid (Below w.heap.size w w3) := bnext HBr.out hb3; have hc31 : FL.length ≤ c3 := hcap3.2.1; have hc32 : c3 ≤ 9223372036854775807 := hcap3.2.2; clear f1 f2 f3 hb3 hfl hcap3))
                    rw [E9.out]
                    refine bodyPost_ret (results_tmp2 rfl _ _ _) rfl ⟨_, rfl, outR_nil _ _, HB3.out⟩
                · have E0 : Hid (stand (LL qs) gen seq = ([], 0)) := by
                    show _ = _
                    rw [HST2.out, if_neg (fun h9 => hK (frameK_zero.2 ⟨by rw [hjj]; exact h9.1, h9.2.1, h9.2.2.1⟩))]
                  have hKn : (frameK gen R J != 0) = true := by simpa using hK
                  clear HST2 hK
                  generalize frameK gen R J = K at *
                  go_wp2_with (go_at_call 70; go_must (refine HFr.out.mono ?_; rintro r w3 ⟨v3, rfl, ⟨fs, f1, f2, f3⟩, hb3⟩; obtain ⟨a3, c3, hv3⟩ := f1.len; subst hv3; have HB3 : Hid (Below w.heap.size w w3) := bnext HBr.out hb3; clear f1 f2 f3 hb3))
                  rw [E0.out]
                  refine bodyPost_ret (results_tmp2 rfl _ _ _) rfl ⟨_, rfl, outR_nil _ _, HB3.out⟩
    · have e : stand (LL qs) gen seq = ([], 0) := stand_short (by rw [hhd]; exact h64)
      rw [e]
      obtain ⟨sa, sc, hqv⟩ := hqr.len
      subst hqv
      have h64' : ((s.length : Int) != 64) = true := by simp; omega
      generalize s.length = sl at *
      rw [← hm] at hm1 hpos ⊢
      clear e h hqr h64 hhd hq hm
      go_enter Tryd.func58, Tryd.ntmps58
      go_wp2
      refine bodyPost_ret (results_tmp2 rfl _ _ _) rfl ⟨_, rfl, outR_nil _ _, Below.refl _ _⟩
end Go.Proofs.YtkcighejmjgalaaDoor
