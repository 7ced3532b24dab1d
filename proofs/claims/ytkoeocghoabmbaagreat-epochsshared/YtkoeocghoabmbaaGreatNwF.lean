/-
  The list of changes that a law makes of its own: each one's wraps lie in rows of their own.
  The reference's comparison of changes, at the same change twice.
  New and Now of members, program and reference: what they hand out is new.
-/
import Derived.Test.YtkoeocghoabmbaaGreatRfB
import Derived.Laws.EntriesVeiled
import Derived.Test.YtkoeocghoabmbaaGreatRfB2
import Derived.Test.YtkoeocghoabmbaaGreatApp2
namespace Go.Proofs.YtkoeocghoabmbaaGreat
section
set_option linter.unusedVariables false
set_option linter.unusedSimpArgs false
set_option synthInstance.maxSize 20000
set_option maxHeartbeats 2000000
set_option maxRecDepth 20000
open Go.RowKit Go.Maps
theorem own12f {w : World} {a b : Value} {c : Cg} {qs : List Wq} (h : CgAt w c a b qs) (hlen : qs.length ≤ 1000) : Calls Tryz.prog 31 #[cv c a b] w fun r w' => ∃ a', r = .returned (cv c a' b) ∧ CgAt w' c a' b qs ∧ (∀ j, a'.ownBlock = some j → w.heap.size ≤ j ∧ j < w'.heap.size) ∧ Below w.heap.size w w' := by
  have HC : Hid (∀ w', Below w.heap.size w w' → CgAt w' c a b qs) := fun w' hb => h.below hb
  have hone := h.one
  have HOne : Hid (∀ q, q ∈ qs → ∀ u ∈ flat wq [q], u.oneCell' = true) := fun q hq u hu => by
    have e : flat wq [q] = wq q := by simp [flat]
    rw [e] at hu
    simp [wq] at hu
    rcases hu with rfl | rfl
    · rfl
    · exact (h.rd q hq).one
  have HRow : Hid (∀ w', Below w.heap.size w w' → RowF wq w' a qs) := fun w' hb => h.row.below hb
  have HQ : Hid (∀ q ∈ qs, ∃ x n p, q.2 = .slice x n p) := fun q hq => by
    obtain ⟨x, p, e⟩ := (h.rd q hq).len
    exact ⟨x, _, p, e⟩
  obtain ⟨aa, ca, rfl⟩ := h.row.len
  obtain ⟨ab, cb, rfl⟩ := h.old.len
  have hcap := h.row.caps
  have hc1 : qs.length ≤ ca := hcap.2.1
  have hc2 : ca ≤ 9223372036854775807 := hcap.2.2
  obtain ⟨w1, hw1⟩ : ∃ w1, w1 = ((w.alloc (.cells (cc c (.slice aa qs.length ca) (.slice ab c.o.length cb)).toArray 67)).alloc (.cells #[.int .i64 0, .int .i64 0, .int .u64 0, .int .i64 0, .slice none 0 0, .slice none 0 0] 59)).alloc (.cells (cc c (.slice none 0 0) (.slice ab c.o.length cb)).toArray 59) := ⟨_, rfl⟩
  have HB1 : Hid (Below w.heap.size w w1) := by rw [hw1]; exact balloc (balloc2 _ _ _) _
  have hs1 : w1.heap.size = w.heap.size + 3 := by rw [hw1]; simp
  have X0 : Hid (Blk w1 w.heap.size 67 (cc c (.slice aa qs.length ca) (.slice ab c.o.length cb))) := by rw [hw1]; exact blk3_0 w (cc c (.slice aa qs.length ca) (.slice ab c.o.length cb)) [.int .i64 0, .int .i64 0, .int .u64 0, .int .i64 0, .slice none 0 0, .slice none 0 0] (cc c (.slice none 0 0) (.slice ab c.o.length cb)) 67 59 59
  have X1 : Hid (Blk w1 (w.heap.size + 1) 59 [.int .i64 0, .int .i64 0, .int .u64 0, .int .i64 0, .slice none 0 0, .slice none 0 0]) := by rw [hw1]; exact blk3_1 w (cc c (.slice aa qs.length ca) (.slice ab c.o.length cb)) [.int .i64 0, .int .i64 0, .int .u64 0, .int .i64 0, .slice none 0 0, .slice none 0 0] (cc c (.slice none 0 0) (.slice ab c.o.length cb)) 67 59 59
  have X2 : Hid (Blk w1 (w.heap.size + 2) 59 (cc c (.slice none 0 0) (.slice ab c.o.length cb))) := by rw [hw1]; exact blk3_2 w (cc c (.slice aa qs.length ca) (.slice ab c.o.length cb)) [.int .i64 0, .int .i64 0, .int .u64 0, .int .i64 0, .slice none 0 0, .slice none 0 0] (cc c (.slice none 0 0) (.slice ab c.o.length cb)) 67 59 59
  have HS1 : Hid (w1.heap.size = w.heap.size + 3) := hs1
  obtain ⟨n, hn⟩ : ∃ n, n = qs.length := ⟨_, rfl⟩
  have HN : Hid (n = qs.length) := hn
  obtain ⟨ck, cw, cp, cm, cws, co⟩ := c
  unfold cv cc at *
  dsimp only at *
  obtain ⟨no, hno⟩ : ∃ no, no = co.length := ⟨_, rfl⟩
  rw [← hn] at hc1 HRow HC X0 hw1 hlen ⊢
  rw [← hno] at HC X0 X2 hw1 ⊢
  have HW1 : Hid (w1 = ((w.alloc (.cells #[.int .i64 ck, .int .i64 cw, .int .u64 cp, .int .i64 cm, .slice aa n ca, .slice ab no cb] 67)).alloc (.cells #[.int .i64 0, .int .i64 0, .int .u64 0, .int .i64 0, .slice none 0 0, .slice none 0 0] 59)).alloc (.cells #[.int .i64 ck, .int .i64 cw, .int .u64 cp, .int .i64 cm, .slice none 0 0, .slice ab no cb] 59)) := hw1
  clear h hcap hn hno hw1 hs1 hone
  go_enter Tryz.func31, Tryz.ntmps31
  go_upto_region 2 with fail
  rw [← HW1.out]
  go_wp2
  go_loopw [4] (fun i wr => ∃ (k : Nat) (ov : Value), i = .int .i64 k ∧ k ≤ n ∧ Hid (Below w.heap.size w wr) ∧ Hid (Blk wr w.heap.size 67 [.int .i64 ck, .int .i64 cw, .int .u64 cp, .int .i64 cm, .slice aa n ca, .slice ab no cb]) ∧ Hid (Blk wr (w.heap.size + 1) 59 [.int .i64 0, .int .i64 0, .int .u64 0, .int .i64 0, .slice none 0 0, .slice none 0 0]) ∧ Hid (Blk wr (w.heap.size + 2) 59 [.int .i64 ck, .int .i64 cw, .int .u64 cp, .int .i64 cm, ov, .slice ab no cb]) ∧ Hid (wr.ownsRow 0 76 2 ov (qs.take k).length (flat wq (qs.take k))) ∧ Hid (∀ j, ov.ownBlock = some j → w.heap.size + 3 ≤ j)) (fun i _ => n - (intOf i).toNat)
  case atStart => exact ⟨0, .slice none 0 0, rfl, by omega, HB1, X0, X1, X2, World.ownsRow_nil _ _ _ _, (fun j hj => by cases hj)⟩
  case round =>
    obtain ⟨k, ov, rfl, hk, HB, Y0, Y1, Y2, HO, HNw⟩ := hrel
    have hkq : (qs.take k).length = k := by rw [List.length_take]; have := HN.out; omega
    have y4 := Y0.out.cell 4 _ rfl
    by_cases hki : k < n
    · obtain ⟨q, hq⟩ : ∃ q, qs[k]? = some q := ⟨_, List.getElem?_eq_getElem (by have := HN.out; omega)⟩
      have HTk : Hid (qs.take (k + 1) = qs.take k ++ [q]) := (show _ = _ by
        have hk' := List.getElem?_eq_some_iff.1 hq
        rw [List.take_succ_eq_append_getElem hk'.1, hk'.2])
      obtain ⟨g, off, ea, hr⟩ := (HRow.out wr HB.out).at wq_len hq
      obtain ⟨g', off', ea', hr'⟩ := (HRow.out w (Below.refl _ _)).at wq_len hq
      have hg : g < w.heap.size := by
        rw [ea] at ea'
        cases ea'
        exact World.block_lt_of_cell? w _ (hr' 0 _ rfl)
      subst ea
      have e0 := hr 0 _ rfl
      have e1 := hr 1 _ rfl
      simp only [Nat.add_zero] at e0
      have HO1 : Hid (∀ u ∈ flat wq [q], u.oneCell' = true) := HOne.out q (List.mem_of_getElem? hq)
      have HRq : Hid (∀ w' : World, RowF wq (w'.alloc (.cells (wq q).toArray 76)) (.slice (some ⟨w'.heap.size, 0, none⟩) 1 1) [q]) := fun w' => rowF_one w' q 76
      obtain ⟨xq, nq, pq, hq2⟩ := HQ.out q (List.mem_of_getElem? hq)
      obtain ⟨⟨qw, qb⟩, qv⟩ := q
      dsimp only at hq2
      subst hq2
      obtain ⟨ao, co2, hov, hcov⟩ := slice_of_own HO.out
      subst hov
      rw [hkq] at HO HNw Y2
      obtain ⟨B, hB⟩ : ∃ B, B = w.heap.size + 3 := ⟨_, rfl⟩
      have HBs : Hid (B ≤ wr.heap.size) := by rw [hB]; exact (show _ ≤ _ by have := Y2.out.lt; omega)
      have ne : Nonempty (WIn (fun w' => Below B wr w')) := ⟨⟨wr, Below.refl _ _⟩⟩
      have z0 := fun z : WIn (fun w' => Below B wr w') => (z.ok.cell (p := ⟨w.heap.size, 4, none⟩) (show w.heap.size < B by omega)).trans (Y0.out.cell 4 _ rfl)
      have z2 := fun z : WIn (fun w' => Below B wr w') => (z.ok.cell (p := ⟨w.heap.size + 2, 4, none⟩) (show w.heap.size + 2 < B by omega)).trans (Y2.out.cell 4 _ rfl)
      have z3 := fun z : WIn (fun w' => Below B wr w') => (z.ok.cell (p := ⟨g, off + k * 2, none⟩) (show g < B by omega)).trans e0
      have z4 := fun z : WIn (fun w' => Below B wr w') => (z.ok.cell (p := ⟨g, off + k * 2 + 1, none⟩) (show g < B by omega)).trans e1
      have HD : Hid (Below B wr wr.drew) := (show Below _ _ _ from (Below.refl _ _).drew)
      have HOd : Hid (wr.drew.ownsRow 0 76 2 (.slice ao k co2) k (flat wq (qs.take k))) := HO.out
      have HFin : Hid (∀ w5 v5, Below B wr w5 → w5.ownsRow 0 76 2 v5 (qs.take k ++ [((⟨qw, qb⟩ : Wp), (Value.slice xq nq pq))]).length (flat wq (qs.take k ++ [((⟨qw, qb⟩ : Wp), (Value.slice xq nq pq))])) → (∀ j, v5.ownBlock = some j → B ≤ j) →
          Below w.heap.size w (w5.setCell ⟨w.heap.size + 2, 4, none⟩ v5) ∧ Blk (w5.setCell ⟨w.heap.size + 2, 4, none⟩ v5) w.heap.size 67 [.int .i64 ck, .int .i64 cw, .int .u64 cp, .int .i64 cm, .slice (some ⟨g, off, none⟩) n ca, .slice ab no cb] ∧ Blk (w5.setCell ⟨w.heap.size + 2, 4, none⟩ v5) (w.heap.size + 1) 59 [.int .i64 0, .int .i64 0, .int .u64 0, .int .i64 0, .slice none 0 0, .slice none 0 0] ∧ Blk (w5.setCell ⟨w.heap.size + 2, 4, none⟩ v5) (w.heap.size + 2) 59 [.int .i64 ck, .int .i64 cw, .int .u64 cp, .int .i64 cm, v5, .slice ab no cb] ∧ (w5.setCell ⟨w.heap.size + 2, 4, none⟩ v5).ownsRow 0 76 2 v5 (qs.take (k + 1)).length (flat wq (qs.take (k + 1))) ∧ (∀ j, v5.ownBlock = some j → w.heap.size + 3 ≤ j)) := fun w5 v5 h5 ho hn5 => by
        have hY2 := Y2.out.block (h5.block (w.heap.size + 2) (by omega))
        refine ⟨(HB.out.trans (h5.mono (by omega))).setCell (by simp) _, (Y0.out.block (h5.block w.heap.size (by omega))).other _ _ (by omega), (Y1.out.block (h5.block (w.heap.size + 1) (by omega))).other _ _ (by omega), hY2.set 4 v5, ?_, fun j hj => by have := hn5 j hj; omega⟩
        rw [HTk.out]
        exact ownsRow_block ho (fun j hj => Below.heap_setCell _ _ _ _ (by have := hn5 j hj; simp; omega))
      have HRq2 : Hid (∀ w' : World, RowF wq (w'.alloc (.cells #[.int .i64 qw, .slice xq nq pq] 76)) (.slice (some ⟨w'.heap.size, 0, none⟩) 1 1) [((⟨qw, qb⟩ : Wp), (Value.slice xq nq pq))]) := HRq
      have HFz : Hid (∀ w5, Below B wr w5 → w5.cell? ⟨w.heap.size + 2, 4, none⟩ = some (.slice ao k co2) ∧ w5.frozen? ⟨w.heap.size + 2, 4, none⟩ = false) := fun w5 h5 =>
        have hY2 := Y2.out.block (h5.block (w.heap.size + 2) (by omega))
        ⟨hY2.cell 4 _ rfl, hY2.frozen 4⟩
      have HNw2 : Hid (∀ j, (Value.slice ao k co2).ownBlock = some j → B ≤ j) := fun j hj => by have := HNw.out j hj; omega
      clear hr hr' ea' hq e0 e1 HRq hB
      go_upto_region 5 with fail
      refine wp_region_treeZ (C := fun w' => ∃ z : WIn (fun w' => Below B wr w'), w' = z.w) 18 (.still 0 (.still 1 (.still 2 (.still 3 (.still 4 (.still 5 (.still 6 (.still 7 (.still 8 (.still 9 (.still 10 (.still 11 (.still 12 (.still 13 (.still 14 (.one 15 (.one 16 (.still 17 .done)))))))))))))))))) rfl (by kernel_rfl) (by kernel_rfl) ⟨⟨wr.drew, HD.out⟩, rfl⟩ ?_
      iterate 15 (refine tree_still rfl rfl ?_; go_big_quiet_step (fail); refine wpQuiet_nil ?_)
      refine tree_one rfl rfl ?_
      go_simp
      have HD2 : Hid (Below B wr (wr.drew.alloc (.cells #[.int .i64 qw, .slice xq nq pq] 76))) := HD.out.alloc HBs.out _
      have HOd2 : Hid ((wr.drew.alloc (.cells #[.int .i64 qw, .slice xq nq pq] 76)).ownsRow 0 76 2 (.slice ao k co2) (qs.take k).length (flat wq (qs.take k))) := by rw [hkq]; exact HOd.out.alloc _
      refine ⟨⟨⟨_, HD2.out⟩, rfl⟩, ?_⟩
      go_simp
      refine tree_one rfl rfl ?_
      refine wp_of_list rfl ?_
      refine wpList_append_rows ty35 wq_len (by omega) rfl (.tmp 24) (.tmp 38) rfl _ (qs.take k) rfl HOd2.out _ [((⟨qw, qb⟩ : Wp), (Value.slice xq nq pq))] rfl (HRq2.out wr.drew) HO1.out (by simp; omega) ?_
      intro v5 w5 k1 k2 k3
      have hb5 : Below B wr w5 := HD2.out.grown k2 (Nat.le_trans HBs.out (by simp)) (fun j hj => HNw2.out j hj)
      have hn5 : ∀ j, v5.ownBlock = some j → B ≤ j := fun j hj => by
        rcases k3 j hj with r | r
        · exact HNw2.out j r
        · have := HBs.out; simp at r; omega
      obtain ⟨a5, q5, hv5, hq5⟩ := slice_of_own k1
      have HF5 := HFin.out w5 v5 hb5 k1 hn5
      have hlz : (qs.take k ++ [((⟨qw, qb⟩ : Wp), (Value.slice xq nq pq))]).length = k + 1 := by rw [List.length_append, hkq]; rfl
      rw [hlz] at hv5
      subst hv5
      obtain ⟨f1, f2, f3, f4, f5, f6⟩ := HF5
      have G1 : Hid _ := f1
      have HF1 : Hid (Below w.heap.size w (w5.setCell ⟨w.heap.size + 2, 4, none⟩ (.slice a5 (k + 1) q5))) := f1
      have HF2 : Hid (Blk (w5.setCell ⟨w.heap.size + 2, 4, none⟩ (.slice a5 (k + 1) q5)) w.heap.size 67 [.int .i64 ck, .int .i64 cw, .int .u64 cp, .int .i64 cm, .slice (some ⟨g, off, none⟩) n ca, .slice ab no cb]) := f2
      have HF3 : Hid (Blk (w5.setCell ⟨w.heap.size + 2, 4, none⟩ (.slice a5 (k + 1) q5)) (w.heap.size + 1) 59 [.int .i64 0, .int .i64 0, .int .u64 0, .int .i64 0, .slice none 0 0, .slice none 0 0]) := f3
      have HF4 : Hid (Blk (w5.setCell ⟨w.heap.size + 2, 4, none⟩ (.slice a5 (k + 1) q5)) (w.heap.size + 2) 59 [.int .i64 ck, .int .i64 cw, .int .u64 cp, .int .i64 cm, .slice a5 (k + 1) q5, .slice ab no cb]) := f4
      have HF5 : Hid ((w5.setCell ⟨w.heap.size + 2, 4, none⟩ (.slice a5 (k + 1) q5)).ownsRow 0 76 2 (.slice a5 (k + 1) q5) (qs.take (k + 1)).length (flat wq (qs.take (k + 1)))) := f5
      have HF6 : Hid (∀ j, (Value.slice a5 (k + 1) q5).ownBlock = some j → w.heap.size + 3 ≤ j) := f6
      have l0 := (HFz.out w5 hb5).1
      have l1 := (HFz.out w5 hb5).2
      clear k1 k2 k3 hq5 f1 f2 f3 f4 f5 f6 G1
      refine ⟨rfl, ⟨⟨_, hb5⟩, rfl⟩, ?_⟩
      go_simp
      refine tree_still rfl rfl ?_
      go_big_quiet_step (fail)
      refine wpQuiet_nil ?_
      refine tree_done ?_
      refine ⟨rfl, ?_⟩
      go_simp
      clear z0 z2 z3 z4 ne hkq
      go_wp2
      go_roundw
      case rel => exact ⟨k + 1, _, by go_num, by omega, HF1, HF2, HF3, HF4, HF5, HF6⟩
      case measure => simp [intOf]; omega
    · have hkn : k = n := by omega
      have hall : qs.take k = qs := List.take_of_length_le (by have := HN.out; omega)
      obtain ⟨ao, co2, hov, hcov⟩ := slice_of_own HO.out
      subst hov
      have HR : Hid (RowF wq wr (.slice ao (qs.take k).length co2) qs) := (by
        have := rowF_own wq_len HO.out
        rw [hall] at this ⊢
        exact this)
      have HNb : Hid (∀ j, (Value.slice ao (qs.take k).length co2).ownBlock = some j → w.heap.size + 3 ≤ j) := HNw.out
      have HLb : Hid (∀ j, (Value.slice ao (qs.take k).length co2).ownBlock = some j → j < wr.heap.size) := fun j hj => (HO.out.lt j hj).2
      rw [hkq] at HR HNb Y2 HLb
      have HKey : Hid (∀ W, Below w.heap.size w W → RowF wq W (.slice ao k co2) qs → CgAt W ⟨ck, cw, cp, cm, cws, co⟩ (.slice ao k co2) (.slice ab no cb) qs) := fun W hW hr =>
        have hC := HC.out W hW
        ⟨hr, hC.rd, hC.ok, hC.ws, hC.old, hC.k, hC.w, hC.p, hC.l⟩
      have u0 := Y2.out.cell 0 _ rfl; have u1 := Y2.out.cell 1 _ rfl; have u2 := Y2.out.cell 2 _ rfl; have u3 := Y2.out.cell 3 _ rfl; have u4 := Y2.out.cell 4 _ rfl; have u5 := Y2.out.cell 5 _ rfl
      have v0 := Y1.out.cell 0 _ rfl; have v1 := Y1.out.cell 1 _ rfl; have v2 := Y1.out.cell 2 _ rfl; have v3 := Y1.out.cell 3 _ rfl; have v4 := Y1.out.cell 4 _ rfl; have v5 := Y1.out.cell 5 _ rfl
      have x0 := Y1.out.frozen 0; have x1 := Y1.out.frozen 1; have x2 := Y1.out.frozen 2; have x3 := Y1.out.frozen 3; have x4 := Y1.out.frozen 4; have x5 := Y1.out.frozen 5
      clear hall hcov HO HNw hkq
      go_wp2
      refine bodyPost_ret (v := .agg #[.int .i64 ck, .int .i64 cw, .int .u64 cp, .int .i64 cm, .slice ao k co2, .slice ab no cb]) ?_ rfl ⟨.slice ao k co2, rfl, ?_, ?_, ?_⟩
      · rw [results_cell1 rfl]
        go_simp
      · refine HKey.out _ ?_ ?_
        · iterate 6 refine Below.setCell ?_ (by simp) _
          exact HB.out
        refine HR.out.blocks fun j hj hlt => ?_
        have := HNb.out j hj
        iterate 6 rw [Below.heap_setCell _ _ _ _ (by simp; omega)]
      · intro j hj
        have h1 := HNb.out j hj
        have h2 := HLb.out j hj
        refine ⟨by omega, ?_⟩
        simp
        exact h2
      · iterate 6 refine Below.setCell ?_ (by simp) _
        exact HB.out
structure AllAt (w wr : World) (B : Nat) (vo : Value) (cs : List Cq) : Prop where
  own : wr.ownsRow 0 59 6 vo cs.length (flat cqf cs)
  new : ∀ j, vo.ownBlock = some j → B ≤ j
  each : ∀ q ∈ cs, ∃ qs, CgAt wr q.1 q.2.1 q.2.2 qs ∧ (∀ j, q.2.1.ownBlock = some j → B ≤ j ∧ j < wr.heap.size ∧ vo.ownBlock ≠ some j) ∧ (∀ x ∈ qs, Rd w x.2 x.1.b) ∧ Rd w q.2.2 q.1.o
theorem AllAt.nil (w wr : World) (B : Nat) : AllAt w wr B (.slice none 0 0) [] := ⟨World.ownsRow_nil _ _ _ _, (fun j hj => by cases hj), (fun q hq => by cases hq)⟩
theorem AllAt.below {w wr w' : World} {B : Nat} {vo : Value} {cs : List Cq} (h : AllAt w wr B vo cs) (hb : Below wr.heap.size wr w') : AllAt w w' B vo cs :=
  ⟨own_below h.own hb, h.new, fun q hq => by
    obtain ⟨qs, h1, h2, h3, h4⟩ := h.each q hq
    exact ⟨qs, h1.below hb, fun j hj => ⟨(h2 j hj).1, Nat.lt_of_lt_of_le (h2 j hj).2.1 hb.size, (h2 j hj).2.2⟩, h3, h4⟩⟩
theorem AllAt.blocks {w wr w' : World} {B : Nat} {vo : Value} {cs : List Cq} (h : AllAt w wr B vo cs) (hs : wr.heap.size ≤ w'.heap.size) (hb : Below w.heap.size w w') (hk : ∀ j, B ≤ j → j < wr.heap.size → w'.heap[j]? = wr.heap[j]?) : AllAt w w' B vo cs :=
  ⟨ownsRow_block h.own (fun j hj => hk j (h.new j hj) (h.own.lt j hj).2), h.new, fun q hq => by
    obtain ⟨qs, h1, h2, h3, h4⟩ := h.each q hq
    refine ⟨qs, ⟨h1.row.blocks (fun j hj hlt => hk j (h2 j hj).1 hlt), fun x hx => (h3 x hx).below hb, h1.ok, h1.ws, h4.below hb, h1.k, h1.w, h1.p, h1.l⟩, fun j hj => ⟨(h2 j hj).1, Nat.lt_of_lt_of_le (h2 j hj).2.1 hs, (h2 j hj).2.2⟩, h3, h4⟩⟩
theorem AllAt.putS {w wr : World} {B b : Nat} {vo v : Value} {e : Int} {cs : List Cq} (h : AllAt w wr B vo cs) (hb : Below w.heap.size w wr) (hw : w.heap.size ≤ b) (hB : b < B) : AllAt w (putS wr b v e) B vo cs :=
  h.blocks (by rw [putS_size]; exact Nat.le_refl _) (putS_below hb hw) (fun j hj _ => by
    unfold Go.Proofs.YtkoeocghoabmbaaGreat.putS
    rw [Below.heap_setCell _ _ _ _ (by simp; omega), Below.heap_setCell _ _ _ _ (by simp; omega)])
end
section
set_option linter.unusedVariables false
set_option linter.unusedSimpArgs false
set_option synthInstance.maxSize 20000
set_option maxHeartbeats 2000000
set_option maxRecDepth 20000
open Go.RowKit Go.Maps
set_option maxHeartbeats 4000000 in
theorem changes29 {w : World} {c : Cg} {a b a2 b2 : Value} {qs qs2 : List Wq} (h : CgAt w c a b qs) (h2 : CgAt w c a2 b2 qs2) : Calls Tryz.prog 30 #[cv c a b, cv c a2 b2] w fun r w' => r = .returned (.bool true) ∧ Below w.heap.size w w' := by
  obtain ⟨aa, ca, rfl⟩ := h.row.len
  obtain ⟨ab, cb, rfl⟩ := h2.row.len
  obtain ⟨oa, pa, rfl⟩ := h.old.len
  obtain ⟨ob, pb, rfl⟩ := h2.old.len
  have hc1 : qs.length ≤ ca := h.row.caps.2.1
  have hc2 : ca ≤ 9223372036854775807 := h.row.caps.2.2
  have hc3 : qs2.length ≤ cb := h2.row.caps.2.1
  have hc4 : cb ≤ 9223372036854775807 := h2.row.caps.2.2
  have hq1 := h.len
  have hq2 := h2.len
  have HA : Hid (∀ w', Below w.heap.size w w' → CgAt w' c (.slice aa qs.length ca) (.slice oa c.o.length pa) qs) := fun w' hb => h.below hb
  have HB : Hid (∀ w', Below w.heap.size w w' → CgAt w' c (.slice ab qs2.length cb) (.slice ob c.o.length pb) qs2) := fun w' hb => h2.below hb
  rw [hq1] at hc1 HA ⊢
  rw [hq2] at hc3 HB ⊢
  obtain ⟨ck, cw, cp, cm, cws, co⟩ := c
  unfold cv
  dsimp only at *
  obtain ⟨n, hn⟩ : ∃ n, n = cws.length := ⟨_, rfl⟩
  obtain ⟨no, hno⟩ : ∃ no, no = co.length := ⟨_, rfl⟩
  rw [← hn] at hc1 hc3 HA HB hq1 hq2 ⊢
  rw [← hno] at HA HB ⊢
  have HN1 : Hid (qs.length = n) := hq1
  have HN2 : Hid (qs2.length = n) := hq2
  have HMp : Hid (qs.map (·.1) = qs2.map (·.1)) := (show _ = _ by rw [h.ws, h2.ws])
  obtain ⟨w1, hw1⟩ : ∃ w1, w1 = (w.alloc (.cells #[.int .i64 ck, .int .i64 cw, .int .u64 cp, .int .i64 cm, .slice aa n ca, .slice oa no pa] 67)).alloc (.cells #[.int .i64 ck, .int .i64 cw, .int .u64 cp, .int .i64 cm, .slice ab n cb, .slice ob no pb] 67) := ⟨_, rfl⟩
  have HB1 : Hid (Below w.heap.size w w1) := by rw [hw1]; exact balloc2 _ _ _
  have X0 : Hid (Blk w1 w.heap.size 67 [.int .i64 ck, .int .i64 cw, .int .u64 cp, .int .i64 cm, .slice aa n ca, .slice oa no pa]) := by rw [hw1]; exact blkM_0 w [.int .i64 ck, .int .i64 cw, .int .u64 cp, .int .i64 cm, .slice aa n ca, .slice oa no pa] [.int .i64 ck, .int .i64 cw, .int .u64 cp, .int .i64 cm, .slice ab n cb, .slice ob no pb] 67 67
  have X1 : Hid (Blk w1 (w.heap.size + 1) 67 [.int .i64 ck, .int .i64 cw, .int .u64 cp, .int .i64 cm, .slice ab n cb, .slice ob no pb]) := by rw [hw1]; exact blkM_1 w [.int .i64 ck, .int .i64 cw, .int .u64 cp, .int .i64 cm, .slice aa n ca, .slice oa no pa] [.int .i64 ck, .int .i64 cw, .int .u64 cp, .int .i64 cm, .slice ab n cb, .slice ob no pb] 67 67
  have HW1 : Hid (w1 = (w.alloc (.cells #[.int .i64 ck, .int .i64 cw, .int .u64 cp, .int .i64 cm, .slice aa n ca, .slice oa no pa] 67)).alloc (.cells #[.int .i64 ck, .int .i64 cw, .int .u64 cp, .int .i64 cm, .slice ab n cb, .slice ob no pb] 67)) := hw1
  have H31 : Hid (Calls Tryz.prog 60 #[.slice oa no pa, .slice ob no pb] w1 fun r w' => r = .returned (.bool true) ∧ Below w1.heap.size w1 w') := (show Calls _ _ _ _ _ from by
    refine (same_any _ _ co co w1 (HA.out w1 HB1.out).old (HB.out w1 HB1.out).old).mono ?_
    rintro r w' ⟨rfl, hb⟩
    exact ⟨by simp, hb⟩)
  have x0 := X0.out.cell 0 _ rfl; have x1 := X0.out.cell 1 _ rfl; have x2 := X0.out.cell 2 _ rfl; have x3 := X0.out.cell 3 _ rfl; have x4 := X0.out.cell 4 _ rfl; have x5 := X0.out.cell 5 _ rfl
  have y0 := X1.out.cell 0 _ rfl; have y1 := X1.out.cell 1 _ rfl; have y2 := X1.out.cell 2 _ rfl; have y3 := X1.out.cell 3 _ rfl; have y4 := X1.out.cell 4 _ rfl; have y5 := X1.out.cell 5 _ rfl
  clear h h2 hn hno hw1 hq1 hq2
  go_enter Tryz.func30, Tryz.ntmps30
  go_upto_region 1 with fail
  rw [← HW1.out]
  go_wp2_with (go_at_call 60; go_must (refine H31.out.mono ?_; rintro r w2 ⟨rfl, hb2⟩; have HB2 : Hid (Below w1.heap.size w1 w2) := hb2; clear hb2))
  clear x0 x1 x2 x3 x4 x5 y0 y1 y2 y3 y4 y5
  go_loopw [5] (fun i wr => ∃ k : Nat, i = .int .i64 k ∧ k ≤ n ∧ Hid (Below w2.heap.size w2 wr)) (fun i _ => n - (intOf i).toNat)
  case atStart => exact ⟨0, rfl, by omega, (show Below _ _ _ from Below.refl _ _)⟩
  case round =>
    obtain ⟨k, rfl, hk, HBr⟩ := hrel
    have HBw : Hid (Below w.heap.size w wr) := (show Below _ _ _ from bnext (bnext HB1.out HB2.out) HBr.out)
    have x4 := ((X0.out.below HB2.out).below HBr.out).cell 4 _ rfl
    have y4 := ((X1.out.below HB2.out).below HBr.out).cell 4 _ rfl
    by_cases hki : k < n
    · obtain ⟨m, hm⟩ : ∃ m, qs[k]? = some m := ⟨_, List.getElem?_eq_getElem (by have := HN1.out; omega)⟩
      obtain ⟨m2, hm2⟩ : ∃ m, qs2[k]? = some m := ⟨_, List.getElem?_eq_getElem (by have := HN2.out; omega)⟩
      have hmm : m2.1 = m.1 := by
        have h1 : (qs.map (·.1))[k]? = some m.1 := by rw [List.getElem?_map, hm]; rfl
        have h2 : (qs2.map (·.1))[k]? = some m2.1 := by rw [List.getElem?_map, hm2]; rfl
        rw [HMp.out, h2] at h1
        exact Option.some.inj h1
      obtain ⟨g, off, ea, hr⟩ := (HA.out wr HBw.out).row.at wq_len hm
      obtain ⟨g2, off2, ea2, hr2⟩ := (HB.out wr HBw.out).row.at wq_len hm2
      have r1 := (HA.out wr HBw.out).rd m (List.mem_of_getElem? hm)
      have r2 := (HB.out wr HBw.out).rd m2 (List.mem_of_getElem? hm2)
      subst ea ea2
      obtain ⟨⟨mw, mb⟩, mv⟩ := m
      obtain ⟨mp2, mv2⟩ := m2
      dsimp only at hmm r1 r2
      subst hmm
      obtain ⟨d1, e1, hd1⟩ := r1.len
      obtain ⟨d2, e2, hd2⟩ := r2.len
      dsimp only at hd1 hd2 r1 r2
      subst hd1 hd2
      have H31b : Hid (Calls Tryz.prog 60 #[.slice d1 mb.length e1, .slice d2 mb.length e2] wr.drew fun r w' => r = .returned (.bool true) ∧ Below wr.heap.size wr w') := (show Calls _ _ _ _ _ from by
        refine (same_any _ _ mb mb wr.drew r1 r2).mono ?_
        rintro r w' ⟨rfl, hb⟩
        exact ⟨by simp, bnext (Below.refl _ _).drew hb⟩)
      have HD : Hid (Below wr.heap.size wr wr.drew) := (show Below _ _ _ from (Below.refl _ _).drew)
      have D0 := fun z : WIn (fun w' => Below wr.heap.size wr w') => (((X0.out.below HB2.out).below HBr.out).below z.ok).cell 4 _ rfl
      have D1 := fun z : WIn (fun w' => Below wr.heap.size wr w') => (((X1.out.below HB2.out).below HBr.out).below z.ok).cell 4 _ rfl
      have hcl : ∀ (z : WIn (fun w' => Below wr.heap.size wr w')) p v, wr.cell? p = some v → z.w.cell? p = some v := fun z p v hp => (z.ok.cell (World.block_lt_of_cell? wr _ hp)).trans hp
      have a0 := fun z => hcl z _ _ (hr 0 _ rfl); have a1 := fun z => hcl z _ _ (hr 1 _ rfl)
      have b0 := fun z => hcl z _ _ (hr2 0 _ rfl); have b1 := fun z => hcl z _ _ (hr2 1 _ rfl)
      simp only [Nat.add_zero] at a0 b0
      have ne : Nonempty (WIn (fun w' => Below wr.heap.size wr w')) := ⟨⟨wr, Below.refl _ _⟩⟩
      clear hr hr2 hm hm2 hcl r1 r2
      go_upto_region 6 with fail
      refine wp_region_ord (C := fun w' => ∃ z : WIn (fun w' => Below wr.heap.size wr w'), w' = z.w) [(false, 0), (false, 1), (false, 2), (false, 3), (false, 4), (false, 5), (false, 6), (false, 7), (false, 8), (false, 9), (false, 10), (false, 11), (false, 12), (false, 13), (false, 14), (false, 15), (false, 16), (false, 17), (false, 18), (false, 19), (false, 20), (false, 21), (false, 22), (false, 23), (false, 24), (false, 25), (true, 26), (false, 27), (false, 28)] (by kernel_rfl) (by kernel_rfl) ⟨⟨wr.drew, HD.out⟩, rfl⟩ ?_
      iterate 26 (refine ord_still rfl rfl ?_; go_big_quiet_step (fail); refine wpQuiet_nil ?_)
      refine ord_mem rfl rfl ?_
      go_simp
      refine H31b.out.mono ?_
      rintro r w4 ⟨rfl, h4⟩
      have H4 : Hid (Below wr.heap.size wr w4) := h4
      have HB4 : Hid (Below w2.heap.size w2 w4) := (show Below _ _ _ from bnext HBr.out h4)
      clear h4
      refine ⟨⟨⟨_, H4.out⟩, rfl⟩, ?_⟩
      go_simp
      iterate 2 (refine ord_still rfl rfl ?_; go_big_quiet_step (fail); refine wpQuiet_nil ?_)
      refine ord_end ?_
      clear D0 D1 a0 a1 b0 b1 ne
      go_wp2
      go_roundw
      case rel => exact ⟨k + 1, by go_num, by omega, HB4⟩
      case measure => simp [intOf]; omega
    · go_wp2
      go_ret
      exact ⟨rfl, HBw.out⟩
end
section
set_option linter.unusedVariables false
set_option linter.unusedSimpArgs false
set_option synthInstance.maxSize 20000
set_option maxHeartbeats 2000000
set_option maxRecDepth 20000
open Go.RowKit Go.Maps
theorem new10f (p : Int) (w : World) : Calls Tryz.prog 26 #[.int .u64 p] w fun r w' => ∃ v, r = .returned (stv v (-1)) ∧ RowF mc w' v [⟨0, p, 0, -1, 0⟩] ∧ (∀ j, v.ownBlock = some j → w.heap.size ≤ j) ∧ Below w.heap.size w w' := by
  have HR : Hid (∀ w' : World, RowF mc (w'.alloc (.cells #[.int .i64 0, .int .u64 p, .int .i64 0, .int .i64 (-1), .int .i64 0] 70)) (.slice (some ⟨w'.heap.size, 0, none⟩) 1 1) [(⟨0, p, 0, -1, 0⟩ : Mb)]) := fun w' => rowF_one w' (⟨0, p, 0, -1, 0⟩ : Mb) 70
  go_enter Tryz.func26, Tryz.ntmps26
  go_wp2
  refine bodyPost_ret (v := stv (.slice (some ⟨w.heap.size + 1, 0, none⟩) 1 1) (-1)) ?_ rfl ⟨_, rfl, ?_, (fun j hj => by simp [Value.ownBlock] at hj; omega), ?_⟩
  · rw [results_cell1 rfl]
    unfold stv
    go_simp
  · have := HR.out (w.alloc (.cells #[.slice (some ⟨w.heap.size + 1, 0, none⟩) 1 1, .int .i64 (-1)] 45))
    simp only [World.size_alloc] at this
    exact this
  · exact balloc2 _ _ _
theorem rnew11f (p : Int) (w : World) : Calls Tryz.prog 28 #[.int .u64 p] w fun r w' => ∃ v, r = .returned (stv v (-1)) ∧ RowF mc w' v [⟨0, p, 0, -1, 0⟩] ∧ (∀ j, v.ownBlock = some j → w.heap.size ≤ j) ∧ Below w.heap.size w w' := by
  have HR : Hid (∀ w' : World, RowF mc (w'.alloc (.cells #[.int .i64 0, .int .u64 p, .int .i64 0, .int .i64 (-1), .int .i64 0] 112)) (.slice (some ⟨w'.heap.size, 0, none⟩) 1 1) [(⟨0, p, 0, -1, 0⟩ : Mb)]) := fun w' => rowF_one w' (⟨0, p, 0, -1, 0⟩ : Mb) 112
  go_enter Tryz.func28, Tryz.ntmps28
  go_wp2
  refine bodyPost_ret (v := stv (.slice (some ⟨w.heap.size + 1, 0, none⟩) 1 1) (-1)) ?_ rfl ⟨_, rfl, ?_, (fun j hj => by simp [Value.ownBlock] at hj; omega), ?_⟩
  · rw [results_cell1 rfl]
    unfold stv
    go_simp
  · have := HR.out (w.alloc (.cells #[.slice (some ⟨w.heap.size + 1, 0, none⟩) 1 1, .int .i64 (-1)] 48))
    simp only [World.size_alloc] at this
    exact this
  · exact balloc2 _ _ _
theorem now19f {w : World} {v : Value} {l : List Mb} (hv : RowF mc w v l) (hl : l.length ≤ 10000) (e : Int) : Calls Tryz.prog 35 #[stv v e] w fun r w' => ∃ v', r = .returned v' ∧ RowF mc w' v' (nowM l) ∧ (∀ j, v'.ownBlock = some j → w.heap.size ≤ j) ∧ Below w.heap.size w w' := by
  obtain ⟨av, cap, rfl⟩ := hv.len
  have hcap := hv.caps
  have hc1 : l.length ≤ cap := hcap.2.1
  have hc2 : cap ≤ 9223372036854775807 := hcap.2.2
  have HV : Hid (∀ w', Below w.heap.size w w' → RowF mc w' (.slice av l.length cap) l) := fun w' hb => hv.below hb
  obtain ⟨n, hn⟩ : ∃ n, n = l.length := ⟨_, rfl⟩
  have HN : Hid (n = l.length) := hn
  rw [← hn] at hc1 HV hl ⊢
  clear hv hcap hn
  unfold stv
  go_enter Tryz.func35, Tryz.ntmps35
  go_wp2
  go_loopw [3, 9] (fun vo i wr => ∃ (k : Nat), i = .int .i64 k ∧ k ≤ n ∧ Hid (Below w.heap.size w wr) ∧ Hid (wr.ownsRow 0 70 5 vo (nowM (l.take k)).length (flat mc (nowM (l.take k)))) ∧ Hid (∀ j, vo.ownBlock = some j → w.heap.size ≤ j)) (fun _ i _ => n - (intOf i).toNat)
  case atStart => exact ⟨0, rfl, by omega, (show Below _ _ _ from balloc (Below.refl _ _) _), World.ownsRow_nil _ _ _ _, (fun j hj => by cases hj)⟩
  case round =>
    obtain ⟨k, rfl, hk, HB, HO, HNw⟩ := hrel
    by_cases hki : k < n
    · obtain ⟨m, hm⟩ : ∃ m, l[k]? = some m := ⟨_, List.getElem?_eq_getElem (by have := HN.out; omega)⟩
      have HM : Hid (nowM (l.take (k + 1)) = nowM (l.take k) ++ (if on m = true then [m] else [])) := nowM_snoc hm
      have HL : Hid ((nowM (l.take k)).length ≤ n) := (by have := nowM_le l k; rw [← HN.out] at this; exact this)
      obtain ⟨b, off, ea, hc⟩ := (HV.out wr HB.out).at mc_len hm
      subst ea
      have HR : Hid (∀ w', Calls Tryz.prog 64 #[mv m] w' fun r w'' => r = .returned (.bool (!on m)) ∧ Below w'.heap.size w' w'') := fun w' => revoked39 m w'
      obtain ⟨av2, cp2, hvo, hcp⟩ := slice_of_own HO.out
      subst hvo
      have HBk : Hid (∀ w', Below (wr.heap.size + 1) (wr.alloc (.cells (mc m).toArray 70)) w' → Blk w' wr.heap.size 70 (mc m) ∧ Below w.heap.size w w' ∧ w'.ownsRow 0 70 5 (.slice av2 (nowM (l.take k)).length cp2) (nowM (l.take k)).length (flat mc (nowM (l.take k)))) := fun w' hb =>
        have hb' : Below (wr.alloc (.cells (mc m).toArray 70)).heap.size (wr.alloc (.cells (mc m).toArray 70)) w' := by simpa using hb
        have hb2 : Below wr.heap.size wr w' := bnext (balloc (Below.refl _ _) _) hb'
        ⟨(blk_new wr (mc m) 70).below hb', bnext HB.out hb2, own_below HO.out hb2⟩
      have HRow : Hid (∀ w' : World, RowF mc (w'.alloc (.cells (mc m).toArray 70)) (.slice (some ⟨w'.heap.size, 0, none⟩) 1 1) [m]) := fun w' => rowF_one w' m 70
      obtain ⟨x0, x1, x2, x3, x4⟩ := m
      have c0 := hc 0 _ rfl; have c1 := hc 1 _ rfl; have c2 := hc 2 _ rfl; have c3 := hc 3 _ rfl; have c4 := hc 4 _ rfl
      simp only [Nat.add_zero] at c0
      unfold mv at HR
      have HBk : Hid (∀ w', Below (wr.heap.size + 1) (wr.alloc (.cells #[.int .i64 x0, .int .u64 x1, .int .i64 x2, .int .i64 x3, .int .i64 x4] 70)) w' → Blk w' wr.heap.size 70 [.int .i64 x0, .int .u64 x1, .int .i64 x2, .int .i64 x3, .int .i64 x4] ∧ Below w.heap.size w w' ∧ w'.ownsRow 0 70 5 (.slice av2 (nowM (l.take k)).length cp2) (nowM (l.take k)).length (flat mc (nowM (l.take k)))) := HBk
      have HRow : Hid (∀ w' : World, RowF mc (w'.alloc (.cells #[.int .i64 x0, .int .u64 x1, .int .i64 x2, .int .i64 x3, .int .i64 x4] 70)) (.slice (some ⟨w'.heap.size, 0, none⟩) 1 1) [(⟨x0, x1, x2, x3, x4⟩ : Mb)]) := HRow
      dsimp only at HR
      have HNK : Hid (((nowM (l.take k)) ++ [(⟨x0, x1, x2, x3, x4⟩ : Mb)]).length ≤ 100000) := (show _ ≤ _ by rw [List.length_append]; have := HL.out; simp; omega)
      generalize hnn : nowM (l.take k) = acc at *
      generalize on ⟨x0, x1, x2, x3, x4⟩ = ob at *
      clear hc hm hnn
      cases ob
      · have HM2 : Hid (nowM (l.take (k + 1)) = acc) := by have := HM.out; simp at this; exact this
        clear HM
        go_wp2_with (go_at_call 64; go_must (refine (HR.out _).mono ?_; rintro r w2 ⟨rfl, hb2⟩; simp only [World.size_alloc] at hb2; obtain ⟨X, HB2, HO2⟩ := HBk.out w2 hb2; have j0 := X.cell 0 _ rfl; have j1 := X.cell 1 _ rfl; have j2 := X.cell 2 _ rfl; have j3 := X.cell 3 _ rfl; have j4 := X.cell 4 _ rfl; clear X))
        go_roundw
        case rel =>
          refine ⟨k + 1, by go_num, by omega, HB2, ?_, HNw⟩
          rw [HM2.out]
          exact HO2
        case measure => simp [intOf]; omega
      · have HM2 : Hid (nowM (l.take (k + 1)) = acc ++ [(⟨x0, x1, x2, x3, x4⟩ : Mb)]) := by have := HM.out; simp only [if_true] at this; exact this
        clear HM
        go_wp2_with (first
          | (go_at_call 64; go_must (refine (HR.out _).mono ?_; rintro r w2 ⟨rfl, hb2⟩; simp only [World.size_alloc] at hb2; obtain ⟨X, HB2, HO2⟩ := HBk.out w2 hb2; have j0 := X.cell 0 _ rfl; have j1 := X.cell 1 _ rfl; have j2 := X.cell 2 _ rfl; have j3 := X.cell 3 _ rfl; have j4 := X.cell 4 _ rfl; clear X))
          | (at_builtin; go_must (refine wpList_append_rows ty26 mc_len (by omega) rfl (.tmp 16) (.tmp 18) rfl _ acc rfl (HO2.alloc _) _ [(⟨x0, x1, x2, x3, x4⟩ : Mb)] rfl (HRow.out w2) (flat_mc_one _) (by have := HNK.out; rw [List.length_append] at this; omega) ?_; intro v3 w3 hr3 hg3 hn3; obtain ⟨a3, q3, hv3, hq3⟩ := slice_of_own hr3; subst hv3)))
        go_roundw
        case rel =>
          refine ⟨k + 1, by go_num, by omega, ?_, ?_, ?_⟩
          · exact (balloc HB2 _).grown hg3 (balloc HB2 _).size (fun j hj => HNw.out j hj)
          · rw [HM2.out]
            rw [List.length_append] at hr3 ⊢
            exact hr3
          · intro j hj
            rw [List.length_append] at hn3
            rcases hn3 j hj with r | r
            · exact HNw.out j r
            · have := (balloc HB2 (.cells #[.int .i64 x0, .int .u64 x1, .int .i64 x2, .int .i64 x3, .int .i64 x4] 70)).size
              omega
        case measure => simp [intOf]; omega
    · go_wp2
      go_ret
      have e : l.take k = l := List.take_of_length_le (by have := HN.out; omega)
      have := HO.out
      rw [e] at this
      exact ⟨_, rfl, rowF_own mc_len this, HNw.out, HB.out⟩
theorem rnow20f {w : World} {v : Value} {l : List Mb} (hv : RowF mc w v l) (hl : l.length ≤ 10000) (e : Int) : Calls Tryz.prog 45 #[stv v e] w fun r w' => ∃ v', r = .returned v' ∧ RowF mc w' v' (nowM l) ∧ (∀ j, v'.ownBlock = some j → w.heap.size ≤ j) ∧ Below w.heap.size w w' := by
  obtain ⟨av, cap, rfl⟩ := hv.len
  have hcap := hv.caps
  have hc1 : l.length ≤ cap := hcap.2.1
  have hc2 : cap ≤ 9223372036854775807 := hcap.2.2
  obtain ⟨n, hn⟩ : ∃ n, n = l.length := ⟨_, rfl⟩
  have HN : Hid (n = l.length) := hn
  rw [← hn] at hc1 hv hl ⊢
  obtain ⟨w1, hw1⟩ : ∃ w1, w1 = w.alloc (.cells #[.slice av n cap, .int .i64 e] 48) := ⟨_, rfl⟩
  have hb1 : Below w.heap.size w w1 := by rw [hw1]; exact balloc (Below.refl _ _) _
  have HB1 : Hid (Below w.heap.size w w1) := hb1
  have X0 : Hid (Blk w1 w.heap.size 48 [.slice av n cap, .int .i64 e]) := by rw [hw1]; exact blk_new w [.slice av n cap, .int .i64 e] 48
  have HV : Hid (∀ w', Below w1.heap.size w1 w' → RowF mc w' (.slice av n cap) l) := fun w' hb => (hv.below hb1).below hb
  have HW1 : Hid (w1 = w.alloc (.cells #[.slice av n cap, .int .i64 e] 48)) := hw1
  clear hv hcap hn hw1 hb1
  unfold stv
  go_enter Tryz.func45, Tryz.ntmps45
  go_upto_region 1 with fail
  rw [← HW1.out]
  go_wp2
  go_loopw [3, 4] (fun vo i wr => ∃ (k : Nat), i = .int .i64 k ∧ k ≤ n ∧ Hid (Below w1.heap.size w1 wr) ∧ Hid (wr.ownsRow 0 112 5 vo (nowM (l.take k)).length (flat mc (nowM (l.take k)))) ∧ Hid (∀ j, vo.ownBlock = some j → w1.heap.size ≤ j)) (fun _ i _ => n - (intOf i).toNat)
  case atStart => exact ⟨0, rfl, by omega, (show Below _ _ _ from Below.refl _ _), World.ownsRow_nil _ _ _ _, (fun j hj => by cases hj)⟩
  case round =>
    obtain ⟨k, rfl, hk, HB, HO, HNw⟩ := hrel
    have x0 := (X0.out.below HB.out).cell 0 _ rfl
    by_cases hki : k < n
    · obtain ⟨av2, cp2, hvo, hcp⟩ := slice_of_own HO.out
      subst hvo
      obtain ⟨m, hm⟩ : ∃ m, l[k]? = some m := ⟨_, List.getElem?_eq_getElem (by have := HN.out; omega)⟩
      have HM : Hid (nowM (l.take (k + 1)) = nowM (l.take k) ++ (if on m = true then [m] else [])) := nowM_snoc hm
      have HL : Hid ((nowM (l.take k)).length ≤ n) := (by have := nowM_le l k; rw [← HN.out] at this; exact this)
      obtain ⟨b, off, ea, hc⟩ := (HV.out wr HB.out).at mc_len hm
      subst ea
      have HRow : Hid (∀ w' : World, RowF mc (w'.alloc (.cells (mc m).toArray 112)) (.slice (some ⟨w'.heap.size, 0, none⟩) 1 1) [m]) := fun w' => rowF_one w' m 112
      obtain ⟨x0', x1, x2, x3, x4⟩ := m
      have c0 := hc 0 _ rfl; have c1 := hc 1 _ rfl; have c2 := hc 2 _ rfl; have c3 := hc 3 _ rfl; have c4 := hc 4 _ rfl
      simp only [Nat.add_zero] at c0
      have HRow : Hid (∀ w' : World, RowF mc (w'.alloc (.cells #[.int .i64 x0', .int .u64 x1, .int .i64 x2, .int .i64 x3, .int .i64 x4] 112)) (.slice (some ⟨w'.heap.size, 0, none⟩) 1 1) [(⟨x0', x1, x2, x3, x4⟩ : Mb)]) := HRow
      have HNK : Hid (((nowM (l.take k)) ++ [(⟨x0', x1, x2, x3, x4⟩ : Mb)]).length ≤ 100000) := (show _ ≤ _ by rw [List.length_append]; have := HL.out; simp; omega)
      generalize hnn : nowM (l.take k) = acc at *
      clear hc hm hnn
      by_cases h3 : x3 = -1
      · have HM2 : Hid (nowM (l.take (k + 1)) = acc ++ [(⟨x0', x1, x2, -1, x4⟩ : Mb)]) := (show _ = _ by have := HM.out; simp [on, h3] at this; exact this)
        subst h3
        clear HM
        go_wp2_with (at_builtin; go_must (refine wpList_append_rows ty30 mc_len (by omega) rfl (.tmp 19) (.tmp 25) rfl _ acc rfl (HO.out.alloc _) _ [(⟨x0', x1, x2, -1, x4⟩ : Mb)] rfl (HRow.out wr) (flat_mc_one _) (by have := HNK.out; rw [List.length_append] at this; omega) ?_; intro v3 w3 hr3 hg3 hn3; obtain ⟨a3, q3, hv3, hq3⟩ := slice_of_own hr3; subst hv3))
        go_roundw
        case rel =>
          refine ⟨k + 1, by go_num, by omega, ?_, ?_, ?_⟩
          · exact (balloc HB.out _).grown hg3 (balloc HB.out _).size (fun j hj => HNw.out j hj)
          · rw [HM2.out]
            rw [List.length_append] at hr3 ⊢
            exact hr3
          · intro j hj
            rw [List.length_append] at hn3
            rcases hn3 j hj with r | r
            · exact HNw.out j r
            · have := (balloc HB.out (.cells #[.int .i64 x0', .int .u64 x1, .int .i64 x2, .int .i64 (-1), .int .i64 x4] 112)).size
              omega
        case measure => simp [intOf]; omega
      · have HM2 : Hid (nowM (l.take (k + 1)) = acc) := (show _ = _ by have := HM.out; simp [on, h3] at this; exact this)
        clear HM
        go_wp2
        go_roundw
        case rel =>
          refine ⟨k + 1, by go_num, by omega, HB, ?_, HNw⟩
          rw [HM2.out]
          exact HO
        case measure => simp [intOf]; omega
    · go_wp2
      go_ret
      have e : l.take k = l := List.take_of_length_le (by have := HN.out; omega)
      have := HO.out
      rw [e] at this
      exact ⟨_, rfl, rowF_own mc_len this, (fun j hj => Nat.le_trans HB1.out.size (HNw.out j hj)), bnext HB1.out HB.out⟩
end
end Go.Proofs.YtkoeocghoabmbaaGreat
