/-
  A change as the program's, and as the document's; a state as the document's.
-/
import Derived.Test.YtgoghmabhdkdjaaApp
namespace Go.Proofs.Ytgoghmabhdkdjaa
set_option linter.unusedVariables false
set_option linter.unusedSimpArgs false
set_option synthInstance.maxSize 20000
set_option maxHeartbeats 2000000
set_option maxRecDepth 20000
open Go.RowKit Go.Maps


theorem own12 {w : World} {a b : Value} {c : Cg} {qs : List Wq} (h : CgAt w c a b qs) (hlen : qs.length ≤ 1000) : Calls Try.prog 12 #[cv c a b] w fun r w' => ∃ a', r = .returned (cv c a' b) ∧ CgAt w' c a' b qs ∧ Below w.heap.size w w' := by
  have HC : Hid (∀ w', Below w.heap.size w w' → CgAt w' c a b qs) := fun w' hb => h.below hb
  have hone := h.one
  have HOne : Hid (∀ q, q ∈ qs → ∀ u ∈ flat wq [q], u.oneCell' = true) := fun q hq u hu => by
    have e : flat wq [q] = wq q := by simp [flat]
    rw [e] at hu
    simp [wq] at hu
    rcases hu with rfl | rfl
    · rfl
    · exact (h.rd q hq).one
  have HRow : Hid (∀ w', Below w.heap.size w w' → RowF wq w' a qs) := fun w' hb => h.row.below hb
  have HQ : Hid (∀ q ∈ qs, ∃ x n p, q.2 = .slice x n p) := fun q hq => by
    obtain ⟨x, p, e⟩ := (h.rd q hq).len
    exact ⟨x, _, p, e⟩
  obtain ⟨aa, ca, rfl⟩ := h.row.len
  obtain ⟨ab, cb, rfl⟩ := h.old.len
  have hcap := h.row.caps
  have hc1 : qs.length ≤ ca := hcap.2.1
  have hc2 : ca ≤ 9223372036854775807 := hcap.2.2
  obtain ⟨w1, hw1⟩ : ∃ w1, w1 = ((w.alloc (.cells (cc c (.slice aa qs.length ca) (.slice ab c.o.length cb)).toArray 42)).alloc (.cells #[.int .i64 0, .int .i64 0, .int .u64 0, .int .i64 0, .slice none 0 0, .slice none 0 0] 38)).alloc (.cells (cc c (.slice none 0 0) (.slice ab c.o.length cb)).toArray 38) := ⟨_, rfl⟩
  have HB1 : Hid (Below w.heap.size w w1) := by rw [hw1]; exact balloc (balloc2 _ _ _) _
  have hs1 : w1.heap.size = w.heap.size + 3 := by rw [hw1]; simp
  have X0 : Hid (Blk w1 w.heap.size 42 (cc c (.slice aa qs.length ca) (.slice ab c.o.length cb))) := by rw [hw1]; exact blk3_0 w (cc c (.slice aa qs.length ca) (.slice ab c.o.length cb)) [.int .i64 0, .int .i64 0, .int .u64 0, .int .i64 0, .slice none 0 0, .slice none 0 0] (cc c (.slice none 0 0) (.slice ab c.o.length cb)) 42 38 38
  have X1 : Hid (Blk w1 (w.heap.size + 1) 38 [.int .i64 0, .int .i64 0, .int .u64 0, .int .i64 0, .slice none 0 0, .slice none 0 0]) := by rw [hw1]; exact blk3_1 w (cc c (.slice aa qs.length ca) (.slice ab c.o.length cb)) [.int .i64 0, .int .i64 0, .int .u64 0, .int .i64 0, .slice none 0 0, .slice none 0 0] (cc c (.slice none 0 0) (.slice ab c.o.length cb)) 42 38 38
  have X2 : Hid (Blk w1 (w.heap.size + 2) 38 (cc c (.slice none 0 0) (.slice ab c.o.length cb))) := by rw [hw1]; exact blk3_2 w (cc c (.slice aa qs.length ca) (.slice ab c.o.length cb)) [.int .i64 0, .int .i64 0, .int .u64 0, .int .i64 0, .slice none 0 0, .slice none 0 0] (cc c (.slice none 0 0) (.slice ab c.o.length cb)) 42 38 38
  have HS1 : Hid (w1.heap.size = w.heap.size + 3) := hs1
  obtain ⟨n, hn⟩ : ∃ n, n = qs.length := ⟨_, rfl⟩
  have HN : Hid (n = qs.length) := hn
  obtain ⟨ck, cw, cp, cm, cws, co⟩ := c
  unfold cv cc at *
  dsimp only at *
  obtain ⟨no, hno⟩ : ∃ no, no = co.length := ⟨_, rfl⟩
  rw [← hn] at hc1 HRow HC X0 hw1 hlen ⊢
  rw [← hno] at HC X0 X2 hw1 ⊢
  have HW1 : Hid (w1 = ((w.alloc (.cells #[.int .i64 ck, .int .i64 cw, .int .u64 cp, .int .i64 cm, .slice aa n ca, .slice ab no cb] 42)).alloc (.cells #[.int .i64 0, .int .i64 0, .int .u64 0, .int .i64 0, .slice none 0 0, .slice none 0 0] 38)).alloc (.cells #[.int .i64 ck, .int .i64 cw, .int .u64 cp, .int .i64 cm, .slice none 0 0, .slice ab no cb] 38)) := hw1
  clear h hcap hn hno hw1 hs1 hone
  go_enter Try.func12, Try.ntmps12
  go_upto_region 2 with fail
  rw [← HW1.out]
  go_wp2
  go_loopw [4] (fun i wr => ∃ (k : Nat) (ov : Value), i = .int .i64 k ∧ k ≤ n ∧ Hid (Below w.heap.size w wr) ∧ Hid (Blk wr w.heap.size 42 [.int .i64 ck, .int .i64 cw, .int .u64 cp, .int .i64 cm, .slice aa n ca, .slice ab no cb]) ∧ Hid (Blk wr (w.heap.size + 1) 38 [.int .i64 0, .int .i64 0, .int .u64 0, .int .i64 0, .slice none 0 0, .slice none 0 0]) ∧ Hid (Blk wr (w.heap.size + 2) 38 [.int .i64 ck, .int .i64 cw, .int .u64 cp, .int .i64 cm, ov, .slice ab no cb]) ∧ Hid (wr.ownsRow 0 81 2 ov (qs.take k).length (flat wq (qs.take k))) ∧ Hid (∀ j, ov.ownBlock = some j → w.heap.size + 3 ≤ j)) (fun i _ => n - (intOf i).toNat)
  case atStart => exact ⟨0, .slice none 0 0, rfl, by omega, HB1, X0, X1, X2, World.ownsRow_nil _ _ _ _, (fun j hj => by cases hj)⟩
  case round =>
    obtain ⟨k, ov, rfl, hk, HB, Y0, Y1, Y2, HO, HNw⟩ := hrel
    have hkq : (qs.take k).length = k := by rw [List.length_take]; have := HN.out; omega
    have y4 := Y0.out.cell 4 _ rfl
    by_cases hki : k < n
    · obtain ⟨q, hq⟩ : ∃ q, qs[k]? = some q := ⟨_, List.getElem?_eq_getElem (by have := HN.out; omega)⟩
      have HTk : Hid (qs.take (k + 1) = qs.take k ++ [q]) := (show _ = _ by
        have hk' := List.getElem?_eq_some_iff.1 hq
        rw [List.take_succ_eq_append_getElem hk'.1, hk'.2])
      obtain ⟨g, off, ea, hr⟩ := (HRow.out wr HB.out).at wq_len hq
      obtain ⟨g', off', ea', hr'⟩ := (HRow.out w (Below.refl _ _)).at wq_len hq
      have hg : g < w.heap.size := by
        rw [ea] at ea'
        cases ea'
        exact World.block_lt_of_cell? w _ (hr' 0 _ rfl)
      subst ea
      have e0 := hr 0 _ rfl
      have e1 := hr 1 _ rfl
      simp only [Nat.add_zero] at e0
      have HO1 : Hid (∀ u ∈ flat wq [q], u.oneCell' = true) := HOne.out q (List.mem_of_getElem? hq)
      have HRq : Hid (∀ w' : World, RowF wq (w'.alloc (.cells (wq q).toArray 81)) (.slice (some ⟨w'.heap.size, 0, none⟩) 1 1) [q]) := fun w' => rowF_one w' q 81
      obtain ⟨xq, nq, pq, hq2⟩ := HQ.out q (List.mem_of_getElem? hq)
      obtain ⟨⟨qw, qb⟩, qv⟩ := q
      dsimp only at hq2
      subst hq2
      obtain ⟨ao, co2, hov, hcov⟩ := slice_of_own HO.out
      subst hov
      rw [hkq] at HO HNw Y2
      obtain ⟨B, hB⟩ : ∃ B, B = w.heap.size + 3 := ⟨_, rfl⟩
      have HBs : Hid (B ≤ wr.heap.size) := by rw [hB]; exact (show _ ≤ _ by have := Y2.out.lt; omega)
      have ne : Nonempty (WIn (fun w' => Below B wr w')) := ⟨⟨wr, Below.refl _ _⟩⟩
      have z0 := fun z : WIn (fun w' => Below B wr w') => (z.ok.cell (p := ⟨w.heap.size, 4, none⟩) (show w.heap.size < B by omega)).trans (Y0.out.cell 4 _ rfl)
      have z2 := fun z : WIn (fun w' => Below B wr w') => (z.ok.cell (p := ⟨w.heap.size + 2, 4, none⟩) (show w.heap.size + 2 < B by omega)).trans (Y2.out.cell 4 _ rfl)
      have z3 := fun z : WIn (fun w' => Below B wr w') => (z.ok.cell (p := ⟨g, off + k * 2, none⟩) (show g < B by omega)).trans e0
      have z4 := fun z : WIn (fun w' => Below B wr w') => (z.ok.cell (p := ⟨g, off + k * 2 + 1, none⟩) (show g < B by omega)).trans e1
      have HD : Hid (Below B wr wr.drew) := (show Below _ _ _ from (Below.refl _ _).drew)
      have HOd : Hid (wr.drew.ownsRow 0 81 2 (.slice ao k co2) k (flat wq (qs.take k))) := HO.out
      have HFin : Hid (∀ w5 v5, Below B wr w5 → w5.ownsRow 0 81 2 v5 (qs.take k ++ [((⟨qw, qb⟩ : Wp), (Value.slice xq nq pq))]).length (flat wq (qs.take k ++ [((⟨qw, qb⟩ : Wp), (Value.slice xq nq pq))])) → (∀ j, v5.ownBlock = some j → B ≤ j) → 
          Below w.heap.size w (w5.setCell ⟨w.heap.size + 2, 4, none⟩ v5) ∧ Blk (w5.setCell ⟨w.heap.size + 2, 4, none⟩ v5) w.heap.size 42 [.int .i64 ck, .int .i64 cw, .int .u64 cp, .int .i64 cm, .slice (some ⟨g, off, none⟩) n ca, .slice ab no cb] ∧ Blk (w5.setCell ⟨w.heap.size + 2, 4, none⟩ v5) (w.heap.size + 1) 38 [.int .i64 0, .int .i64 0, .int .u64 0, .int .i64 0, .slice none 0 0, .slice none 0 0] ∧ Blk (w5.setCell ⟨w.heap.size + 2, 4, none⟩ v5) (w.heap.size + 2) 38 [.int .i64 ck, .int .i64 cw, .int .u64 cp, .int .i64 cm, v5, .slice ab no cb] ∧ (w5.setCell ⟨w.heap.size + 2, 4, none⟩ v5).ownsRow 0 81 2 v5 (qs.take (k + 1)).length (flat wq (qs.take (k + 1))) ∧ (∀ j, v5.ownBlock = some j → w.heap.size + 3 ≤ j)) := fun w5 v5 h5 ho hn5 => by
        have hY2 := Y2.out.block (h5.block (w.heap.size + 2) (by omega))
        refine ⟨(HB.out.trans (h5.mono (by omega))).setCell (by simp) _, (Y0.out.block (h5.block w.heap.size (by omega))).other _ _ (by omega), (Y1.out.block (h5.block (w.heap.size + 1) (by omega))).other _ _ (by omega), hY2.set 4 v5, ?_, fun j hj => by have := hn5 j hj; omega⟩
        rw [HTk.out]
        exact ownsRow_block ho (fun j hj => Below.heap_setCell _ _ _ _ (by have := hn5 j hj; simp; omega))
      have HRq2 : Hid (∀ w' : World, RowF wq (w'.alloc (.cells #[.int .i64 qw, .slice xq nq pq] 81)) (.slice (some ⟨w'.heap.size, 0, none⟩) 1 1) [((⟨qw, qb⟩ : Wp), (Value.slice xq nq pq))]) := HRq
      have HFz : Hid (∀ w5, Below B wr w5 → w5.cell? ⟨w.heap.size + 2, 4, none⟩ = some (.slice ao k co2) ∧ w5.frozen? ⟨w.heap.size + 2, 4, none⟩ = false) := fun w5 h5 => 
        have hY2 := Y2.out.block (h5.block (w.heap.size + 2) (by omega))
        ⟨hY2.cell 4 _ rfl, hY2.frozen 4⟩
      have HNw2 : Hid (∀ j, (Value.slice ao k co2).ownBlock = some j → B ≤ j) := fun j hj => by have := HNw.out j hj; omega
      clear hr hr' ea' hq e0 e1 HRq hB
      go_upto_region 5 with fail
      refine wp_region_treeZ (C := fun w' => ∃ z : WIn (fun w' => Below B wr w'), w' = z.w) 18 (.still 0 (.still 1 (.still 2 (.still 3 (.still 4 (.still 5 (.still 6 (.still 7 (.still 8 (.still 9 (.still 10 (.still 11 (.still 12 (.still 13 (.still 14 (.one 15 (.one 16 (.still 17 .done)))))))))))))))))) rfl (by kernel_rfl) (by kernel_rfl) ⟨⟨wr.drew, HD.out⟩, rfl⟩ ?_
      iterate 15 (refine tree_still rfl rfl ?_; go_big_quiet_step (fail); refine wpQuiet_nil ?_)
      refine tree_one rfl rfl ?_
      go_simp
      have HD2 : Hid (Below B wr (wr.drew.alloc (.cells #[.int .i64 qw, .slice xq nq pq] 81))) := HD.out.alloc HBs.out _
      have HOd2 : Hid ((wr.drew.alloc (.cells #[.int .i64 qw, .slice xq nq pq] 81)).ownsRow 0 81 2 (.slice ao k co2) (qs.take k).length (flat wq (qs.take k))) := by rw [hkq]; exact HOd.out.alloc _
      refine ⟨⟨⟨_, HD2.out⟩, rfl⟩, ?_⟩
      go_simp
      refine tree_one rfl rfl ?_
      refine wp_of_list rfl ?_
      refine wpList_append_rows ty35 wq_len (by omega) rfl (.tmp 24) (.tmp 38) rfl _ (qs.take k) rfl HOd2.out _ [((⟨qw, qb⟩ : Wp), (Value.slice xq nq pq))] rfl (HRq2.out wr.drew) HO1.out (by simp; omega) ?_
      intro v5 w5 k1 k2 k3
      have hb5 : Below B wr w5 := HD2.out.grown k2 (Nat.le_trans HBs.out (by simp)) (fun j hj => HNw2.out j hj)
      have hn5 : ∀ j, v5.ownBlock = some j → B ≤ j := fun j hj => by
        rcases k3 j hj with r | r
        · exact HNw2.out j r
        · have := HBs.out; simp at r; omega
      obtain ⟨a5, q5, hv5, hq5⟩ := slice_of_own k1
      have HF5 := HFin.out w5 v5 hb5 k1 hn5
      have hlz : (qs.take k ++ [((⟨qw, qb⟩ : Wp), (Value.slice xq nq pq))]).length = k + 1 := by rw [List.length_append, hkq]; rfl
      rw [hlz] at hv5
      subst hv5
      obtain ⟨f1, f2, f3, f4, f5, f6⟩ := HF5
      have G1 : Hid _ := f1
      have HF1 : Hid (Below w.heap.size w (w5.setCell ⟨w.heap.size + 2, 4, none⟩ (.slice a5 (k + 1) q5))) := f1
      have HF2 : Hid (Blk (w5.setCell ⟨w.heap.size + 2, 4, none⟩ (.slice a5 (k + 1) q5)) w.heap.size 42 [.int .i64 ck, .int .i64 cw, .int .u64 cp, .int .i64 cm, .slice (some ⟨g, off, none⟩) n ca, .slice ab no cb]) := f2
      have HF3 : Hid (Blk (w5.setCell ⟨w.heap.size + 2, 4, none⟩ (.slice a5 (k + 1) q5)) (w.heap.size + 1) 38 [.int .i64 0, .int .i64 0, .int .u64 0, .int .i64 0, .slice none 0 0, .slice none 0 0]) := f3
      have HF4 : Hid (Blk (w5.setCell ⟨w.heap.size + 2, 4, none⟩ (.slice a5 (k + 1) q5)) (w.heap.size + 2) 38 [.int .i64 ck, .int .i64 cw, .int .u64 cp, .int .i64 cm, .slice a5 (k + 1) q5, .slice ab no cb]) := f4
      have HF5 : Hid ((w5.setCell ⟨w.heap.size + 2, 4, none⟩ (.slice a5 (k + 1) q5)).ownsRow 0 81 2 (.slice a5 (k + 1) q5) (qs.take (k + 1)).length (flat wq (qs.take (k + 1)))) := f5
      have HF6 : Hid (∀ j, (Value.slice a5 (k + 1) q5).ownBlock = some j → w.heap.size + 3 ≤ j) := f6
      have l0 := (HFz.out w5 hb5).1
      have l1 := (HFz.out w5 hb5).2
      clear k1 k2 k3 hq5 f1 f2 f3 f4 f5 f6 G1
      refine ⟨rfl, ⟨⟨_, hb5⟩, rfl⟩, ?_⟩
      go_simp
      refine tree_still rfl rfl ?_
      go_big_quiet_step (fail)
      refine wpQuiet_nil ?_
      refine tree_done ?_
      refine ⟨rfl, ?_⟩
      go_simp
      clear z0 z2 z3 z4 ne hkq
      go_wp2
      go_roundw
      case rel => exact ⟨k + 1, _, by go_num, by omega, HF1, HF2, HF3, HF4, HF5, HF6⟩
      case measure => simp [intOf]; omega
    · have hkn : k = n := by omega
      have hall : qs.take k = qs := List.take_of_length_le (by have := HN.out; omega)
      obtain ⟨ao, co2, hov, hcov⟩ := slice_of_own HO.out
      subst hov
      have HR : Hid (RowF wq wr (.slice ao (qs.take k).length co2) qs) := (by
        have := rowF_own wq_len HO.out
        rw [hall] at this ⊢
        exact this)
      have HNb : Hid (∀ j, (Value.slice ao (qs.take k).length co2).ownBlock = some j → w.heap.size + 3 ≤ j) := HNw.out
      rw [hkq] at HR HNb Y2
      have HKey : Hid (∀ W, Below w.heap.size w W → RowF wq W (.slice ao k co2) qs → CgAt W ⟨ck, cw, cp, cm, cws, co⟩ (.slice ao k co2) (.slice ab no cb) qs) := fun W hW hr =>
        have hC := HC.out W hW
        ⟨hr, hC.rd, hC.ok, hC.ws, hC.old, hC.k, hC.w, hC.p, hC.l⟩
      have u0 := Y2.out.cell 0 _ rfl; have u1 := Y2.out.cell 1 _ rfl; have u2 := Y2.out.cell 2 _ rfl; have u3 := Y2.out.cell 3 _ rfl; have u4 := Y2.out.cell 4 _ rfl; have u5 := Y2.out.cell 5 _ rfl
      have v0 := Y1.out.cell 0 _ rfl; have v1 := Y1.out.cell 1 _ rfl; have v2 := Y1.out.cell 2 _ rfl; have v3 := Y1.out.cell 3 _ rfl; have v4 := Y1.out.cell 4 _ rfl; have v5 := Y1.out.cell 5 _ rfl
      have x0 := Y1.out.frozen 0; have x1 := Y1.out.frozen 1; have x2 := Y1.out.frozen 2; have x3 := Y1.out.frozen 3; have x4 := Y1.out.frozen 4; have x5 := Y1.out.frozen 5
      clear hall hcov HO HNw hkq
      go_wp2
      refine bodyPost_ret (v := .agg #[.int .i64 ck, .int .i64 cw, .int .u64 cp, .int .i64 cm, .slice ao k co2, .slice ab no cb]) ?_ rfl ⟨.slice ao k co2, rfl, ?_, ?_⟩
      · rw [results_cell1 rfl]
        go_simp
      · refine HKey.out _ ?_ ?_
        · iterate 6 refine Below.setCell ?_ (by simp) _
          exact HB.out
        refine HR.out.blocks fun j hj hlt => ?_
        have := HNb.out j hj
        iterate 6 rw [Below.heap_setCell _ _ _ _ (by simp; omega)]
      · iterate 6 refine Below.setCell ?_ (by simp) _
        exact HB.out
end Go.Proofs.Ytgoghmabhdkdjaa
