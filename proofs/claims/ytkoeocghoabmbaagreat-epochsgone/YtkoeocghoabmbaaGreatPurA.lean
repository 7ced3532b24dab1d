/-
  A change as the program's, and as the document's; a state as the document's.
  A state as the document's.
  Lists of changes as they came in; whether they are light; whether states are the same.
  States that are the same.
  A variable that holds a state; what is asked of the chapter's example.
  What Apply does, by lists: members stay in order, and by who they are; whoever was revoked stays so.
  The document's New, Find, May, who.
  The document's Now, and a state with a member.
-/
import Derived.Test.YtkoeocghoabmbaaGreatApp
import Derived.Laws.StructEq
namespace Go.Proofs.YtkoeocghoabmbaaGreat
section
set_option linter.unusedVariables false
set_option linter.unusedSimpArgs false
set_option synthInstance.maxSize 20000
set_option maxHeartbeats 2000000
set_option maxRecDepth 20000
open Go.RowKit Go.Maps


theorem own12 {w : World} {a b : Value} {c : Cg} {qs : List Wq} (h : CgAt w c a b qs) (hlen : qs.length ≤ 1000) : Calls Tryz.prog 31 #[cv c a b] w fun r w' => ∃ a', r = .returned (cv c a' b) ∧ CgAt w' c a' b qs ∧ Below w.heap.size w w' := by
  have HC : Hid (∀ w', Below w.heap.size w w' → CgAt w' c a b qs) := fun w' hb => h.below hb
  have hone := h.one
  have HOne : Hid (∀ q, q ∈ qs → ∀ u ∈ flat wq [q], u.oneCell' = true) := fun q hq u hu => by
    have e : flat wq [q] = wq q := by simp [flat]
    rw [e] at hu
    simp [wq] at hu
    rcases hu with rfl | rfl
    · rfl
    · exact (h.rd q hq).one
  have HRow : Hid (∀ w', Below w.heap.size w w' → RowF wq w' a qs) := fun w' hb => h.row.below hb
  have HQ : Hid (∀ q ∈ qs, ∃ x n p, q.2 = .slice x n p) := fun q hq => by
    obtain ⟨x, p, e⟩ := (h.rd q hq).len
    exact ⟨x, _, p, e⟩
  obtain ⟨aa, ca, rfl⟩ := h.row.len
  obtain ⟨ab, cb, rfl⟩ := h.old.len
  have hcap := h.row.caps
  have hc1 : qs.length ≤ ca := hcap.2.1
  have hc2 : ca ≤ 9223372036854775807 := hcap.2.2
  obtain ⟨w1, hw1⟩ : ∃ w1, w1 = ((w.alloc (.cells (cc c (.slice aa qs.length ca) (.slice ab c.o.length cb)).toArray 67)).alloc (.cells #[.int .i64 0, .int .i64 0, .int .u64 0, .int .i64 0, .slice none 0 0, .slice none 0 0] 59)).alloc (.cells (cc c (.slice none 0 0) (.slice ab c.o.length cb)).toArray 59) := ⟨_, rfl⟩
  have HB1 : Hid (Below w.heap.size w w1) := by rw [hw1]; exact balloc (balloc2 _ _ _) _
  have hs1 : w1.heap.size = w.heap.size + 3 := by rw [hw1]; simp
  have X0 : Hid (Blk w1 w.heap.size 67 (cc c (.slice aa qs.length ca) (.slice ab c.o.length cb))) := by rw [hw1]; exact blk3_0 w (cc c (.slice aa qs.length ca) (.slice ab c.o.length cb)) [.int .i64 0, .int .i64 0, .int .u64 0, .int .i64 0, .slice none 0 0, .slice none 0 0] (cc c (.slice none 0 0) (.slice ab c.o.length cb)) 67 59 59
  have X1 : Hid (Blk w1 (w.heap.size + 1) 59 [.int .i64 0, .int .i64 0, .int .u64 0, .int .i64 0, .slice none 0 0, .slice none 0 0]) := by rw [hw1]; exact blk3_1 w (cc c (.slice aa qs.length ca) (.slice ab c.o.length cb)) [.int .i64 0, .int .i64 0, .int .u64 0, .int .i64 0, .slice none 0 0, .slice none 0 0] (cc c (.slice none 0 0) (.slice ab c.o.length cb)) 67 59 59
  have X2 : Hid (Blk w1 (w.heap.size + 2) 59 (cc c (.slice none 0 0) (.slice ab c.o.length cb))) := by rw [hw1]; exact blk3_2 w (cc c (.slice aa qs.length ca) (.slice ab c.o.length cb)) [.int .i64 0, .int .i64 0, .int .u64 0, .int .i64 0, .slice none 0 0, .slice none 0 0] (cc c (.slice none 0 0) (.slice ab c.o.length cb)) 67 59 59
  have HS1 : Hid (w1.heap.size = w.heap.size + 3) := hs1
  obtain ⟨n, hn⟩ : ∃ n, n = qs.length := ⟨_, rfl⟩
  have HN : Hid (n = qs.length) := hn
  obtain ⟨ck, cw, cp, cm, cws, co⟩ := c
  unfold cv cc at *
  dsimp only at *
  obtain ⟨no, hno⟩ : ∃ no, no = co.length := ⟨_, rfl⟩
  rw [← hn] at hc1 HRow HC X0 hw1 hlen ⊢
  rw [← hno] at HC X0 X2 hw1 ⊢
  have HW1 : Hid (w1 = ((w.alloc (.cells #[.int .i64 ck, .int .i64 cw, .int .u64 cp, .int .i64 cm, .slice aa n ca, .slice ab no cb] 67)).alloc (.cells #[.int .i64 0, .int .i64 0, .int .u64 0, .int .i64 0, .slice none 0 0, .slice none 0 0] 59)).alloc (.cells #[.int .i64 ck, .int .i64 cw, .int .u64 cp, .int .i64 cm, .slice none 0 0, .slice ab no cb] 59)) := hw1
  clear h hcap hn hno hw1 hs1 hone
  go_enter Tryz.func31, Tryz.ntmps31
  go_upto_region 2 with fail
  rw [← HW1.out]
  go_wp2
  go_loopw [4] (fun i wr => ∃ (k : Nat) (ov : Value), i = .int .i64 k ∧ k ≤ n ∧ Hid (Below w.heap.size w wr) ∧ Hid (Blk wr w.heap.size 67 [.int .i64 ck, .int .i64 cw, .int .u64 cp, .int .i64 cm, .slice aa n ca, .slice ab no cb]) ∧ Hid (Blk wr (w.heap.size + 1) 59 [.int .i64 0, .int .i64 0, .int .u64 0, .int .i64 0, .slice none 0 0, .slice none 0 0]) ∧ Hid (Blk wr (w.heap.size + 2) 59 [.int .i64 ck, .int .i64 cw, .int .u64 cp, .int .i64 cm, ov, .slice ab no cb]) ∧ Hid (wr.ownsRow 0 76 2 ov (qs.take k).length (flat wq (qs.take k))) ∧ Hid (∀ j, ov.ownBlock = some j → w.heap.size + 3 ≤ j)) (fun i _ => n - (intOf i).toNat)
  case atStart => exact ⟨0, .slice none 0 0, rfl, by omega, HB1, X0, X1, X2, World.ownsRow_nil _ _ _ _, (fun j hj => by cases hj)⟩
  case round =>
    obtain ⟨k, ov, rfl, hk, HB, Y0, Y1, Y2, HO, HNw⟩ := hrel
    have hkq : (qs.take k).length = k := by rw [List.length_take]; have := HN.out; omega
    have y4 := Y0.out.cell 4 _ rfl
    by_cases hki : k < n
    · obtain ⟨q, hq⟩ : ∃ q, qs[k]? = some q := ⟨_, List.getElem?_eq_getElem (by have := HN.out; omega)⟩
      have HTk : Hid (qs.take (k + 1) = qs.take k ++ [q]) := (show _ = _ by
        have hk' := List.getElem?_eq_some_iff.1 hq
        rw [List.take_succ_eq_append_getElem hk'.1, hk'.2])
      obtain ⟨g, off, ea, hr⟩ := (HRow.out wr HB.out).at wq_len hq
      obtain ⟨g', off', ea', hr'⟩ := (HRow.out w (Below.refl _ _)).at wq_len hq
      have hg : g < w.heap.size := by
        rw [ea] at ea'
        cases ea'
        exact World.block_lt_of_cell? w _ (hr' 0 _ rfl)
      subst ea
      have e0 := hr 0 _ rfl
      have e1 := hr 1 _ rfl
      simp only [Nat.add_zero] at e0
      have HO1 : Hid (∀ u ∈ flat wq [q], u.oneCell' = true) := HOne.out q (List.mem_of_getElem? hq)
      have HRq : Hid (∀ w' : World, RowF wq (w'.alloc (.cells (wq q).toArray 76)) (.slice (some ⟨w'.heap.size, 0, none⟩) 1 1) [q]) := fun w' => rowF_one w' q 76
      obtain ⟨xq, nq, pq, hq2⟩ := HQ.out q (List.mem_of_getElem? hq)
      obtain ⟨⟨qw, qb⟩, qv⟩ := q
      dsimp only at hq2
      subst hq2
      obtain ⟨ao, co2, hov, hcov⟩ := slice_of_own HO.out
      subst hov
      rw [hkq] at HO HNw Y2
      obtain ⟨B, hB⟩ : ∃ B, B = w.heap.size + 3 := ⟨_, rfl⟩
      have HBs : Hid (B ≤ wr.heap.size) := by rw [hB]; exact (show _ ≤ _ by have := Y2.out.lt; omega)
      have ne : Nonempty (WIn (fun w' => Below B wr w')) := ⟨⟨wr, Below.refl _ _⟩⟩
      have z0 := fun z : WIn (fun w' => Below B wr w') => (z.ok.cell (p := ⟨w.heap.size, 4, none⟩) (show w.heap.size < B by omega)).trans (Y0.out.cell 4 _ rfl)
      have z2 := fun z : WIn (fun w' => Below B wr w') => (z.ok.cell (p := ⟨w.heap.size + 2, 4, none⟩) (show w.heap.size + 2 < B by omega)).trans (Y2.out.cell 4 _ rfl)
      have z3 := fun z : WIn (fun w' => Below B wr w') => (z.ok.cell (p := ⟨g, off + k * 2, none⟩) (show g < B by omega)).trans e0
      have z4 := fun z : WIn (fun w' => Below B wr w') => (z.ok.cell (p := ⟨g, off + k * 2 + 1, none⟩) (show g < B by omega)).trans e1
      have HD : Hid (Below B wr wr.drew) := (show Below _ _ _ from (Below.refl _ _).drew)
      have HOd : Hid (wr.drew.ownsRow 0 76 2 (.slice ao k co2) k (flat wq (qs.take k))) := HO.out
      have HFin : Hid (∀ w5 v5, Below B wr w5 → w5.ownsRow 0 76 2 v5 (qs.take k ++ [((⟨qw, qb⟩ : Wp), (Value.slice xq nq pq))]).length (flat wq (qs.take k ++ [((⟨qw, qb⟩ : Wp), (Value.slice xq nq pq))])) → (∀ j, v5.ownBlock = some j → B ≤ j) → 
          Below w.heap.size w (w5.setCell ⟨w.heap.size + 2, 4, none⟩ v5) ∧ Blk (w5.setCell ⟨w.heap.size + 2, 4, none⟩ v5) w.heap.size 67 [.int .i64 ck, .int .i64 cw, .int .u64 cp, .int .i64 cm, .slice (some ⟨g, off, none⟩) n ca, .slice ab no cb] ∧ Blk (w5.setCell ⟨w.heap.size + 2, 4, none⟩ v5) (w.heap.size + 1) 59 [.int .i64 0, .int .i64 0, .int .u64 0, .int .i64 0, .slice none 0 0, .slice none 0 0] ∧ Blk (w5.setCell ⟨w.heap.size + 2, 4, none⟩ v5) (w.heap.size + 2) 59 [.int .i64 ck, .int .i64 cw, .int .u64 cp, .int .i64 cm, v5, .slice ab no cb] ∧ (w5.setCell ⟨w.heap.size + 2, 4, none⟩ v5).ownsRow 0 76 2 v5 (qs.take (k + 1)).length (flat wq (qs.take (k + 1))) ∧ (∀ j, v5.ownBlock = some j → w.heap.size + 3 ≤ j)) := fun w5 v5 h5 ho hn5 => by
        have hY2 := Y2.out.block (h5.block (w.heap.size + 2) (by omega))
        refine ⟨(HB.out.trans (h5.mono (by omega))).setCell (by simp) _, (Y0.out.block (h5.block w.heap.size (by omega))).other _ _ (by omega), (Y1.out.block (h5.block (w.heap.size + 1) (by omega))).other _ _ (by omega), hY2.set 4 v5, ?_, fun j hj => by have := hn5 j hj; omega⟩
        rw [HTk.out]
        exact ownsRow_block ho (fun j hj => Below.heap_setCell _ _ _ _ (by have := hn5 j hj; simp; omega))
      have HRq2 : Hid (∀ w' : World, RowF wq (w'.alloc (.cells #[.int .i64 qw, .slice xq nq pq] 76)) (.slice (some ⟨w'.heap.size, 0, none⟩) 1 1) [((⟨qw, qb⟩ : Wp), (Value.slice xq nq pq))]) := HRq
      have HFz : Hid (∀ w5, Below B wr w5 → w5.cell? ⟨w.heap.size + 2, 4, none⟩ = some (.slice ao k co2) ∧ w5.frozen? ⟨w.heap.size + 2, 4, none⟩ = false) := fun w5 h5 => 
        have hY2 := Y2.out.block (h5.block (w.heap.size + 2) (by omega))
        ⟨hY2.cell 4 _ rfl, hY2.frozen 4⟩
      have HNw2 : Hid (∀ j, (Value.slice ao k co2).ownBlock = some j → B ≤ j) := fun j hj => by have := HNw.out j hj; omega
      clear hr hr' ea' hq e0 e1 HRq hB
      go_upto_region 5 with fail
      refine wp_region_treeZ (C := fun w' => ∃ z : WIn (fun w' => Below B wr w'), w' = z.w) 18 (.still 0 (.still 1 (.still 2 (.still 3 (.still 4 (.still 5 (.still 6 (.still 7 (.still 8 (.still 9 (.still 10 (.still 11 (.still 12 (.still 13 (.still 14 (.one 15 (.one 16 (.still 17 .done)))))))))))))))))) rfl (by kernel_rfl) (by kernel_rfl) ⟨⟨wr.drew, HD.out⟩, rfl⟩ ?_
      iterate 15 (refine tree_still rfl rfl ?_; go_big_quiet_step (fail); refine wpQuiet_nil ?_)
      refine tree_one rfl rfl ?_
      go_simp
      have HD2 : Hid (Below B wr (wr.drew.alloc (.cells #[.int .i64 qw, .slice xq nq pq] 76))) := HD.out.alloc HBs.out _
      have HOd2 : Hid ((wr.drew.alloc (.cells #[.int .i64 qw, .slice xq nq pq] 76)).ownsRow 0 76 2 (.slice ao k co2) (qs.take k).length (flat wq (qs.take k))) := by rw [hkq]; exact HOd.out.alloc _
      refine ⟨⟨⟨_, HD2.out⟩, rfl⟩, ?_⟩
      go_simp
      refine tree_one rfl rfl ?_
      refine wp_of_list rfl ?_
      refine wpList_append_rows ty35 wq_len (by omega) rfl (.tmp 24) (.tmp 38) rfl _ (qs.take k) rfl HOd2.out _ [((⟨qw, qb⟩ : Wp), (Value.slice xq nq pq))] rfl (HRq2.out wr.drew) HO1.out (by simp; omega) ?_
      intro v5 w5 k1 k2 k3
      have hb5 : Below B wr w5 := HD2.out.grown k2 (Nat.le_trans HBs.out (by simp)) (fun j hj => HNw2.out j hj)
      have hn5 : ∀ j, v5.ownBlock = some j → B ≤ j := fun j hj => by
        rcases k3 j hj with r | r
        · exact HNw2.out j r
        · have := HBs.out; simp at r; omega
      obtain ⟨a5, q5, hv5, hq5⟩ := slice_of_own k1
      have HF5 := HFin.out w5 v5 hb5 k1 hn5
      have hlz : (qs.take k ++ [((⟨qw, qb⟩ : Wp), (Value.slice xq nq pq))]).length = k + 1 := by rw [List.length_append, hkq]; rfl
      rw [hlz] at hv5
      subst hv5
      obtain ⟨f1, f2, f3, f4, f5, f6⟩ := HF5
      have G1 : Hid _ := f1
      have HF1 : Hid (Below w.heap.size w (w5.setCell ⟨w.heap.size + 2, 4, none⟩ (.slice a5 (k + 1) q5))) := f1
      have HF2 : Hid (Blk (w5.setCell ⟨w.heap.size + 2, 4, none⟩ (.slice a5 (k + 1) q5)) w.heap.size 67 [.int .i64 ck, .int .i64 cw, .int .u64 cp, .int .i64 cm, .slice (some ⟨g, off, none⟩) n ca, .slice ab no cb]) := f2
      have HF3 : Hid (Blk (w5.setCell ⟨w.heap.size + 2, 4, none⟩ (.slice a5 (k + 1) q5)) (w.heap.size + 1) 59 [.int .i64 0, .int .i64 0, .int .u64 0, .int .i64 0, .slice none 0 0, .slice none 0 0]) := f3
      have HF4 : Hid (Blk (w5.setCell ⟨w.heap.size + 2, 4, none⟩ (.slice a5 (k + 1) q5)) (w.heap.size + 2) 59 [.int .i64 ck, .int .i64 cw, .int .u64 cp, .int .i64 cm, .slice a5 (k + 1) q5, .slice ab no cb]) := f4
      have HF5 : Hid ((w5.setCell ⟨w.heap.size + 2, 4, none⟩ (.slice a5 (k + 1) q5)).ownsRow 0 76 2 (.slice a5 (k + 1) q5) (qs.take (k + 1)).length (flat wq (qs.take (k + 1)))) := f5
      have HF6 : Hid (∀ j, (Value.slice a5 (k + 1) q5).ownBlock = some j → w.heap.size + 3 ≤ j) := f6
      have l0 := (HFz.out w5 hb5).1
      have l1 := (HFz.out w5 hb5).2
      clear k1 k2 k3 hq5 f1 f2 f3 f4 f5 f6 G1
      refine ⟨rfl, ⟨⟨_, hb5⟩, rfl⟩, ?_⟩
      go_simp
      refine tree_still rfl rfl ?_
      go_big_quiet_step (fail)
      refine wpQuiet_nil ?_
      refine tree_done ?_
      refine ⟨rfl, ?_⟩
      go_simp
      clear z0 z2 z3 z4 ne hkq
      go_wp2
      go_roundw
      case rel => exact ⟨k + 1, _, by go_num, by omega, HF1, HF2, HF3, HF4, HF5, HF6⟩
      case measure => simp [intOf]; omega
    · have hkn : k = n := by omega
      have hall : qs.take k = qs := List.take_of_length_le (by have := HN.out; omega)
      obtain ⟨ao, co2, hov, hcov⟩ := slice_of_own HO.out
      subst hov
      have HR : Hid (RowF wq wr (.slice ao (qs.take k).length co2) qs) := (by
        have := rowF_own wq_len HO.out
        rw [hall] at this ⊢
        exact this)
      have HNb : Hid (∀ j, (Value.slice ao (qs.take k).length co2).ownBlock = some j → w.heap.size + 3 ≤ j) := HNw.out
      rw [hkq] at HR HNb Y2
      have HKey : Hid (∀ W, Below w.heap.size w W → RowF wq W (.slice ao k co2) qs → CgAt W ⟨ck, cw, cp, cm, cws, co⟩ (.slice ao k co2) (.slice ab no cb) qs) := fun W hW hr =>
        have hC := HC.out W hW
        ⟨hr, hC.rd, hC.ok, hC.ws, hC.old, hC.k, hC.w, hC.p, hC.l⟩
      have u0 := Y2.out.cell 0 _ rfl; have u1 := Y2.out.cell 1 _ rfl; have u2 := Y2.out.cell 2 _ rfl; have u3 := Y2.out.cell 3 _ rfl; have u4 := Y2.out.cell 4 _ rfl; have u5 := Y2.out.cell 5 _ rfl
      have v0 := Y1.out.cell 0 _ rfl; have v1 := Y1.out.cell 1 _ rfl; have v2 := Y1.out.cell 2 _ rfl; have v3 := Y1.out.cell 3 _ rfl; have v4 := Y1.out.cell 4 _ rfl; have v5 := Y1.out.cell 5 _ rfl
      have x0 := Y1.out.frozen 0; have x1 := Y1.out.frozen 1; have x2 := Y1.out.frozen 2; have x3 := Y1.out.frozen 3; have x4 := Y1.out.frozen 4; have x5 := Y1.out.frozen 5
      clear hall hcov HO HNw hkq
      go_wp2
      refine bodyPost_ret (v := .agg #[.int .i64 ck, .int .i64 cw, .int .u64 cp, .int .i64 cm, .slice ao k co2, .slice ab no cb]) ?_ rfl ⟨.slice ao k co2, rfl, ?_, ?_⟩
      · rw [results_cell1 rfl]
        go_simp
      · refine HKey.out _ ?_ ?_
        · iterate 6 refine Below.setCell ?_ (by simp) _
          exact HB.out
        refine HR.out.blocks fun j hj hlt => ?_
        have := HNb.out j hj
        iterate 6 rw [Below.heap_setCell _ _ _ _ (by simp; omega)]
      · iterate 6 refine Below.setCell ?_ (by simp) _
        exact HB.out
end

section
set_option linter.unusedVariables false
set_option linter.unusedSimpArgs false
set_option synthInstance.maxSize 20000
set_option maxHeartbeats 2000000
set_option maxRecDepth 20000
open Go.RowKit Go.Maps
end

section
set_option linter.unusedVariables false
set_option linter.unusedSimpArgs false
set_option synthInstance.maxSize 20000
set_option maxHeartbeats 2000000
set_option maxRecDepth 20000
open Go.RowKit Go.Maps

abbrev Cq := Cg × Value × Value
def cqf (q : Cq) : List Value := cc q.1 q.2.1 q.2.2
theorem cqf_len (q : Cq) : (cqf q).length = 6 := rfl
/-- The value v shows these changes. -/
structure ChsAt (w : World) (v : Value) (cs : List Cq) : Prop where
  row : RowF cqf w v cs
  each : ∀ q ∈ cs, ∃ qs, CgAt w q.1 q.2.1 q.2.2 qs
theorem ChsAt.below {w w' : World} {v : Value} {cs : List Cq} (h : ChsAt w v cs) (hb : Below w.heap.size w w') : ChsAt w' v cs := ⟨h.row.below hb, fun q hq => by
  obtain ⟨qs, h1⟩ := h.each q hq
  exact ⟨qs, h1.below hb⟩⟩
def lightC (c : Cg) : Bool := decide (c.ws.length ≤ 20 ∧ c.o.length ≤ 100) && c.ws.all (fun x => decide (x.b.length ≤ 100))
def lightB (cs : List Cg) : Bool := decide (cs.length ≤ 60) && cs.all lightC
theorem all_take_succ {α : Type} {l : List α} {k : Nat} {x : α} (p : α → Bool) (h : l[k]? = some x) : (l.take (k + 1)).all p = ((l.take k).all p && p x) := by
  have hk := List.getElem?_eq_some_iff.1 h
  rw [List.take_succ_eq_append_getElem hk.1, hk.2]
  simp
theorem all_stop {α : Type} {l : List α} {k : Nat} {x : α} {p : α → Bool} (h : l[k]? = some x) (hp : p x = false) : l.all p = false := by
  rw [List.all_eq_false]
  exact ⟨x, List.mem_of_getElem? h, by rw [hp]; simp⟩
theorem all_full {α : Type} {l : List α} {k : Nat} {p : α → Bool} (h : (l.take k).all p = true) (hk : l.length ≤ k) : l.all p = true := by rwa [List.take_of_length_le hk] at h
end

section
set_option linter.unusedVariables false
set_option linter.unusedSimpArgs false
set_option synthInstance.maxSize 20000
set_option maxHeartbeats 2000000
set_option maxRecDepth 20000
open Go.RowKit Go.Maps
end

section
set_option linter.unusedVariables false
set_option linter.unusedSimpArgs false
set_option synthInstance.maxSize 20000
set_option maxHeartbeats 2000000
set_option maxRecDepth 20000
open Go.RowKit Go.Maps

/-- Rows of members stay, whatever is written into a block that holds no number of a key. -/
theorem rowM_set {w : World} {v : Value} {l : List Mb} {b : Nat} {t : TypeId} {vs : List Value} (h : RowF mc w v l) (hb : Blk w b t vs) (hn : ∀ (i : Nat) (p : Int), vs[i]? ≠ some (Value.int .u64 p)) (i : Nat) (u : Value) : RowF mc (w.setCell ⟨b, i, none⟩ u) v l := by
  by_cases hp : 0 < l.length
  · refine h.blocks fun j hj _ => ?_
    obtain ⟨a, cap, rfl, h1, h2, h3, h4⟩ := h
    obtain ⟨b', off, rfl, hc⟩ := h4 hp
    cases hj
    have hne : b' ≠ b := fun e => by
      subst e
      obtain ⟨m, hm⟩ : ∃ m, l[0]? = some m := ⟨_, List.getElem?_eq_getElem hp⟩
      have h5 := hc (0 * 5 + 1) (.int .u64 m.p) (flat_at mc_len hm 1 _ rfl)
      have h6 : (0 * 5 + 1 : Nat) = 1 := rfl
      rw [h6] at h5
      have h7 := hb
      unfold Blk at h7
      rw [World.cell?] at h5
      simp [h7] at h5
      exact hn (off + 1) m.p h5
    exact Below.heap_setCell _ _ _ _ hne
  · have : l = [] := List.eq_nil_of_length_eq_zero (by omega)
    subst this
    obtain ⟨a, cap, rfl, h1, h2, h3, h4⟩ := h
    exact ⟨a, cap, rfl, h1, h2, h3, fun h => by simp at h⟩
/-- The variable of block b (of type t) holds this state. -/
structure VarAt (w : World) (b : Nat) (t : TypeId) (lv : Value) (S : Sm) : Prop where
  blk : Blk w b t [lv, .int .i64 S.e]
  row : RowF mc w lv S.l
theorem VarAt.below {w w' : World} {b : Nat} {t : TypeId} {lv : Value} {S : Sm} (h : VarAt w b t lv S) (hb : Below w.heap.size w w') : VarAt w' b t lv S := ⟨h.blk.below hb, h.row.below hb⟩
theorem VarAt.clear {w : World} {b : Nat} {t : TypeId} {lv : Value} {S : Sm} (h : VarAt w b t lv S) : ∀ (i : Nat) (p : Int), [lv, Value.int .i64 S.e][i]? ≠ some (Value.int .u64 p) := fun i p => by
  obtain ⟨a, c, rfl⟩ := h.row.len
  match i with
  | 0 => simp
  | 1 => simp
  | i + 2 => simp
/-- What is behind the store of a state. -/
def putS (w : World) (b : Nat) (v : Value) (e : Int) : World := (w.setCell ⟨b, 0, none⟩ v).setCell ⟨b, 1, none⟩ (.int .i64 e)
theorem putS_row {w : World} {b : Nat} {t : TypeId} {lv v u : Value} {S : Sm} {l l' : List Mb} {e : Int} (h : VarAt w b t lv S) (hv : RowF mc w v l) (hu : RowF mc w u l') : RowF mc (putS w b v e) u l' := by
  have h1 := rowM_set hu h.blk h.clear 0 v
  have h2 : Blk (w.setCell ⟨b, 0, none⟩ v) b t [v, .int .i64 S.e] := h.blk.set 0 v
  refine rowM_set h1 h2 (fun i p => ?_) 1 _
  obtain ⟨a, c, rfl⟩ := hv.len
  match i with
  | 0 => simp
  | 1 => simp
  | i + 2 => simp
theorem putS_at {w : World} {b : Nat} {t : TypeId} {lv v : Value} {S : Sm} {l : List Mb} {e : Int} (h : VarAt w b t lv S) (hv : RowF mc w v l) : VarAt (putS w b v e) b t v ⟨l, e⟩ :=
  ⟨(h.blk.set 0 v).set 1 (.int .i64 e), putS_row h hv hv⟩
theorem putS_other {w : World} {b c : Nat} {t : TypeId} {v : Value} {e : Int} {vs : List Value} (h : Blk w c t vs) (hne : c ≠ b) : Blk (putS w b v e) c t vs := (h.other _ _ hne).other _ _ hne
theorem putS_below {w0 w : World} {b : Nat} {v : Value} {e : Int} (h : Below w0.heap.size w0 w) (hb : w0.heap.size ≤ b) : Below w0.heap.size w0 (putS w b v e) := (h.setCell hb _).setCell hb _
theorem putS_size (w : World) (b : Nat) (v : Value) (e : Int) : (putS w b v e).heap.size = w.heap.size := by unfold putS; simp
theorem var_new {w : World} {lv : Value} {S : Sm} (t : TypeId) (h : RowF mc w lv S.l) : VarAt (w.alloc (.cells #[lv, .int .i64 S.e] t)) w.heap.size t lv S := ⟨blk_new w [lv, .int .i64 S.e] t, h.below (balloc (Below.refl _ _) _)⟩
/-- A new variable that holds a state, made behind the world W. -/
structure ApV (W w : World) (tb : Nat) (v : Value) (S : Sm) : Prop where
  var : VarAt w tb 45 v S
  tb : W.heap.size ≤ tb
  bel : Below W.heap.size W w
theorem apv_new {W w : World} {v : Value} {S : Sm} (h : RowF mc w v S.l) (hb : Below W.heap.size W w) : ApV W (w.alloc (.cells #[v, .int .i64 S.e] 45)) w.heap.size v S := ⟨var_new 45 h, hb.size, balloc hb _⟩
theorem apv_put {W w : World} {tb : Nat} {lv v : Value} {S0 S : Sm} (hv : VarAt w tb 45 lv S0) (h : RowF mc w v S.l) (hb : Below W.heap.size W w) (ht : W.heap.size ≤ tb) : ApV W (putS w tb v S.e) tb v S := ⟨putS_at hv h, ht, putS_below hb ht⟩
/-- What is behind the store of a member. -/
def put5 (w : World) (b : Nat) (v0 v1 v2 v3 v4 : Value) : World := ((((w.setCell ⟨b, 0, none⟩ v0).setCell ⟨b, 1, none⟩ v1).setCell ⟨b, 2, none⟩ v2).setCell ⟨b, 3, none⟩ v3).setCell ⟨b, 4, none⟩ v4
theorem put5_blk {w : World} {b : Nat} {t : TypeId} {u0 u1 u2 u3 u4 v0 v1 v2 v3 v4 : Value} (h : Blk w b t [u0, u1, u2, u3, u4]) : Blk (put5 w b v0 v1 v2 v3 v4) b t [v0, v1, v2, v3, v4] := ((((h.set 0 v0).set 1 v1).set 2 v2).set 3 v3).set 4 v4
theorem put5_below {w0 w : World} {b : Nat} {v0 v1 v2 v3 v4 : Value} (h : Below w0.heap.size w0 w) (hb : w0.heap.size ≤ b) : Below w0.heap.size w0 (put5 w b v0 v1 v2 v3 v4) := ((((h.setCell hb _).setCell hb _).setCell hb _).setCell hb _).setCell hb _
def m0 : Mb := ⟨0, 5, 0, -1, 0⟩
def m1 : Mb := ⟨1, 6, 1, -1, 0⟩
def c0 : Cg := ⟨3, 0, 0, 0, [⟨0, List.replicate 16 0⟩], []⟩
def c1 : Cg := ⟨1, 1, 6, 0, [], []⟩
theorem alive_1 : applyM ⟨[m0], -1⟩ c0 = (⟨[m0], 0⟩, 0) := by kernel_rfl
theorem alive_2 : applyM ⟨[m0], 0⟩ c1 = (⟨[m0, m1], 0⟩, 0) := by kernel_rfl
theorem alive_3 : mayM ⟨[m0, m1], 0⟩ 1 0 0 = 10 := by kernel_rfl
theorem alive_4 : mayM ⟨[m0, m1], 0⟩ 1 0 1 = 7 := by kernel_rfl
theorem alive_5 : mayM ⟨[m0, m1], 0⟩ 0 3 0 = 0 := by kernel_rfl
theorem cg_c0 (w : World) : CgAt ((w.alloc (.cells (cs8 (List.replicate 16 0)).toArray 5)).alloc (.cells #[.int .i64 0, .slice (some ⟨w.heap.size, 0, none⟩) 16 16] 76)) c0 (.slice (some ⟨w.heap.size + 1, 0, none⟩) 1 1) (.slice none 0 0) [(⟨0, List.replicate 16 0⟩, .slice (some ⟨w.heap.size, 0, none⟩) 16 16)] := by
  have h1 := (own_made w 5 16 16 (by omega) (by unfold maxLen; omega)).rd
  have h2 := rowF_one (f := wq) (w.alloc (.cells (cs8 (List.replicate 16 0)).toArray 5)) ((⟨0, List.replicate 16 0⟩ : Wp), Value.slice (some ⟨w.heap.size, 0, none⟩) 16 16) 76
  rw [World.size_alloc] at h2
  refine ⟨h2, fun q hq => ?_, fun q hq => ?_, rfl, rd_nil _, ?_, ?_, ?_, ?_⟩
  · simp at hq
    subst hq
    exact h1.below (balloc (Below.refl _ _) _)
  · simp at hq
    subst hq
    unfold I64; simp
  all_goals (unfold c0; simp [I64, U64])
theorem cg_c1 (w : World) : CgAt w c1 (.slice none 0 0) (.slice none 0 0) [] := by
  refine ⟨rowF_nil w, fun q hq => by simp at hq, fun q hq => by simp at hq, rfl, rd_nil _, ?_, ?_, ?_, ?_⟩
  all_goals (unfold c1; simp [I64, U64])
end

section
set_option linter.unusedVariables false
set_option linter.unusedSimpArgs false
set_option synthInstance.maxSize 20000
set_option maxHeartbeats 2000000
set_option maxRecDepth 20000
open Go.RowKit Go.Maps

def Srt (l : List Mb) : Prop := l.Pairwise (fun a b => a.w < b.w)
theorem atW_iff {who : Int} {m : Mb} : atW who m = true ↔ m.w = who := by unfold atW; simp
theorem findM_cons (x : Mb) (r : List Mb) (who : Int) : findM (x :: r) who = if x.w = who then some x else findM r who := by
  unfold findM
  rw [List.find?_cons]
  by_cases h : x.w = who
  · rw [if_pos h, atW_iff.2 h]
  · rw [if_neg h]
    have : atW who x = false := by unfold atW; simp [h]
    rw [this]
theorem findM_nil (who : Int) : findM [] who = none := rfl
theorem findM_some {l : List Mb} {who : Int} {m : Mb} (h : findM l who = some m) : m ∈ l ∧ m.w = who := ⟨List.mem_of_find?_eq_some h, atW_iff.1 (List.find?_some h)⟩
theorem findM_none {l : List Mb} {who : Int} (h : findM l who = none) : ∀ m ∈ l, m.w ≠ who := fun m hm e => by
  have := List.find?_eq_none.1 h m hm
  exact this (atW_iff.2 e)
theorem findM_of {l : List Mb} (hs : Srt l) {m : Mb} (hm : m ∈ l) : findM l m.w = some m := by
  induction l with
  | nil => cases hm
  | cons x r ih =>
    rw [findM_cons]
    have h1 := List.pairwise_cons.1 hs
    rcases List.mem_cons.1 hm with rfl | hm
    · rw [if_pos rfl]
    · have := h1.1 m hm
      rw [if_neg (by omega)]
      exact ih h1.2 hm
theorem roomM_cons (who : Int) (x : Mb) (r : List Mb) : roomM who (x :: r) = if who < x.w then 0 else roomM who r + 1 := by
  unfold roomM
  rw [List.findIdx?_cons]
  by_cases h : who < x.w
  · rw [if_pos h]
    have : overW who x = true := by unfold overW; simp [h]
    simp [this]
  · rw [if_neg h]
    have : overW who x = false := by unfold overW; simp; omega
    rw [this]
    cases hh : r.findIdx? (overW who) <;> simp
theorem insL_nil (m : Mb) : insL [] m = [m] := rfl
theorem insL_cons (x : Mb) (r : List Mb) (m : Mb) : insL (x :: r) m = if m.w < x.w then m :: x :: r else x :: insL r m := by
  unfold insL
  rw [roomM_cons]
  by_cases h : m.w < x.w
  · simp [h]
  · simp [h]
theorem insL_mem (l : List Mb) (m y : Mb) : y ∈ insL l m ↔ y = m ∨ y ∈ l := by
  unfold insL
  rw [List.mem_append, List.mem_cons]
  have h := List.take_append_drop (roomM m.w l) l
  constructor
  · rintro (h1 | h1 | h1)
    · exact .inr (List.mem_of_mem_take h1)
    · exact .inl h1
    · exact .inr (List.mem_of_mem_drop h1)
  · rintro (h1 | h1)
    · exact .inr (.inl h1)
    · rw [← h, List.mem_append] at h1
      rcases h1 with h1 | h1
      · exact .inl h1
      · exact .inr (.inr h1)
theorem insL_srt {l : List Mb} {m : Mb} (hs : Srt l) (hn : findM l m.w = none) : Srt (insL l m) := by
  induction l with
  | nil => rw [insL_nil]; unfold Srt; simp
  | cons x r ih =>
    have h1 := List.pairwise_cons.1 hs
    have hx := findM_none hn x (by simp)
    have hr : findM r m.w = none := by rw [findM_cons, if_neg hx] at hn; exact hn
    rw [insL_cons]
    split
    · rename_i h2
      refine List.pairwise_cons.2 ⟨fun y hy => ?_, hs⟩
      rcases List.mem_cons.1 hy with rfl | hy
      · exact h2
      · have := h1.1 y hy; omega
    · refine List.pairwise_cons.2 ⟨fun y hy => ?_, ih h1.2 hr⟩
      rcases (insL_mem r m y).1 hy with rfl | hy
      · omega
      · exact h1.1 y hy
theorem insL_length (l : List Mb) (m : Mb) : (insL l m).length = l.length + 1 := mid_len l _ m (roomM_le _ _)
/-- The first member of that number, changed. -/
def setW (who : Int) (g : Mb → Mb) : List Mb → List Mb
  | [] => []
  | x :: r => if x.w = who then g x :: r else x :: setW who g r
theorem idxG_cons {α : Type} (p : α → Bool) (x : α) (r : List α) : idxG p (x :: r) = if p x = true then 0 else if idxG p r < 0 then -1 else idxG p r + 1 := by
  unfold idxG
  rw [List.findIdx?_cons]
  by_cases h : p x = true
  · simp [h]
  · simp [h]
    cases hh : r.findIdx? p <;> simp
    omega
theorem idxG_nonneg {l : List Mb} {who : Int} {m : Mb} (h : findM l who = some m) : 0 ≤ idxG (atW who) l := by
  rcases idxG_find (l := l) (p := atW who) with ⟨h1, _⟩ | ⟨i, m', h1, h2, _⟩
  · unfold findM at h; rw [h1] at h; cases h
  · rw [h2]; omega
theorem set_idx {l : List Mb} {who : Int} {m : Mb} (g : Mb → Mb) (h : findM l who = some m) : l.set (idxG (atW who) l).toNat (g m) = setW who g l := by
  induction l with
  | nil => cases h
  | cons x r ih =>
    rw [findM_cons] at h
    rw [idxG_cons, setW]
    by_cases hx : x.w = who
    · rw [if_pos hx] at h
      cases h
      rw [if_pos hx, if_pos (atW_iff.2 hx)]
      rfl
    · rw [if_neg hx] at h
      have h0 := idxG_nonneg h
      rw [if_neg hx, if_neg (fun e => hx (atW_iff.1 e)), if_neg (by omega)]
      have : (idxG (atW who) r + 1).toNat = (idxG (atW who) r).toNat + 1 := by omega
      rw [this, List.set_cons_succ, ih h]
theorem setW_length (who : Int) (g : Mb → Mb) (l : List Mb) : (setW who g l).length = l.length := by
  induction l with
  | nil => rfl
  | cons x r ih => rw [setW]; split <;> simp [ih]
theorem setW_find {l : List Mb} {who : Int} {m : Mb} {g : Mb → Mb} (hg : ∀ m, (g m).w = m.w) (h : findM l who = some m) : findM (setW who g l) who = some (g m) := by
  induction l with
  | nil => cases h
  | cons x r ih =>
    rw [findM_cons] at h
    rw [setW]
    by_cases hx : x.w = who
    · rw [if_pos hx] at h
      cases h
      rw [if_pos hx, findM_cons, if_pos (by rw [hg]; exact hx)]
    · rw [if_neg hx] at h
      rw [if_neg hx, findM_cons, if_neg hx]
      exact ih h
theorem setW_mem {l : List Mb} {who : Int} {g : Mb → Mb} {y : Mb} (h : y ∈ setW who g l) : y ∈ l ∨ ∃ x ∈ l, x.w = who ∧ y = g x := by
  induction l with
  | nil => cases h
  | cons x r ih =>
    rw [setW] at h
    split at h
    · rename_i hx
      rcases List.mem_cons.1 h with rfl | h
      · exact .inr ⟨x, by simp, hx, rfl⟩
      · exact .inl (by simp [h])
    · rcases List.mem_cons.1 h with rfl | h
      · exact .inl (by simp)
      · rcases ih h with h | ⟨z, hz, h1, h2⟩
        · exact .inl (by simp [h])
        · exact .inr ⟨z, by simp [hz], h1, h2⟩
theorem setW_keeps {l : List Mb} (hs : Srt l) {who : Int} {g : Mb → Mb} {m : Mb} (hm : m ∈ l) : if m.w = who then g m ∈ setW who g l else m ∈ setW who g l := by
  induction l with
  | nil => cases hm
  | cons x r ih =>
    have h1 := List.pairwise_cons.1 hs
    rw [setW]
    rcases List.mem_cons.1 hm with rfl | hm
    · split <;> simp
    · have h2 := ih h1.2 hm
      have h3 := h1.1 m hm
      by_cases hx : x.w = who
      · rw [if_pos hx, if_neg (by omega)]
        simp [hm]
      · rw [if_neg hx]
        by_cases hmw : m.w = who
        · rw [if_pos hmw] at h2 ⊢; simp [h2]
        · rw [if_neg hmw] at h2 ⊢; simp [h2]
theorem setW_srt {l : List Mb} (hs : Srt l) {who : Int} {g : Mb → Mb} (hg : ∀ m, (g m).w = m.w) : Srt (setW who g l) := by
  induction l with
  | nil => exact hs
  | cons x r ih =>
    have h1 := List.pairwise_cons.1 hs
    rw [setW]
    split
    · exact List.pairwise_cons.2 ⟨fun y hy => by rw [hg]; exact h1.1 y hy, h1.2⟩
    · refine List.pairwise_cons.2 ⟨fun y hy => ?_, ih h1.2⟩
      rcases setW_mem hy with h | ⟨z, hz, _, rfl⟩
      · exact h1.1 y h
      · rw [hg]; exact h1.1 z hz
/-- Members stay by who they are. -/
def Keeps (l l' : List Mb) : Prop := ∀ m ∈ l, ∃ m' ∈ l', m'.w = m.w ∧ m'.p = m.p ∧ m'.f = m.f ∧ (m.t ≠ -1 → m' = m)
theorem Keeps.refl (l : List Mb) : Keeps l l := fun m hm => ⟨m, hm, rfl, rfl, rfl, fun _ => rfl⟩
structure MOk (S : Sm) : Prop where
  e : EOk S.e
  srt : Srt S.l
theorem goneM_w (m : Mb) (e lim : Int) : (goneM m e lim).w = m.w := rfl
theorem revL_on {l : List Mb} {e : Int} {c : Cg} {m : Mb} (h : findM l c.w = some m) (ho : on m = true) : revL l e c = setW c.w (fun m => goneM m e c.l) l := by
  unfold revL
  have h' : l.find? (atW c.w) = some m := h
  rw [h']
  simp only [ho, if_true]
  exact set_idx (fun m => goneM m e c.l) h
theorem apply_kind {S : Sm} {c : Cg} (h : (applyM S c).2 = 0) : rightB c = true ∧ turnK S c = 0 ∧ (applyM S c).1 = turnS S c := by
  unfold applyM at h ⊢
  by_cases hr : rightB c = true
  · rw [if_pos hr] at h ⊢
    by_cases ht : turnK S c = 0
    · rw [if_pos ht] at h ⊢
      exact ⟨hr, ht, rfl⟩
    · rw [if_neg ht] at h
      exact absurd h ht
  · rw [if_neg hr] at h
    simp at h
/-- What Apply did, of each kind. -/
theorem apply_cases {S : Sm} {c : Cg} (h : (applyM S c).2 = 0) :
    (c.k = 1 ∧ rightB c = true ∧ findM S.l c.w = none ∧ (applyM S c).1 = ⟨insL S.l (newM S.e c), S.e⟩) ∨
    (c.k = 2 ∧ rightB c = true ∧ ∃ m, findM S.l c.w = some m ∧ m.t = -1 ∧ (applyM S c).1 = ⟨setW c.w (fun m => goneM m S.e c.l) S.l, S.e⟩) ∨
    (c.k = 3 ∧ rightB c = true ∧ S.e < 19 ∧ begK S.l S.e c = 0 ∧ (applyM S c).1 = ⟨S.l, S.e + 1⟩) := by
  obtain ⟨h1, h2, h3⟩ := apply_kind h
  rw [h3]
  unfold turnK at h2
  unfold turnS
  rcases right_kind h1 with hk | hk | hk
  · refine .inl ⟨hk, h1, ?_⟩
    rw [if_pos hk] at h2
    rw [if_pos hk]
    unfold invK at h2
    unfold invL
    cases hf : findM S.l c.w with
    | none => simp
    | some m => rw [hf] at h2; simp at h2
  · refine .inr (.inl ⟨hk, h1, ?_⟩)
    rw [if_neg (by omega), if_pos hk] at h2
    rw [if_neg (by omega), if_pos hk]
    unfold revK at h2
    cases hf : S.l.find? (atW c.w) with
    | none => rw [hf] at h2; simp at h2
    | some m =>
      rw [hf] at h2
      cases ho : on m with
      | false => simp [ho] at h2
      | true =>
        refine ⟨m, hf, by unfold on at ho; simpa using ho, ?_⟩
        rw [revL_on hf ho]
  · refine .inr (.inr ⟨hk, h1, ?_⟩)
    rw [if_neg (by omega), if_neg (by omega)] at h2
    rw [if_neg (by omega), if_neg (by omega), if_pos h2]
    refine ⟨?_, h2, rfl⟩
    unfold begK at h2
    by_cases h19 : 19 ≤ S.e
    · rw [if_pos h19] at h2; simp at h2
    · omega
theorem apply_ok {S : Sm} {c : Cg} (hs : MOk S) (h : (applyM S c).2 = 0) : MOk (applyM S c).1 ∧ (applyM S c).1.l.length ≤ S.l.length + 1 ∧ S.e ≤ (applyM S c).1.e ∧ (applyM S c).1.e ≤ S.e + 1 ∧ Keeps S.l (applyM S c).1.l := by
  obtain ⟨he, hr⟩ := hs
  rcases apply_cases h with ⟨hk, h1, h2, h3⟩ | ⟨hk, h1, m, h2, h4, h3⟩ | ⟨hk, h1, h2, h4, h3⟩ <;> rw [h3]
  · refine ⟨⟨he, insL_srt hr h2⟩, ?_, Int.le_refl _, by simp; omega, fun m hm => ⟨m, (insL_mem _ _ _).2 (.inr hm), rfl, rfl, rfl, fun _ => rfl⟩⟩
    simp [insL_length]
  · refine ⟨⟨he, setW_srt hr (fun m => goneM_w _ _ _)⟩, ?_, Int.le_refl _, by simp; omega, fun x hx => ?_⟩
    · simp [setW_length]
    · have h5 := setW_keeps (g := fun m => goneM m S.e c.l) (who := c.w) hr hx
      by_cases hxw : x.w = c.w
      · rw [if_pos hxw] at h5
        have h6 := findM_of hr hx
        rw [hxw, h2] at h6
        cases h6
        exact ⟨_, h5, rfl, rfl, rfl, fun hn => absurd h4 hn⟩
      · rw [if_neg hxw] at h5
        exact ⟨x, h5, rfl, rfl, rfl, fun _ => rfl⟩
  · unfold EOk at he
    exact ⟨⟨by unfold EOk; simp; omega, hr⟩, by simp, by simp; omega, Int.le_refl _, Keeps.refl _⟩
theorem Keeps.find {l l' : List Mb} (h : Keeps l l') (hs : Srt l') {m : Mb} (hm : m ∈ l) : ∃ m', findM l' m.w = some m' ∧ m'.w = m.w ∧ m'.p = m.p ∧ m'.f = m.f ∧ (m.t ≠ -1 → m' = m) := by
  obtain ⟨m', h1, h2, h3⟩ := h m hm
  exact ⟨m', by rw [← h2]; exact findM_of hs h1, h2, h3⟩
theorem sok_new (p : Int) : MOk ⟨[⟨0, p, 0, -1, 0⟩], -1⟩ := ⟨by unfold EOk; simp, by unfold Srt; simp⟩
/-- Whoever was revoked. -/
def Gone (who lim t : Int) (S : Sm) : Prop := ∃ m, findM S.l who = some m ∧ m.t = t ∧ m.l = lim
theorem Gone.apply {who lim t : Int} {S : Sm} {c : Cg} {f : Int} (ht : t ≠ -1) (hs : MOk S) (hg : ∃ m, findM S.l who = some m ∧ m.t = t ∧ m.l = lim ∧ m.f = f) (h : (applyM S c).2 = 0) : ∃ m, findM (applyM S c).1.l who = some m ∧ m.t = t ∧ m.l = lim ∧ m.f = f := by
  obtain ⟨m, h1, h2, h3, h4⟩ := hg
  obtain ⟨h5, h6⟩ := findM_some h1
  obtain ⟨a1, _, _, _, a5⟩ := apply_ok hs h
  obtain ⟨m', b1, b2, b3, b4, b5⟩ := a5.find a1.srt h5
  have := b5 (by rw [h2]; exact ht)
  subst this
  rw [h6] at b1
  exact ⟨m', b1, h2, h3, h4⟩
/-- What a revocation leaves. -/
theorem gone_first {S : Sm} {who lim : Int} (hs : MOk S) (h : (applyM S ⟨2, who, 0, lim, [], []⟩).2 = 0) : who ≠ 0 ∧ ∃ m0, findM S.l who = some m0 ∧ m0.t = -1 ∧ (applyM S ⟨2, who, 0, lim, [], []⟩).1.e = S.e ∧ ∃ m, findM (applyM S ⟨2, who, 0, lim, [], []⟩).1.l who = some m ∧ m.t = (if S.e = -1 then -2 else S.e) ∧ m.l = lim ∧ m.f = m0.f := by
  rcases apply_cases h with ⟨hk, _⟩ | ⟨hk, h1, m, h2, h4, h3⟩ | ⟨hk, _⟩
  · simp at hk
  · refine ⟨?_, m, h2, h4, by rw [h3], goneM m S.e lim, by rw [h3]; exact setW_find (g := fun m => goneM m S.e lim) (fun m => goneM_w _ _ _) h2, rfl, rfl, rfl⟩
    unfold rightB at h1
    simp at h1
    exact h1.1.1.2
  · simp at hk
theorem gone_may {S T : Sm} {who lim i e : Int} {m0 m : Mb} (hw : who ≠ 0) (h1 : findM S.l who = some m0) (h2 : m0.t = -1) (he : -1 ≤ S.e) (hT : S.e ≤ T.e) (h3 : findM T.l who = some m) (h4 : m.t = (if S.e = -1 then -2 else S.e)) (h5 : m.l = lim) (h6 : m.f = m0.f) :
    ((S.e < e ∨ lim ≤ i) → -1 ≤ e → mayM T who i e ≠ 0) ∧ (i < lim → 0 ≤ e → e ≤ S.e → mayM T who i e = mayM S who i e) := by
  unfold mayM
  rw [h1, h3]
  simp only
  constructor
  · intro h h0
    by_cases he1 : e = -1
    · rw [if_pos he1, if_neg hw]; simp
    · rw [if_neg he1]
      by_cases hTe : T.e < e
      · rw [if_pos hTe]; simp
      · rw [if_neg hTe]
        have : countsM m i e = false := by
          unfold countsM
          rw [decide_eq_false_iff_not]
          rintro ⟨g1, g2 | g2⟩
          · rw [h4] at g2; split at g2 <;> omega
          · rw [h4, h5] at g2; split at g2 <;> omega
        rw [this]; simp
  · intro g1 g2 g3
    have h7 : m.t = S.e := by rw [h4, if_neg (by omega)]
    rw [if_neg (show ¬ e = -1 by omega), if_neg (show ¬ e = -1 by omega), if_neg (show ¬ T.e < e by omega), if_neg (show ¬ S.e < e by omega)] <;> skip
    have : countsM m i e = countsM m0 i e := by
      unfold countsM
      rw [decide_eq_decide, h6, h5, h7, h2]
      constructor
      · rintro ⟨q1, q2⟩; exact ⟨q1, .inl rfl⟩
      · rintro ⟨q1, q2⟩; exact ⟨q1, .inr ⟨by omega, by omega⟩⟩
    rw [this]
end

section
set_option linter.unusedVariables false
set_option linter.unusedSimpArgs false
set_option synthInstance.maxSize 20000
set_option maxHeartbeats 2000000
set_option maxRecDepth 20000
open Go.RowKit Go.Maps

theorem rnew11 (p : Int) (w : World) : Calls Tryz.prog 28 #[.int .u64 p] w fun r w' => ∃ v, r = .returned (stv v (-1)) ∧ RowF mc w' v [⟨0, p, 0, -1, 0⟩] ∧ Below w.heap.size w w' := by
  have HR : Hid (∀ w' : World, RowF mc (w'.alloc (.cells #[.int .i64 0, .int .u64 p, .int .i64 0, .int .i64 (-1), .int .i64 0] 112)) (.slice (some ⟨w'.heap.size, 0, none⟩) 1 1) [(⟨0, p, 0, -1, 0⟩ : Mb)]) := fun w' => rowF_one w' (⟨0, p, 0, -1, 0⟩ : Mb) 112
  go_enter Tryz.func28, Tryz.ntmps28
  go_wp2
  refine bodyPost_ret (v := stv (.slice (some ⟨w.heap.size + 1, 0, none⟩) 1 1) (-1)) ?_ rfl ⟨_, rfl, ?_, ?_⟩
  · rw [results_cell1 rfl]
    unfold stv
    go_simp
  · have := HR.out (w.alloc (.cells #[.slice (some ⟨w.heap.size + 1, 0, none⟩) 1 1, .int .i64 (-1)] 48))
    simp only [World.size_alloc] at this
    exact this
  · exact balloc2 _ _ _
theorem findM_hit {l : List Mb} {k : Nat} {x : Mb} {who : Int} (h : findM (l.take k) who = none) (hx : l[k]? = some x) (hw : x.w = who) : findM l who = some x := by
  have hk := List.getElem?_eq_some_iff.1 hx
  have e : l = l.take k ++ x :: l.drop (k + 1) := by
    have h1 := (List.take_append_drop k l).symm
    rw [List.drop_eq_getElem_cons hk.1, hk.2] at h1
    exact h1
  unfold findM at h ⊢
  rw [e, List.find?_append, h]
  simp [atW_iff.2 hw]
theorem findM_miss {l : List Mb} {k : Nat} {x : Mb} {who : Int} (h : findM (l.take k) who = none) (hx : l[k]? = some x) (hw : x.w ≠ who) : findM (l.take (k + 1)) who = none := by
  have hk := List.getElem?_eq_some_iff.1 hx
  unfold findM at h ⊢
  rw [List.take_succ_eq_append_getElem hk.1, List.find?_append, h, hk.2]
  have : atW who x = false := by unfold atW; simp [hw]
  simp [this]
theorem rfind18 {w : World} {v : Value} {l : List Mb} (hv : RowF mc w v l) (who e : Int) : Calls Tryz.prog 43 #[stv v e, .int .i64 who] w fun r w' => r = .returned (.tuple #[mv ((findM l who).getD zm), .bool (findM l who).isSome]) ∧ Below w.heap.size w w' := by
  obtain ⟨av, cap, rfl⟩ := hv.len
  have hcap := hv.caps
  have hc1 : l.length ≤ cap := hcap.2.1
  have hc2 : cap ≤ 9223372036854775807 := hcap.2.2
  obtain ⟨n, hn⟩ : ∃ n, n = l.length := ⟨_, rfl⟩
  have HN : Hid (n = l.length) := hn
  rw [← hn] at hc1 hv ⊢
  obtain ⟨w1, hw1⟩ : ∃ w1, w1 = (w.alloc (.cells #[.slice av n cap, .int .i64 e] 48)).alloc (.cells #[.int .i64 0, .int .u64 0, .int .i64 0, .int .i64 0, .int .i64 0] 112) := ⟨_, rfl⟩
  have hb1 : Below w.heap.size w w1 := by rw [hw1]; exact balloc2 _ _ _
  have HB1 : Hid (Below w.heap.size w w1) := hb1
  have X0 : Blk w1 w.heap.size 48 [.slice av n cap, .int .i64 e] := by rw [hw1]; exact blkM_0 w [.slice av n cap, .int .i64 e] [.int .i64 0, .int .u64 0, .int .i64 0, .int .i64 0, .int .i64 0] 48 112
  have X1 : Blk w1 (w.heap.size + 1) 112 [.int .i64 0, .int .u64 0, .int .i64 0, .int .i64 0, .int .i64 0] := by rw [hw1]; exact blkM_1 w [.slice av n cap, .int .i64 e] [.int .i64 0, .int .u64 0, .int .i64 0, .int .i64 0, .int .i64 0] 48 112
  have HV : Hid (RowF mc w1 (.slice av n cap) l) := (show RowF _ _ _ _ from hv.below hb1)
  have HW1 : Hid (w1 = (w.alloc (.cells #[.slice av n cap, .int .i64 e] 48)).alloc (.cells #[.int .i64 0, .int .u64 0, .int .i64 0, .int .i64 0, .int .i64 0] 112)) := hw1
  have x0 := X0.cell 0 _ rfl
  have j0 := X1.cell 0 _ rfl; have j1 := X1.cell 1 _ rfl; have j2 := X1.cell 2 _ rfl; have j3 := X1.cell 3 _ rfl; have j4 := X1.cell 4 _ rfl
  have i0 := X1.frozen 0; have i1 := X1.frozen 1; have i2 := X1.frozen 2; have i3 := X1.frozen 3; have i4 := X1.frozen 4
  have HPb : Hid (∀ v0 v1 v2 v3 v4, Below w.heap.size w (put5 w1 (w.heap.size + 1) v0 v1 v2 v3 v4)) := fun v0 v1 v2 v3 v4 => put5_below hb1 (by omega)
  clear hv hcap hn hw1 hb1 X0 X1
  unfold stv
  go_enter Tryz.func43, Tryz.ntmps43
  go_upto_region 1 with fail
  rw [← HW1.out]
  go_wp2
  go_loopw [6] (fun i wr => ∃ k : Nat, i = .int .i64 k ∧ k ≤ n ∧ Hid (w1 = wr ∧ findM (l.take k) who = none)) (fun i _ => n - (intOf i).toNat)
  case atStart => exact ⟨0, rfl, by omega, rfl, rfl⟩
  case round =>
    obtain ⟨k, rfl, hk, HI⟩ := hrel
    have hww := HI.out.1
    have HF : Hid (findM (l.take k) who = none) := HI.out.2
    subst hww
    clear HI
    by_cases hki : k < n
    · obtain ⟨x, hx⟩ : ∃ x, l[k]? = some x := ⟨_, List.getElem?_eq_getElem (by have := HN.out; omega)⟩
      obtain ⟨b, off, ea, hc⟩ := HV.out.at mc_len hx
      subst ea
      have c0 := hc 0 _ rfl; have c1 := hc 1 _ rfl; have c2 := hc 2 _ rfl; have c3 := hc 3 _ rfl; have c4 := hc 4 _ rfl
      simp only [Nat.add_zero] at c0
      by_cases hxw : x.w = who
      · have HR : Hid (findM l who = some x) := findM_hit HF.out hx hxw
        obtain ⟨y0, y1, y2, y3, y4⟩ := x
        dsimp only at hxw c0 c1 c2 c3 c4
        subst hxw
        clear hc hx HF
        go_wp2
        refine bodyPost_ret (v := .tuple #[mv ⟨y0, y1, y2, y3, y4⟩, .bool true]) ?_ rfl ⟨by rw [HR.out]; rfl, HPb.out _ _ _ _ _⟩
        rw [results_cell_tmp rfl]
        unfold mv
        go_simp
      · have HR : Hid (True ∧ findM (l.take (k + 1)) who = none) := ⟨trivial, findM_miss HF.out hx hxw⟩
        obtain ⟨y0, y1, y2, y3, y4⟩ := x
        dsimp only at hxw c0 c1 c2 c3 c4
        clear hc hx
        go_wp2
        go_roundw
        case rel => exact ⟨k + 1, by go_num, by omega, HR⟩
        case measure => simp [intOf]; omega
    · have HR : Hid (findM l who = none) := (show _ = _ by
        have := HF.out
        rwa [List.take_of_length_le (by have := HN.out; omega)] at this)
      go_wp2
      refine bodyPost_ret (v := .tuple #[mv zm, .bool false]) ?_ rfl ⟨by rw [HR.out]; rfl, HPb.out _ _ _ _ _⟩
      rw [results_cell_tmp rfl]
      unfold mv zm
      go_simp
/-- May, as the document's answer has it. -/
def mayR (S : Sm) (who i e : Int) : Int := match findM S.l who with
  | none => 20
  | some m => if e = -1 ∧ who = 0 then 0 else if S.e < e then 7 else if e < 0 ∨ e < m.f ∨ (m.t ≠ -1 ∧ (m.t < e ∨ m.l ≤ i)) then 10 else 0
/-- No member counts from an epoch below 0 on. -/
def FOk (S : Sm) : Prop := ∀ m ∈ S.l, 0 ≤ m.f
theorem fok_new (p : Int) : FOk ⟨[⟨0, p, 0, -1, 0⟩], -1⟩ := fun m hm => by simp at hm; subst hm; simp
theorem FOk.apply {S : Sm} {c : Cg} (hs : MOk S) (hf : FOk S) (h : (applyM S c).2 = 0) : FOk (applyM S c).1 := by
  rcases apply_cases h with ⟨hk, h1, h2, h3⟩ | ⟨hk, h1, m, h2, h4, h3⟩ | ⟨hk, h1, h2, h4, h3⟩ <;> rw [h3]
  · intro y hy
    rcases (insL_mem _ _ _).1 hy with rfl | hy
    · have := hs.e
      unfold EOk at this
      simp [newM]
      omega
    · exact hf y hy
  · intro y hy
    rcases setW_mem hy with hy | ⟨x, hx, _, rfl⟩
    · exact hf y hy
    · exact hf x hx
  · exact hf
theorem mayR_eq {S : Sm} (hs : MOk S) (hf : FOk S) (who i e : Int) : mayR S who i e = mayM S who i e := by
  have he := hs.e
  unfold EOk at he
  unfold mayR mayM
  cases hh : findM S.l who with
  | none => rfl
  | some m =>
    have h0 := hf m (findM_some hh).1
    simp only
    by_cases h1 : e = -1
    · subst h1
      by_cases h2 : who = 0
      · simp [h2]
      · simp [h2]
        omega
    · simp only [h1, false_and, if_false]
      by_cases h3 : S.e < e
      · simp [h3]
      · simp only [h3, if_false]
        unfold countsM
        by_cases h4 : m.f ≤ e ∧ (m.t = -1 ∨ (e ≤ m.t ∧ i < m.l))
        · rw [decide_eq_true h4, if_neg (by omega)]; simp
        · rw [decide_eq_false h4, if_pos (by omega)]; simp
theorem rwho58 (n : Int) (w : World) : Calls Tryz.prog 77 #[.int .i64 n] w fun r w' => r = .returned (.bool (whoB n)) ∧ w' = w := by
  have hw : whoB n = decide (0 ≤ n ∧ n ≤ 7) := rfl
  by_cases h1 : 0 ≤ n
  · by_cases h2 : n < 8
    · have : whoB n = true := by rw [hw]; exact decide_eq_true (by omega)
      rw [this]
      go_enter Tryz.func77, Tryz.ntmps77
      go_wp2
      go_ret
      exact ⟨rfl, rfl⟩
    · have : whoB n = false := by rw [hw]; exact decide_eq_false (by omega)
      rw [this]
      go_enter Tryz.func77, Tryz.ntmps77
      go_wp2
      go_ret
      exact ⟨rfl, rfl⟩
  · have : whoB n = false := by rw [hw]; exact decide_eq_false (by omega)
    rw [this]
    go_enter Tryz.func77, Tryz.ntmps77
    go_wp2
    go_ret
    exact ⟨rfl, rfl⟩
end

section
set_option linter.unusedVariables false
set_option linter.unusedSimpArgs false
set_option synthInstance.maxSize 20000
set_option maxHeartbeats 2000000
set_option maxRecDepth 20000
open Go.RowKit Go.Maps

theorem rnow20 {w : World} {v : Value} {l : List Mb} (hv : RowF mc w v l) (hl : l.length ≤ 10000) (e : Int) : Calls Tryz.prog 45 #[stv v e] w fun r w' => ∃ v', r = .returned v' ∧ RowF mc w' v' (nowM l) ∧ Below w.heap.size w w' := by
  obtain ⟨av, cap, rfl⟩ := hv.len
  have hcap := hv.caps
  have hc1 : l.length ≤ cap := hcap.2.1
  have hc2 : cap ≤ 9223372036854775807 := hcap.2.2
  obtain ⟨n, hn⟩ : ∃ n, n = l.length := ⟨_, rfl⟩
  have HN : Hid (n = l.length) := hn
  rw [← hn] at hc1 hv hl ⊢
  obtain ⟨w1, hw1⟩ : ∃ w1, w1 = w.alloc (.cells #[.slice av n cap, .int .i64 e] 48) := ⟨_, rfl⟩
  have hb1 : Below w.heap.size w w1 := by rw [hw1]; exact balloc (Below.refl _ _) _
  have HB1 : Hid (Below w.heap.size w w1) := hb1
  have X0 : Hid (Blk w1 w.heap.size 48 [.slice av n cap, .int .i64 e]) := by rw [hw1]; exact blk_new w [.slice av n cap, .int .i64 e] 48
  have HV : Hid (∀ w', Below w1.heap.size w1 w' → RowF mc w' (.slice av n cap) l) := fun w' hb => (hv.below hb1).below hb
  have HW1 : Hid (w1 = w.alloc (.cells #[.slice av n cap, .int .i64 e] 48)) := hw1
  clear hv hcap hn hw1 hb1
  unfold stv
  go_enter Tryz.func45, Tryz.ntmps45
  go_upto_region 1 with fail
  rw [← HW1.out]
  go_wp2
  go_loopw [3, 4] (fun vo i wr => ∃ (k : Nat), i = .int .i64 k ∧ k ≤ n ∧ Hid (Below w1.heap.size w1 wr) ∧ Hid (wr.ownsRow 0 112 5 vo (nowM (l.take k)).length (flat mc (nowM (l.take k)))) ∧ Hid (∀ j, vo.ownBlock = some j → w1.heap.size ≤ j)) (fun _ i _ => n - (intOf i).toNat)
  case atStart => exact ⟨0, rfl, by omega, (show Below _ _ _ from Below.refl _ _), World.ownsRow_nil _ _ _ _, (fun j hj => by cases hj)⟩
  case round =>
    obtain ⟨k, rfl, hk, HB, HO, HNw⟩ := hrel
    have x0 := (X0.out.below HB.out).cell 0 _ rfl
    by_cases hki : k < n
    · obtain ⟨av2, cp2, hvo, hcp⟩ := slice_of_own HO.out
      subst hvo
      obtain ⟨m, hm⟩ : ∃ m, l[k]? = some m := ⟨_, List.getElem?_eq_getElem (by have := HN.out; omega)⟩
      have HM : Hid (nowM (l.take (k + 1)) = nowM (l.take k) ++ (if on m = true then [m] else [])) := nowM_snoc hm
      have HL : Hid ((nowM (l.take k)).length ≤ n) := (by have := nowM_le l k; rw [← HN.out] at this; exact this)
      obtain ⟨b, off, ea, hc⟩ := (HV.out wr HB.out).at mc_len hm
      subst ea
      have HRow : Hid (∀ w' : World, RowF mc (w'.alloc (.cells (mc m).toArray 112)) (.slice (some ⟨w'.heap.size, 0, none⟩) 1 1) [m]) := fun w' => rowF_one w' m 112
      obtain ⟨x0', x1, x2, x3, x4⟩ := m
      have c0 := hc 0 _ rfl; have c1 := hc 1 _ rfl; have c2 := hc 2 _ rfl; have c3 := hc 3 _ rfl; have c4 := hc 4 _ rfl
      simp only [Nat.add_zero] at c0
      have HRow : Hid (∀ w' : World, RowF mc (w'.alloc (.cells #[.int .i64 x0', .int .u64 x1, .int .i64 x2, .int .i64 x3, .int .i64 x4] 112)) (.slice (some ⟨w'.heap.size, 0, none⟩) 1 1) [(⟨x0', x1, x2, x3, x4⟩ : Mb)]) := HRow
      have HNK : Hid (((nowM (l.take k)) ++ [(⟨x0', x1, x2, x3, x4⟩ : Mb)]).length ≤ 100000) := (show _ ≤ _ by rw [List.length_append]; have := HL.out; simp; omega)
      generalize hnn : nowM (l.take k) = acc at *
      clear hc hm hnn
      by_cases h3 : x3 = -1
      · have HM2 : Hid (nowM (l.take (k + 1)) = acc ++ [(⟨x0', x1, x2, -1, x4⟩ : Mb)]) := (show _ = _ by have := HM.out; simp [on, h3] at this; exact this)
        subst h3
        clear HM
        go_wp2_with (at_builtin; go_must (refine wpList_append_rows ty30 mc_len (by omega) rfl (.tmp 19) (.tmp 25) rfl _ acc rfl (HO.out.alloc _) _ [(⟨x0', x1, x2, -1, x4⟩ : Mb)] rfl (HRow.out wr) (flat_mc_one _) (by have := HNK.out; rw [List.length_append] at this; omega) ?_; intro v3 w3 hr3 hg3 hn3; obtain ⟨a3, q3, hv3, hq3⟩ := slice_of_own hr3; subst hv3))
        go_roundw
        case rel =>
          refine ⟨k + 1, by go_num, by omega, ?_, ?_, ?_⟩
          · exact (balloc HB.out _).grown hg3 (balloc HB.out _).size (fun j hj => HNw.out j hj)
          · rw [HM2.out]
            rw [List.length_append] at hr3 ⊢
            exact hr3
          · intro j hj
            rw [List.length_append] at hn3
            rcases hn3 j hj with r | r
            · exact HNw.out j r
            · have := (balloc HB.out (.cells #[.int .i64 x0', .int .u64 x1, .int .i64 x2, .int .i64 (-1), .int .i64 x4] 112)).size
              omega
        case measure => simp [intOf]; omega
      · have HM2 : Hid (nowM (l.take (k + 1)) = acc) := (show _ = _ by have := HM.out; simp [on, h3] at this; exact this)
        clear HM
        go_wp2
        go_roundw
        case rel =>
          refine ⟨k + 1, by go_num, by omega, HB, ?_, HNw⟩
          rw [HM2.out]
          exact HO
        case measure => simp [intOf]; omega
    · go_wp2
      go_ret
      have e : l.take k = l := List.take_of_length_le (by have := HN.out; omega)
      have := HO.out
      rw [e] at this
      exact ⟨_, rfl, rowF_own mc_len this, bnext HB1.out HB.out⟩
end
end Go.Proofs.YtkoeocghoabmbaaGreat
