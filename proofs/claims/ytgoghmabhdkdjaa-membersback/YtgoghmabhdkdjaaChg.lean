/-
  The reference's comparison of changes, at the same change twice.
-/
import Derived.Test.YtgoghmabhdkdjaaBkC
namespace Go.Proofs.Ytgoghmabhdkdjaa
set_option linter.unusedVariables false
set_option linter.unusedSimpArgs false
set_option synthInstance.maxSize 20000
set_option maxHeartbeats 2000000
set_option maxRecDepth 20000
open Go.RowKit Go.Maps

set_option maxHeartbeats 4000000 in
theorem changes29 {w : World} {c : Cg} {a b a2 b2 : Value} {qs qs2 : List Wq} (h : CgAt w c a b qs) (h2 : CgAt w c a2 b2 qs2) : Calls Try.prog 29 #[cv c a b, cv c a2 b2] w fun r w' => r = .returned (.bool true) ∧ Below w.heap.size w w' := by
  obtain ⟨aa, ca, rfl⟩ := h.row.len
  obtain ⟨ab, cb, rfl⟩ := h2.row.len
  obtain ⟨oa, pa, rfl⟩ := h.old.len
  obtain ⟨ob, pb, rfl⟩ := h2.old.len
  have hc1 : qs.length ≤ ca := h.row.caps.2.1
  have hc2 : ca ≤ 9223372036854775807 := h.row.caps.2.2
  have hc3 : qs2.length ≤ cb := h2.row.caps.2.1
  have hc4 : cb ≤ 9223372036854775807 := h2.row.caps.2.2
  have hq1 := h.len
  have hq2 := h2.len
  have HA : Hid (∀ w', Below w.heap.size w w' → CgAt w' c (.slice aa qs.length ca) (.slice oa c.o.length pa) qs) := fun w' hb => h.below hb
  have HB : Hid (∀ w', Below w.heap.size w w' → CgAt w' c (.slice ab qs2.length cb) (.slice ob c.o.length pb) qs2) := fun w' hb => h2.below hb
  rw [hq1] at hc1 HA ⊢
  rw [hq2] at hc3 HB ⊢
  obtain ⟨ck, cw, cp, cm, cws, co⟩ := c
  unfold cv
  dsimp only at *
  obtain ⟨n, hn⟩ : ∃ n, n = cws.length := ⟨_, rfl⟩
  obtain ⟨no, hno⟩ : ∃ no, no = co.length := ⟨_, rfl⟩
  rw [← hn] at hc1 hc3 HA HB hq1 hq2 ⊢
  rw [← hno] at HA HB ⊢
  have HN1 : Hid (qs.length = n) := hq1
  have HN2 : Hid (qs2.length = n) := hq2
  have HMp : Hid (qs.map (·.1) = qs2.map (·.1)) := (show _ = _ by rw [h.ws, h2.ws])
  obtain ⟨w1, hw1⟩ : ∃ w1, w1 = (w.alloc (.cells #[.int .i64 ck, .int .i64 cw, .int .u64 cp, .int .i64 cm, .slice aa n ca, .slice oa no pa] 42)).alloc (.cells #[.int .i64 ck, .int .i64 cw, .int .u64 cp, .int .i64 cm, .slice ab n cb, .slice ob no pb] 42) := ⟨_, rfl⟩
  have HB1 : Hid (Below w.heap.size w w1) := by rw [hw1]; exact balloc2 _ _ _
  have X0 : Hid (Blk w1 w.heap.size 42 [.int .i64 ck, .int .i64 cw, .int .u64 cp, .int .i64 cm, .slice aa n ca, .slice oa no pa]) := by rw [hw1]; exact blk2_0 w [.int .i64 ck, .int .i64 cw, .int .u64 cp, .int .i64 cm, .slice aa n ca, .slice oa no pa] [.int .i64 ck, .int .i64 cw, .int .u64 cp, .int .i64 cm, .slice ab n cb, .slice ob no pb] 42 42
  have X1 : Hid (Blk w1 (w.heap.size + 1) 42 [.int .i64 ck, .int .i64 cw, .int .u64 cp, .int .i64 cm, .slice ab n cb, .slice ob no pb]) := by rw [hw1]; exact blk2_1 w [.int .i64 ck, .int .i64 cw, .int .u64 cp, .int .i64 cm, .slice aa n ca, .slice oa no pa] [.int .i64 ck, .int .i64 cw, .int .u64 cp, .int .i64 cm, .slice ab n cb, .slice ob no pb] 42 42
  have HW1 : Hid (w1 = (w.alloc (.cells #[.int .i64 ck, .int .i64 cw, .int .u64 cp, .int .i64 cm, .slice aa n ca, .slice oa no pa] 42)).alloc (.cells #[.int .i64 ck, .int .i64 cw, .int .u64 cp, .int .i64 cm, .slice ab n cb, .slice ob no pb] 42)) := hw1
  have H31 : Hid (Calls Try.prog 31 #[.slice oa no pa, .slice ob no pb] w1 fun r w' => r = .returned (.bool true) ∧ Below w1.heap.size w1 w') := (show Calls _ _ _ _ _ from by
    refine (same_any _ _ co co w1 (HA.out w1 HB1.out).old (HB.out w1 HB1.out).old).mono ?_
    rintro r w' ⟨rfl, hb⟩
    exact ⟨by simp, hb⟩)
  have x0 := X0.out.cell 0 _ rfl; have x1 := X0.out.cell 1 _ rfl; have x2 := X0.out.cell 2 _ rfl; have x3 := X0.out.cell 3 _ rfl; have x4 := X0.out.cell 4 _ rfl; have x5 := X0.out.cell 5 _ rfl
  have y0 := X1.out.cell 0 _ rfl; have y1 := X1.out.cell 1 _ rfl; have y2 := X1.out.cell 2 _ rfl; have y3 := X1.out.cell 3 _ rfl; have y4 := X1.out.cell 4 _ rfl; have y5 := X1.out.cell 5 _ rfl
  clear h h2 hn hno hw1 hq1 hq2
  go_enter Try.func29, Try.ntmps29
  go_upto_region 1 with fail
  rw [← HW1.out]
  go_wp2_with (go_at_call 31; go_must (refine H31.out.mono ?_; rintro r w2 ⟨rfl, hb2⟩; have HB2 : Hid (Below w1.heap.size w1 w2) := hb2; clear hb2))
  clear x0 x1 x2 x3 x4 x5 y0 y1 y2 y3 y4 y5
  go_loopw [5] (fun i wr => ∃ k : Nat, i = .int .i64 k ∧ k ≤ n ∧ Hid (Below w2.heap.size w2 wr)) (fun i _ => n - (intOf i).toNat)
  case atStart => exact ⟨0, rfl, by omega, (show Below _ _ _ from Below.refl _ _)⟩
  case round =>
    obtain ⟨k, rfl, hk, HBr⟩ := hrel
    have HBw : Hid (Below w.heap.size w wr) := (show Below _ _ _ from bnext (bnext HB1.out HB2.out) HBr.out)
    have x4 := ((X0.out.below HB2.out).below HBr.out).cell 4 _ rfl
    have y4 := ((X1.out.below HB2.out).below HBr.out).cell 4 _ rfl
    by_cases hki : k < n
    · obtain ⟨m, hm⟩ : ∃ m, qs[k]? = some m := ⟨_, List.getElem?_eq_getElem (by have := HN1.out; omega)⟩
      obtain ⟨m2, hm2⟩ : ∃ m, qs2[k]? = some m := ⟨_, List.getElem?_eq_getElem (by have := HN2.out; omega)⟩
      have hmm : m2.1 = m.1 := by
        have h1 : (qs.map (·.1))[k]? = some m.1 := by rw [List.getElem?_map, hm]; rfl
        have h2 : (qs2.map (·.1))[k]? = some m2.1 := by rw [List.getElem?_map, hm2]; rfl
        rw [HMp.out, h2] at h1
        exact Option.some.inj h1
      obtain ⟨g, off, ea, hr⟩ := (HA.out wr HBw.out).row.at wq_len hm
      obtain ⟨g2, off2, ea2, hr2⟩ := (HB.out wr HBw.out).row.at wq_len hm2
      have r1 := (HA.out wr HBw.out).rd m (List.mem_of_getElem? hm)
      have r2 := (HB.out wr HBw.out).rd m2 (List.mem_of_getElem? hm2)
      subst ea ea2
      obtain ⟨⟨mw, mb⟩, mv⟩ := m
      obtain ⟨mp2, mv2⟩ := m2
      dsimp only at hmm r1 r2
      subst hmm
      obtain ⟨d1, e1, hd1⟩ := r1.len
      obtain ⟨d2, e2, hd2⟩ := r2.len
      dsimp only at hd1 hd2 r1 r2
      subst hd1 hd2
      have H31b : Hid (Calls Try.prog 31 #[.slice d1 mb.length e1, .slice d2 mb.length e2] wr.drew fun r w' => r = .returned (.bool true) ∧ Below wr.heap.size wr w') := (show Calls _ _ _ _ _ from by
        refine (same_any _ _ mb mb wr.drew r1 r2).mono ?_
        rintro r w' ⟨rfl, hb⟩
        exact ⟨by simp, bnext (Below.refl _ _).drew hb⟩)
      have HD : Hid (Below wr.heap.size wr wr.drew) := (show Below _ _ _ from (Below.refl _ _).drew)
      have D0 := fun z : WIn (fun w' => Below wr.heap.size wr w') => (((X0.out.below HB2.out).below HBr.out).below z.ok).cell 4 _ rfl
      have D1 := fun z : WIn (fun w' => Below wr.heap.size wr w') => (((X1.out.below HB2.out).below HBr.out).below z.ok).cell 4 _ rfl
      have hcl : ∀ (z : WIn (fun w' => Below wr.heap.size wr w')) p v, wr.cell? p = some v → z.w.cell? p = some v := fun z p v hp => (z.ok.cell (World.block_lt_of_cell? wr _ hp)).trans hp
      have a0 := fun z => hcl z _ _ (hr 0 _ rfl); have a1 := fun z => hcl z _ _ (hr 1 _ rfl)
      have b0 := fun z => hcl z _ _ (hr2 0 _ rfl); have b1 := fun z => hcl z _ _ (hr2 1 _ rfl)
      simp only [Nat.add_zero] at a0 b0
      have ne : Nonempty (WIn (fun w' => Below wr.heap.size wr w')) := ⟨⟨wr, Below.refl _ _⟩⟩
      clear hr hr2 hm hm2 hcl r1 r2
      go_upto_region 6 with fail
      refine wp_region_ord (C := fun w' => ∃ z : WIn (fun w' => Below wr.heap.size wr w'), w' = z.w) [(false, 0), (false, 1), (false, 2), (false, 3), (false, 4), (false, 5), (false, 6), (false, 7), (false, 8), (false, 9), (false, 10), (false, 11), (false, 12), (false, 13), (false, 14), (false, 15), (false, 16), (false, 17), (false, 18), (false, 19), (false, 20), (false, 21), (false, 22), (false, 23), (false, 24), (false, 25), (true, 26), (false, 27), (false, 28)] (by kernel_rfl) (by kernel_rfl) ⟨⟨wr.drew, HD.out⟩, rfl⟩ ?_
      iterate 26 (refine ord_still rfl rfl ?_; go_big_quiet_step (fail); refine wpQuiet_nil ?_)
      refine ord_mem rfl rfl ?_
      go_simp
      refine H31b.out.mono ?_
      rintro r w4 ⟨rfl, h4⟩
      have H4 : Hid (Below wr.heap.size wr w4) := h4
      have HB4 : Hid (Below w2.heap.size w2 w4) := (show Below _ _ _ from bnext HBr.out h4)
      clear h4
      refine ⟨⟨⟨_, H4.out⟩, rfl⟩, ?_⟩
      go_simp
      iterate 2 (refine ord_still rfl rfl ?_; go_big_quiet_step (fail); refine wpQuiet_nil ?_)
      refine ord_end ?_
      clear D0 D1 a0 a1 b0 b1 ne
      go_wp2
      go_roundw
      case rel => exact ⟨k + 1, by go_num, by omega, HB4⟩
      case measure => simp [intOf]; omega
    · go_wp2
      go_ret
      exact ⟨rfl, HBw.out⟩
end Go.Proofs.Ytgoghmabhdkdjaa
