/-
  The program's reading of a change.
-/
import Derived.Test.YtgoghmabhdkdjaaBkC
namespace Go.Proofs.Ytgoghmabhdkdjaa
set_option linter.unusedVariables false
set_option linter.unusedSimpArgs false
set_option synthInstance.maxSize 20000
set_option maxHeartbeats 2000000
set_option maxRecDepth 20000
open Go.RowKit Go.Maps

theorem takeWs_len : ∀ (n : Nat) (l : List Int) (k : Int), (takeWs n l k).1.length = n
  | 0, l, k => rfl
  | n + 1, l, k => by
    rw [takeWs]
    simp [takeWs_len n]
theorem readM_cases (l : List Int) : (readM l).1 = zC ∨ ((readM l).2 = 0 ∧ rightB (readM l).1 = true) := by
  unfold readM
  split
  · exact .inl rfl
  · split
    · rename_i h
      exact .inr ⟨rfl, h⟩
    · exact .inl rfl
theorem right_small {c : Cg} (h : rightB c = true) : c.ws.length ≤ 20 ∧ c.o.length ≤ 100 := by
  unfold rightB at h
  split at h
  · simp [keyB] at h
    rw [h.2.1, h.2.2]
    simp
  · split at h
    · simp [keyB] at h
      rw [h.2.1, h.2.2]
      simp
    · split at h
      · simp only [Bool.and_eq_true, wsB, oldB, decide_eq_true_eq] at h
        have h1 := ws_le h.1.2.1
        have h2 := h.2
        omega
      · cases h
theorem readM_small (l : List Int) : (readM l).1.ws.length ≤ 20 ∧ (readM l).1.o.length ≤ 100 := by
  rcases readM_cases l with h | h
  · rw [h]
    simp [zC]
  · exact right_small h.2
/-- What stands behind the reader. -/
structure RdSt (w w5 : World) (rb b4 b5 : Nat) (l : List Int) (k : Int) (c : Cg) (a b : Value) (qs : List Wq) : Prop where
  res : Blk w5 w.heap.size 38 z38
  box : Blk w5 b4 104 [ptr rb]
  var : Blk w5 b5 38 (cc c a b)
  rdr : Rdr w5 rb l k
  cg : CgAt w5 c a b qs
  far : ∀ j, a.ownBlock = some j → w.heap.size < j
  bel : Below w.heap.size w w5
theorem cg_put6 {w : World} {c : Cg} {a b : Value} {qs : List Wq} {g : Nat} {e : TypeId} {vs : List Value} (h : CgAt w c a b qs) (hX : Blk w g e vs) (hn : ∀ u ∈ vs, noB u = true) (ha : ∀ j, a.ownBlock = some j → j ≠ g) (v0 v1 v2 v3 v4 v5 : Value) (h0 : noB v0 = true) (h1 : noB v1 = true) (h2 : noB v2 = true) (h3 : noB v3 = true) (h4 : noB v4 = true) (h5 : noB v5 = true) : CgAt (put6 w g v0 v1 v2 v3 v4 v5) c a b qs := by
  have k0 := h.setX hX hn ha 0 v0
  have x0 := hX.set 0 v0
  have n0 := noB_set hn h0 0
  have k1 := k0.setX x0 n0 ha 1 v1
  have x1 := x0.set 1 v1
  have n1 := noB_set n0 h1 1
  have k2 := k1.setX x1 n1 ha 2 v2
  have x2 := x1.set 2 v2
  have n2 := noB_set n1 h2 2
  have k3 := k2.setX x2 n2 ha 3 v3
  have x3 := x2.set 3 v3
  have n3 := noB_set n2 h3 3
  have k4 := k3.setX x3 n3 ha 4 v4
  have x4 := x3.set 4 v4
  have n4 := noB_set n3 h4 4
  exact k4.setX x4 n4 ha 5 v5
theorem below_put6 {w w5 : World} {g : Nat} (h : Below w.heap.size w w5) (hg : w.heap.size ≤ g) (v0 v1 v2 v3 v4 v5 : Value) : Below w.heap.size w (put6 w5 g v0 v1 v2 v3 v4 v5) := (((((h.setCell hg _).setCell hg _).setCell hg _).setCell hg _).setCell hg _).setCell hg _
theorem cg_zC (w : World) : CgAt w zC (.slice none 0 0) (.slice none 0 0) [] := by
  refine cg_flat ?_ ?_ ?_ ?_ rfl rfl <;> simp [zC, I64, U64]
set_option maxHeartbeats 4000000 in
theorem read28 {w : World} {v : Value} {l : List Int} (h : Rd w v l) (hl : l.length ≤ 1000000) : Calls Try.prog 28 #[v] w fun r w' => ∃ a b qs, r = .returned (.tuple #[cv (readM l).1 a b, .int .i64 (readM l).2]) ∧ CgAt w' (readM l).1 a b qs ∧ Below w.heap.size w w' := by
  obtain ⟨xv, pv, rfl⟩ := h.len
  obtain ⟨nv, hnv⟩ : ∃ nv, nv = l.length := ⟨_, rfl⟩
  rw [← hnv] at h ⊢
  obtain ⟨w1, hw1⟩ : ∃ w1, w1 = w.alloc (.cells #[.int .i64 0, .int .i64 0, .int .u64 0, .int .i64 0, .slice none 0 0, .slice none 0 0] 38) := ⟨_, rfl⟩
  have HW1 : Hid (w1 = w.alloc (.cells #[.int .i64 0, .int .i64 0, .int .u64 0, .int .i64 0, .slice none 0 0, .slice none 0 0] 38)) := hw1
  have hb1 : Below w.heap.size w w1 := by rw [hw1]; exact balloc (Below.refl _ _) _
  have hs1 : w1.heap.size = w.heap.size + 1 := by rw [hw1]; simp
  have hx1 : Blk w1 w.heap.size 38 z38 := by rw [hw1]; exact blk_newA _ z38 _ 38 _ rfl rfl
  obtain ⟨c, hc⟩ : ∃ c, c = (readC l 0).1 := ⟨_, rfl⟩
  obtain ⟨l2, hl2⟩ : ∃ l2, l2 = (readC l 0).2.1 := ⟨_, rfl⟩
  obtain ⟨k2, hk2⟩ : ∃ k2, k2 = (readC l 0).2.2 := ⟨_, rfl⟩
  have H51 : Hid (Calls Try.prog 51 #[.slice xv nv pv] w1 fun r w2 => ∃ rb, r = .returned (ptr rb) ∧ (w1.heap.size ≤ rb ∧ Rdr w2 rb l 0 ∧ w1.grownBy w2 none)) := (show Calls _ _ _ _ _ from (read_any w1 _ l (h.below hb1) (by omega)))
  have H52 : Hid (∀ w2 rb, (w1.heap.size ≤ rb ∧ Rdr w2 rb l 0 ∧ w1.grownBy w2 none) → Calls Try.prog 52 #[.agg #[ptr rb]] (w2.alloc (.cells #[ptr rb] 104)) fun r w4 => ∃ a b qs, r = .returned (cv c a b) ∧ RdSt w (w4.alloc (.cells (cc c a b).toArray 38)) rb w2.heap.size w4.heap.size l2 k2 c a b qs) := fun w2 rb hh => by
    obtain ⟨h1, h2, h3⟩ := hh
    have hb3 : Below w2.heap.size w2 (w2.alloc (.cells #[ptr rb] 104)) := balloc (Below.refl _ _) _
    have hbox := blk_new w2 [ptr rb] 104
    have hlt := h2.lt
    have hs2 := h3.size
    refine (change52 (h2.kept (below_grown hb3)) hl).mono ?_
    rintro r w4 ⟨a, b, qs, rfl, h4, h5, h6, h7⟩
    rw [← hc] at h4 ⊢
    rw [← hl2, ← hk2] at h6
    refine ⟨a, b, qs, rfl, ?_⟩
    have hb5 : Below w4.heap.size w4 (w4.alloc (.cells (cc c a b).toArray 38)) := balloc (Below.refl _ _) _
    have y1 := (hx1.block (h3.block _ hx1.lt (by simp))).below hb3
    have y1' := y1.block (h7.block _ y1.lt (fun e => by have := Option.some.inj e; omega))
    have y2 := hbox.block (h7.block _ hbox.lt (fun e => by have := Option.some.inj e; omega))
    have hbb : Below w.heap.size w (w2.alloc (.cells #[ptr rb] 104)) := bnext (hb1.grown h3 (by omega) (fun _ e => by cases e)) hb3
    have hbb2 : Below w.heap.size w w4 := hbb.grown h7 (by rw [World.size_alloc]; omega) (fun j e => by have := Option.some.inj e; omega)
    exact ⟨y1'.below hb5, y2.below hb5, blk_newA _ _ _ 38 _ rfl rfl, h6.kept (below_grown hb5), h4.below hb5, (fun j hj => by have := h5 j hj; rw [World.size_alloc] at this; omega), bnext hbb2 hb5⟩
  have HM : Hid (readM l = if doneK l2 k2 ≠ 0 then (zC, doneK l2 k2) else if rightB c = true then (c, 0) else (zC, 4)) := (show _ = _ by unfold readM; rw [hc, hl2, hk2])
  clear h hnv hw1 hb1 hs1 hx1 hc hl2 hk2
  go_enter Try.func28, Try.ntmps28
  go_upto_region 1 with fail
  rw [← HW1.out]
  go_upto_region 2 with (go_at_call 51; go_must (refine H51.out.mono ?_; rintro r w2 ⟨rb, rfl, h2⟩; have HR2 : Hid (w1.heap.size ≤ rb ∧ Rdr w2 rb l 0 ∧ w1.grownBy w2 none) := h2; clear h2))
  obtain ⟨ck, cw, cp, cm, cws, co⟩ := c
  unfold cv cc at H52
  dsimp only at H52
  go_upto_region 3 with (go_at_call 52; go_must (refine (H52.out w2 rb HR2.out).mono ?_; rintro r w4 ⟨a, b, qs, rfl, h4⟩; obtain ⟨⟨xa, na, pa, rfl⟩, xb, nb, pb, rfl⟩ := slices_of h4.cg; have HS4 : Hid (RdSt w (w4.alloc (.cells #[.int .i64 ck, .int .i64 cw, .int .u64 cp, .int .i64 cm, .slice xa na pa, .slice xb nb pb] 38)) rb w2.heap.size w4.heap.size l2 k2 ⟨ck, cw, cp, cm, cws, co⟩ (.slice xa na pa) (.slice xb nb pb) qs) := h4; clear h4))
  obtain ⟨w5, hw5⟩ : ∃ w5, w5 = w4.alloc (.cells #[.int .i64 ck, .int .i64 cw, .int .u64 cp, .int .i64 cm, .slice xa na pa, .slice xb nb pb] 38) := ⟨_, rfl⟩
  obtain ⟨b4, hb4⟩ : ∃ b4, b4 = w2.heap.size := ⟨_, rfl⟩
  obtain ⟨b5, hb5⟩ : ∃ b5, b5 = w4.heap.size := ⟨_, rfl⟩
  rw [← hw5, ← hb4, ← hb5] at HS4 ⊢
  clear hw5 hb4 hb5 H51 H52 HR2 HW1
  obtain ⟨dk, hdk⟩ : ∃ dk, dk = doneK l2 k2 := ⟨_, rfl⟩
  have H53 : Hid (Calls Try.prog 53 #[ptr rb] w5 fun r w' => r = .returned (.int .i64 dk) ∧ w' = w5) := (show Calls _ _ _ _ _ from by rw [hdk]; exact done_any _ _ _ _ HS4.out.rdr)
  rw [← hdk] at HM
  have hbx := HS4.out.box.cell 0 _ rfl
  have u0 := HS4.out.var.cell 0 _ rfl; have u1 := HS4.out.var.cell 1 _ rfl; have u2 := HS4.out.var.cell 2 _ rfl; have u3 := HS4.out.var.cell 3 _ rfl; have u4 := HS4.out.var.cell 4 _ rfl; have u5 := HS4.out.var.cell 5 _ rfl
  dsimp only at u0 u1 u2 u3 u4 u5
  have y0 := HS4.out.res.cell 0 _ rfl; have y1 := HS4.out.res.cell 1 _ rfl; have y2 := HS4.out.res.cell 2 _ rfl; have y3 := HS4.out.res.cell 3 _ rfl; have y4 := HS4.out.res.cell 4 _ rfl; have y5 := HS4.out.res.cell 5 _ rfl
  have f0 := HS4.out.res.frozen 0; have f1 := HS4.out.res.frozen 1; have f2 := HS4.out.res.frozen 2; have f3 := HS4.out.res.frozen 3; have f4 := HS4.out.res.frozen 4; have f5 := HS4.out.res.frozen 5
  by_cases hd0 : dk = 0
  · subst hd0
    simp only [ne_eq, not_true, if_false] at HM
    have H27 : Hid (Calls Try.prog 27 #[.agg #[.int .i64 ck, .int .i64 cw, .int .u64 cp, .int .i64 cm, .slice xa na pa, .slice xb nb pb]] w5 fun r w' => r = .returned (.bool (rightB ⟨ck, cw, cp, cm, cws, co⟩)) ∧ Below w5.heap.size w5 w') := (show Calls _ _ _ _ _ from right27 HS4.out.cg)
    clear hdk
    cases hrb : rightB ⟨ck, cw, cp, cm, cws, co⟩
    · rw [hrb] at HM H27
      simp only [Bool.false_eq_true, if_false] at HM
      go_wp2_with (first
        | (go_at_call 53; go_must (refine H53.out.mono ?_; rintro r w6 ⟨rfl, rfl⟩))
        | (go_at_call 27; go_must (refine H27.out.mono ?_; rintro r w7 ⟨rfl, hb7⟩; have HB7 : Hid (Below w6.heap.size w6 w7) := hb7; clear hb7; clear y0 y1 y2 y3 y4 y5 f0 f1 f2 f3 f4 f5; have y0 := (HS4.out.res.below HB7.out).cell 0 _ rfl; have y1 := (HS4.out.res.below HB7.out).cell 1 _ rfl; have y2 := (HS4.out.res.below HB7.out).cell 2 _ rfl; have y3 := (HS4.out.res.below HB7.out).cell 3 _ rfl; have y4 := (HS4.out.res.below HB7.out).cell 4 _ rfl; have y5 := (HS4.out.res.below HB7.out).cell 5 _ rfl; have f0 := (HS4.out.res.below HB7.out).frozen 0; have f1 := (HS4.out.res.below HB7.out).frozen 1; have f2 := (HS4.out.res.below HB7.out).frozen 2; have f3 := (HS4.out.res.below HB7.out).frozen 3; have f4 := (HS4.out.res.below HB7.out).frozen 4; have f5 := (HS4.out.res.below HB7.out).frozen 5)))
      refine bodyPost_ret (v := .tuple #[.agg #[.int .i64 0, .int .i64 0, .int .u64 0, .int .i64 0, .slice none 0 0, .slice none 0 0], .int .i64 4]) ?_ rfl ?_
      · rw [results_cell_tmp rfl]
        go_simp
      · rw [HM.out]
        refine ⟨.slice none 0 0, .slice none 0 0, [], rfl, cg_zC _, ?_⟩
        exact below_put6 (bnext HS4.out.bel HB7.out) (Nat.le_refl _) _ _ _ _ _ _
    · rw [hrb] at HM H27
      simp only [if_true] at HM
      go_wp2_with (first
        | (go_at_call 53; go_must (refine H53.out.mono ?_; rintro r w6 ⟨rfl, rfl⟩))
        | (go_at_call 27; go_must (refine H27.out.mono ?_; rintro r w7 ⟨rfl, hb7⟩; have HB7 : Hid (Below w6.heap.size w6 w7) := hb7; clear hb7; clear y0 y1 y2 y3 y4 y5 f0 f1 f2 f3 f4 f5 u0 u1 u2 u3 u4 u5; have y0 := (HS4.out.res.below HB7.out).cell 0 _ rfl; have y1 := (HS4.out.res.below HB7.out).cell 1 _ rfl; have y2 := (HS4.out.res.below HB7.out).cell 2 _ rfl; have y3 := (HS4.out.res.below HB7.out).cell 3 _ rfl; have y4 := (HS4.out.res.below HB7.out).cell 4 _ rfl; have y5 := (HS4.out.res.below HB7.out).cell 5 _ rfl; have f0 := (HS4.out.res.below HB7.out).frozen 0; have f1 := (HS4.out.res.below HB7.out).frozen 1; have f2 := (HS4.out.res.below HB7.out).frozen 2; have f3 := (HS4.out.res.below HB7.out).frozen 3; have f4 := (HS4.out.res.below HB7.out).frozen 4; have f5 := (HS4.out.res.below HB7.out).frozen 5; have u0 := (HS4.out.var.below HB7.out).cell 0 _ rfl; have u1 := (HS4.out.var.below HB7.out).cell 1 _ rfl; have u2 := (HS4.out.var.below HB7.out).cell 2 _ rfl; have u3 := (HS4.out.var.below HB7.out).cell 3 _ rfl; have u4 := (HS4.out.var.below HB7.out).cell 4 _ rfl; have u5 := (HS4.out.var.below HB7.out).cell 5 _ rfl; dsimp only at u0 u1 u2 u3 u4 u5)))
      refine bodyPost_ret (v := .tuple #[.agg #[.int .i64 ck, .int .i64 cw, .int .u64 cp, .int .i64 cm, .slice xa na pa, .slice xb nb pb], .int .i64 0]) ?_ rfl ?_
      · rw [results_cell_tmp rfl]
        go_simp
      · rw [HM.out]
        refine ⟨.slice xa na pa, .slice xb nb pb, qs, rfl, ?_, ?_⟩
        · exact cg_put6 (HS4.out.cg.below HB7.out) (HS4.out.res.below HB7.out) z38_noB (fun j hj => by have := HS4.out.far j hj; omega) (.int .i64 ck) (.int .i64 cw) (.int .u64 cp) (.int .i64 cm) (.slice xa na pa) (.slice xb nb pb) rfl rfl rfl rfl rfl rfl
        · exact below_put6 (bnext HS4.out.bel HB7.out) (Nat.le_refl _) _ _ _ _ _ _
  · have HM2 : Hid (readM l = (zC, dk)) := (show _ = _ by rw [HM.out, if_pos hd0])
    clear HM hdk
    go_wp2_with (go_at_call 53; go_must (refine H53.out.mono ?_; rintro r w6 ⟨rfl, rfl⟩))
    refine bodyPost_ret (v := .tuple #[.agg #[.int .i64 0, .int .i64 0, .int .u64 0, .int .i64 0, .slice none 0 0, .slice none 0 0], .int .i64 dk]) ?_ rfl ?_
    · rw [results_cell_tmp rfl]
      go_simp
    · rw [HM2.out]
      refine ⟨.slice none 0 0, .slice none 0 0, [], rfl, cg_zC _, ?_⟩
      exact below_put6 HS4.out.bel (Nat.le_refl _) _ _ _ _ _ _
end Go.Proofs.Ytgoghmabhdkdjaa
