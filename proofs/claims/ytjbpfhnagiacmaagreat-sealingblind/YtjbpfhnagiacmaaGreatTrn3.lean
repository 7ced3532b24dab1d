/-
  What invite does to a turn.
-/
import Derived.Test.YtjbpfhnagiacmaaGreatTrn2
namespace Go.Proofs.YtjbpfhnagiacmaaGreat
set_option linter.unusedVariables false
set_option linter.unusedSimpArgs false
set_option synthInstance.maxSize 20000
set_option maxHeartbeats 2000000
set_option maxRecDepth 20000
open Go.RowKit Go.Maps
def roomM (who : Int) (l : List Mb) : Nat := (l.findIdx? (overW who)).getD l.length
theorem roomM_le (who : Int) (l : List Mb) : roomM who l ≤ l.length := by
  unfold roomM
  cases e : l.findIdx? (overW who) with
  | none => exact Nat.le_refl _
  | some i => exact Nat.le_of_lt (List.findIdx?_eq_some_iff_getElem.1 e).1
theorem room55 {w : World} {tb : Nat} {lv a b : Value} {e : Int} {c : Cg} {l : List Mb} (h : Blk w tb 132 (tc lv e c a b)) (hl : RowF mc w lv l) (who : Int) : Calls Tryz.prog 105 #[ptr tb, .int .i64 who] w fun r w' => r = .returned (.int .i64 (roomM who l : Nat)) ∧ Below w.heap.size w w' := by
  obtain ⟨al, cl, rfl⟩ := hl.len
  obtain ⟨w1, hw1⟩ : ∃ w1, w1 = w.alloc (.cells #[.int .i64 who] 3) := ⟨_, rfl⟩
  have hb1 : Below w.heap.size w w1 := by rw [hw1]; exact balloc (Below.refl _ _) _
  have HI : Hid (Calls Tryz.prog 121 #[.slice al l.length cl, .func (.func 125) #[] #[ptr w.heap.size]] w1 fun r w' => r = .returned (.int .i64 (idxG (overW who) l)) ∧ Below w.heap.size w w') := by
    refine (idx59 (hl.below hb1) (overW who) 125 #[ptr w.heap.size] enter70 (fun w' m hb hm => ?_)).mono ?_
    · exact room70 m who w' w.heap.size (by rw [hw1] at hb; exact (blk_new w [.int .i64 who] 3).below hb)
    · rintro r w' ⟨rfl, hb⟩
      exact ⟨rfl, bnext hb1 hb⟩
  have k0 := (h.below hb1).cell 0 _ rfl
  have HK : Hid (∀ w', Below w.heap.size w w' → w'.cell? ⟨tb, 0, none⟩ = some (.slice al l.length cl)) := fun w' hb => (h.below hb).cell 0 _ rfl
  have HW1 : Hid (w1 = w.alloc (.cells #[.int .i64 who] 3)) := hw1
  unfold roomM
  unfold idxG at HI
  cases hf : l.findIdx? (overW who) with
  | none =>
    rw [hf] at HI
    have HI2 : Hid (Calls Tryz.prog 121 #[.slice al l.length cl, .func (.func 125) #[] #[ptr w.heap.size]] w1 fun r w' => r = .returned (.int .i64 (-1)) ∧ Below w.heap.size w w') := HI
    show Calls _ _ _ _ (fun r w' => r = .returned (.int .i64 (l.length : Int)) ∧ _)
    clear hf HI h hl hw1 hb1
    go_enter Tryz.func105, Tryz.ntmps105
    go_upto_region 1 with fail
    rw [← HW1.out]
    go_wp2_with (go_at_call 121; go_must (refine HI2.out.mono ?_; rintro r w2 ⟨rfl, hb2⟩; have k1 := HK.out w2 hb2))
    go_ret
    exact ⟨rfl, hb2⟩
  | some i =>
    rw [hf] at HI
    have HI2 : Hid (Calls Tryz.prog 121 #[.slice al l.length cl, .func (.func 125) #[] #[ptr w.heap.size]] w1 fun r w' => r = .returned (.int .i64 (i : Int)) ∧ Below w.heap.size w w') := HI
    show Calls _ _ _ _ (fun r w' => r = .returned (.int .i64 (i : Int)) ∧ _)
    clear hf HI h hl hw1 hb1
    go_enter Tryz.func105, Tryz.ntmps105
    go_upto_region 1 with fail
    rw [← HW1.out]
    go_wp2_with (go_at_call 121; go_must (refine HI2.out.mono ?_; rintro r w2 ⟨rfl, hb2⟩))
    go_ret
    exact ⟨rfl, hb2⟩
def invK (l : List Mb) (who : Int) : Int := if (findM l who).isSome then 13 else 0
def newM (e : Int) (c : Cg) : Mb := ⟨c.w, c.p, e + 1, -1, 0⟩
def insL (l : List Mb) (m : Mb) : List Mb := l.take (roomM m.w l) ++ m :: l.drop (roomM m.w l)
def invL (l : List Mb) (e : Int) (c : Cg) : List Mb := if (findM l c.w).isSome then l else insL l (newM e c)
theorem own_type {B : Nat} {w : World} {v : Value} {l : List Mb} {tb : Nat} {vs : List Value} (h : OwnH B w v l) (hb : Blk w tb 132 vs) : ∀ k, v.ownBlock = some k → k ≠ tb := fun k hk e => by
  subst e
  obtain ⟨_, _, h2⟩ := h
  rcases h2 with ⟨rfl, _⟩ | ⟨g, cap, cur, rfl, h3, h4, h5⟩
  · cases hk
  · cases hk
    unfold Blk at hb
    rw [hb] at h4
    simp at h4
theorem invite33 {w : World} {tb B : Nat} {lv a b : Value} {e : Int} {c : Cg} {l : List Mb} (h : TrnAt w B tb lv e c a b l) (hlen : l.length ≤ 900) (hBw : B ≤ w.heap.size) (he : EOk e) (hab : (∃ x n q, a = .slice x n q) ∧ ∃ x n q, b = .slice x n q) :
    Calls Tryz.prog 64 #[ptr tb] w fun r w' => ∃ lv', r = .returned (.int .i64 (invK l c.w)) ∧ TrnAt w' B tb lv' e c a b (invL l e c) ∧ Below B w w' := by
  obtain ⟨⟨xa, na, qa, rfl⟩, xb, nb, qb, rfl⟩ := hab
  obtain ⟨al, cl, rfl⟩ := h.own.rd.len
  have he1 := he.1
  have he2 := he.2
  have HT : Hid (∀ w', Below w.heap.size w w' → TrnAt w' B tb (.slice al l.length cl) e c (.slice xa na qa) (.slice xb nb qb) l) := fun w' hb => h.below hb
  have HP : Hid (Calls Tryz.prog 103 #[.slice al l.length cl, .int .i64 c.w] w fun r w' => r = .returned (.int .i64 (idxG (atW c.w) l)) ∧ Below w.heap.size w w') := (show Calls _ _ _ _ _ from place38 h.own.rd c.w)
  have HLow : Hid (∀ w', Below w.heap.size w w' → Below B w w') := fun w' hb => hb.mono hBw
  have t3 := h.blk.cell 3 _ rfl
  have t0 := h.blk.cell 0 _ rfl
  unfold invK invL findM
  rcases idxG_find (l := l) (p := atW c.w) with ⟨h1, h2⟩ | ⟨i, m, h1, h2, h3, h4, h5⟩
  · rw [h1]
    rw [h2] at HP
    simp only [Option.isSome_none, Bool.false_eq_true, if_false]
    have HRm : Hid (∀ w', Below w.heap.size w w' → Calls Tryz.prog 105 #[ptr tb, .int .i64 c.w] w' fun r w'' => r = .returned (.int .i64 (roomM c.w l : Nat)) ∧ Below w.heap.size w w'') := fun w' hb =>
      (room55 (HT.out w' hb).blk (HT.out w' hb).own.rd c.w).mono fun r w'' h' => ⟨h'.1, bnext hb h'.2⟩
    have HIns : Hid (∀ w' vb, Below w.heap.size w w' → w.heap.size ≤ vb → Blk w' vb 116 (mc (newM e c)) → Calls Tryz.prog 104 #[.slice al l.length cl, .int .i64 (roomM c.w l : Nat), .slice (some ⟨vb, 0, none⟩) 1 1] w' fun r w'' => ∃ a n q, r = .returned (.slice a n q) ∧ n = (insL l (newM e c)).length ∧ OwnH B w'' (.slice a n q) (insL l (newM e c)) ∧ Below B w w'' ∧ Blk w'' tb 132 (tc (.slice al l.length cl) e c (.slice xa na qa) (.slice xb nb qb))) := fun w' vb hb hvb hX => by
      have T := HT.out w' hb
      refine (insert_any (.slice al l.length cl) l (roomM c.w l) (newM e c) vb B w' T.own hX trivial (roomM_le _ _) (by omega) (Nat.le_trans hBw hb.size) (fun e1 => ?_)).mono ?_
      · have := (h.own.lt vb e1).2
        omega
      · rintro r w'' ⟨v', rfl, ho, hg⟩
        obtain ⟨a, q, e1⟩ := ho.rd.len
        subst e1
        refine ⟨a, _, q, rfl, rfl, ho, ?_, ?_⟩
        · exact (HLow.out _ hb).grown hg (Nat.le_trans hBw hb.size) (fun k hk => (h.own.lt k hk).1)
        · exact T.blk.past' hg T.ne
    have hrm := roomM_le c.w l
    clear h1 h2
    have HTB : Hid (B ≤ tb) := h.tb
    go_enter Tryz.func64, Tryz.ntmps64
    go_upto_region 6 with (go_at_call 103; go_must (refine HP.out.mono ?_; rintro r w2 ⟨rfl, hb2⟩; have y1 := (HT.out w2 hb2).blk.cell 1 _ rfl))
    have HB2 : Hid (Below w.heap.size w w2.drew) := (show Below _ _ _ from hb2.drew)
    have B2 := (HT.out w2.drew HB2.out).blk
    have HK2 : Hid (Blk w2.drew tb 132 (tc (.slice al l.length cl) e c (.slice xa na qa) (.slice xb nb qb))) := B2
    have z0 := fun z : WIn (fun w' => Blk w' tb 132 (tc (.slice al l.length cl) e c (.slice xa na qa) (.slice xb nb qb))) => z.ok.cell 0 _ rfl
    have z1 := fun z : WIn (fun w' => Blk w' tb 132 (tc (.slice al l.length cl) e c (.slice xa na qa) (.slice xb nb qb))) => z.ok.cell 1 _ rfl
    have z4 := fun z : WIn (fun w' => Blk w' tb 132 (tc (.slice al l.length cl) e c (.slice xa na qa) (.slice xb nb qb))) => z.ok.cell 4 _ rfl
    have ne : Nonempty (WIn (fun w' => Blk w' tb 132 (tc (.slice al l.length cl) e c (.slice xa na qa) (.slice xb nb qb)))) := ⟨⟨w2.drew, B2⟩⟩
    clear B2 y1 t0 t3 h hb2
    refine wp_region_treeZ (C := fun w' => ∃ z : WIn (fun w' => Blk w' tb 132 (tc (.slice al l.length cl) e c (.slice xa na qa) (.slice xb nb qb))), w' = z.w) 27 (.still 0 (.still 1 (.still 2 (.still 3 (.still 4 (.still 5 (.still 6 (.still 7 (.still 9 (.still 10 (.still 11 (.still 12 (.still 13 (.still 14 (.still 15 (.still 16 (.still 17 (.still 18 (.still 19 (.still 20 (.still 21 (.two 8 (.one 22 (.one 23 (.one 24 (.one 25 (.still 26 .done))))) 22 (.one 8 (.one 23 (.one 24 (.one 25 (.still 26 .done))))))))))))))))))))))))))) rfl (by kernel_rfl) (by kernel_rfl) ⟨⟨w2.drew, HK2.out⟩, rfl⟩ ?_
    generalize w2.drew = wd at *
    iterate 21 (refine tree_still rfl rfl ?_; go_big_quiet_step (fail); refine wpQuiet_nil ?_)
    refine tree_two rfl rfl rfl rfl ?_ ?_
    · go_simp
      refine (HRm.out wd HB2.out).mono ?_
      rintro r w3 ⟨rfl, hb3⟩
      have HB3 : Hid (Below w.heap.size w w3) := hb3
      have HK3 : Hid (Blk w3 tb 132 (tc (.slice al l.length cl) e c (.slice xa na qa) (.slice xb nb qb))) := (HT.out w3 hb3).blk
      clear hb3
      have HBX : Below w.heap.size w (w3.alloc (.cells #[.int .i64 c.w, .int .u64 c.p, .int .i64 (e + 1), .int .i64 (-1), .int .i64 0] 116)) := balloc HB3.out _
      have HKX : Hid (Blk (w3.alloc (.cells #[.int .i64 c.w, .int .u64 c.p, .int .i64 (e + 1), .int .i64 (-1), .int .i64 0] 116)) tb 132 (tc (.slice al l.length cl) e c (.slice xa na qa) (.slice xb nb qb))) := HK3.out.alloc _
      have HSZ := HB3.out.size
      have HMX : Blk (w3.alloc (.cells #[.int .i64 c.w, .int .u64 c.p, .int .i64 (e + 1), .int .i64 (-1), .int .i64 0] 116)) w3.heap.size 116 (mc (newM e c)) := blk_new w3 (mc (newM e c)) 116
      refine ⟨⟨⟨_, HK3.out⟩, rfl⟩, ?_⟩
      go_simp
      refine tree_one rfl rfl ?_
      go_simp
      refine ⟨⟨⟨_, HKX.out⟩, rfl⟩, ?_⟩
      go_simp
      refine tree_one rfl rfl ?_
      go_simp
      refine (HIns.out _ w3.heap.size HBX HSZ HMX).mono ?_
      rintro r w4 ⟨a4, n4, q4, rfl, hn4, ho4, hb4, hk4⟩
      have HN4 : Hid (n4 = (insL l (newM e c)).length) := hn4
      have HO4 : Hid (OwnH B w4 (.slice a4 n4 q4) (insL l (newM e c))) := ho4
      have HB4 : Hid (Below B w w4) := hb4
      have HK4 : Hid (Blk w4 tb 132 (tc (.slice al l.length cl) e c (.slice xa na qa) (.slice xb nb qb))) := hk4
      have e0 := hk4.cell 0 _ rfl
      have f0 := hk4.frozen 0
      clear hn4 ho4 hb4 hk4
      refine ⟨⟨⟨_, HK4.out⟩, rfl⟩, ?_⟩
      go_simp
      iterate 2 (refine tree_one rfl rfl ?_; go_simp; refine ⟨⟨⟨_, HK4.out⟩, rfl⟩, ?_⟩)
      refine tree_still rfl rfl ?_
      go_big_quiet_step (fail)
      refine wpQuiet_nil ?_
      refine tree_done ?_
      refine ⟨rfl, ?_⟩
      go_simp
      clear z0 z1 z4 ne
      go_wp2
      go_ret
      refine ⟨_, rfl, ⟨HK4.out.set 0 _, ?_, ?_, HTB.out⟩, HB4.out.setCell HTB.out _⟩
      · exact ⟨fun _ _ => trivial, ownsRow_block HO4.out.2 (fun k hk => Below.heap_setCell _ _ _ _ (own_type HO4.out HK4.out k hk))⟩
      · intro hk
        exact own_type HO4.out HK4.out _ hk rfl
    · go_simp
      have HBx : Hid (Below w.heap.size w (wd.alloc (.cells #[.int .i64 c.w, .int .u64 c.p, .int .i64 (e + 1), .int .i64 (-1), .int .i64 0] 116))) := balloc HB2.out _
      have HKx : Hid (Blk (wd.alloc (.cells #[.int .i64 c.w, .int .u64 c.p, .int .i64 (e + 1), .int .i64 (-1), .int .i64 0] 116)) tb 132 (tc (.slice al l.length cl) e c (.slice xa na qa) (.slice xb nb qb))) := HK2.out.alloc _
      have HMx : Blk (wd.alloc (.cells #[.int .i64 c.w, .int .u64 c.p, .int .i64 (e + 1), .int .i64 (-1), .int .i64 0] 116)) wd.heap.size 116 (mc (newM e c)) := blk_new wd (mc (newM e c)) 116
      have HSZ := HB2.out.size
      obtain ⟨w3, hw3⟩ : ∃ w3, w3 = wd.alloc (.cells #[.int .i64 c.w, .int .u64 c.p, .int .i64 (e + 1), .int .i64 (-1), .int .i64 0] 116) := ⟨_, rfl⟩
      rw [← hw3] at HBx HKx HMx ⊢
      clear hw3
      refine ⟨⟨⟨_, HKx.out⟩, rfl⟩, ?_⟩
      go_simp
      refine tree_one rfl rfl ?_
      go_simp
      have HRm2 : Hid (Calls Tryz.prog 105 #[ptr tb, .int .i64 c.w] w3 fun r w'' => r = .returned (.int .i64 (roomM c.w l : Nat)) ∧ Below w3.heap.size w3 w'') := (show Calls _ _ _ _ _ from room55 HKx.out (HT.out _ HBx.out).own.rd c.w)
      refine HRm2.out.mono ?_
      rintro r w5 ⟨rfl, hb5⟩
      have HBX : Below w.heap.size w w5 := bnext HBx.out hb5
      have HK5 : Hid (Blk w5 tb 132 (tc (.slice al l.length cl) e c (.slice xa na qa) (.slice xb nb qb))) := (HT.out w5 HBX).blk
      have HMX : Blk w5 wd.heap.size 116 (mc (newM e c)) := HMx.below hb5
      refine ⟨⟨⟨_, HK5.out⟩, rfl⟩, ?_⟩
      go_simp
      refine tree_one rfl rfl ?_
      go_simp
      refine (HIns.out _ wd.heap.size HBX HSZ HMX).mono ?_
      rintro r w4 ⟨a4, n4, q4, rfl, hn4, ho4, hb4, hk4⟩
      have HN4 : Hid (n4 = (insL l (newM e c)).length) := hn4
      have HO4 : Hid (OwnH B w4 (.slice a4 n4 q4) (insL l (newM e c))) := ho4
      have HB4 : Hid (Below B w w4) := hb4
      have HK4 : Hid (Blk w4 tb 132 (tc (.slice al l.length cl) e c (.slice xa na qa) (.slice xb nb qb))) := hk4
      have e0 := hk4.cell 0 _ rfl
      have f0 := hk4.frozen 0
      clear hn4 ho4 hb4 hk4
      refine ⟨⟨⟨_, HK4.out⟩, rfl⟩, ?_⟩
      go_simp
      iterate 2 (refine tree_one rfl rfl ?_; go_simp; refine ⟨⟨⟨_, HK4.out⟩, rfl⟩, ?_⟩)
      refine tree_still rfl rfl ?_
      go_big_quiet_step (fail)
      refine wpQuiet_nil ?_
      refine tree_done ?_
      refine ⟨rfl, ?_⟩
      go_simp
      clear z0 z1 z4 ne
      go_wp2
      go_ret
      refine ⟨_, rfl, ⟨HK4.out.set 0 _, ?_, ?_, HTB.out⟩, HB4.out.setCell HTB.out _⟩
      · exact ⟨fun _ _ => trivial, ownsRow_block HO4.out.2 (fun k hk => Below.heap_setCell _ _ _ _ (own_type HO4.out HK4.out k hk))⟩
      · intro hk
        exact own_type HO4.out HK4.out _ hk rfl
  · rw [h1]
    rw [h2] at HP
    simp only [Option.isSome_some, if_true]
    clear h1 h2 h3 h4 h5
    go_enter Tryz.func64, Tryz.ntmps64
    go_wp2_with (go_at_call 103; go_must (refine HP.out.mono ?_; rintro r w2 ⟨rfl, hb2⟩))
    go_ret
    exact ⟨_, rfl, HT.out w2 hb2, HLow.out _ hb2⟩
end Go.Proofs.YtjbpfhnagiacmaaGreat
