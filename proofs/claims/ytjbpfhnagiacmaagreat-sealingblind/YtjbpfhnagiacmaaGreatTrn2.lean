/-
  What revoke does to a turn.
-/
import Derived.Test.YtjbpfhnagiacmaaGreatTrn
namespace Go.Proofs.YtjbpfhnagiacmaaGreat
set_option linter.unusedVariables false
set_option linter.unusedSimpArgs false
set_option synthInstance.maxSize 20000
set_option maxHeartbeats 2000000
set_option maxRecDepth 20000
open Go.RowKit Go.Maps
def goneM (m : Mb) (e lim : Int) : Mb := { m with t := if e = -1 then -2 else e, l := lim }
theorem csH_split {l : List Mb} {i : Nat} {m : Mb} (h : l[i]? = some m) (t : List Value) : csH l ++ t = csH (l.take i) ++ (mc m ++ (csH (l.drop (i + 1)) ++ t)) := by
  have hi := List.getElem?_eq_some_iff.1 h
  have e : l = l.take i ++ m :: l.drop (i + 1) := by
    rw [← hi.2, List.getElem_cons_drop, List.take_append_drop]
  conv => lhs; rw [e]
  rw [csH_append, csH_cons]
  simp [List.append_assoc]
theorem csH_take_len {l : List Mb} {i : Nat} (h : i < l.length) : (csH (l.take i)).length = i * 5 := by rw [csH_length, List.length_take]; congr 1; omega
theorem set_split {A R : List Value} {n k : Nat} {x : Value} (h : A.length = n) : (A ++ R).set (n + k) x = A ++ R.set k x := by
  rw [List.set_append_right _ _ (by omega), h]
  congr 2
  omega
theorem csH_set2 {l : List Mb} {i : Nat} {m : Mb} (h : l[i]? = some m) (t : List Value) (x y : Int) : ((csH l ++ t).set (i * 5 + 3) (.int .i64 x)).set (i * 5 + 4) (.int .i64 y) = csH (l.set i { m with t := x, l := y }) ++ t := by
  have hi := List.getElem?_eq_some_iff.1 h
  have hl := csH_take_len hi.1
  rw [csH_split h t, set_split hl, set_split hl]
  have h2 : (l.set i { m with t := x, l := y })[i]? = some { m with t := x, l := y } := by simp [hi.1]
  rw [csH_split h2 t, List.take_set_of_le (Nat.le_refl _), List.drop_set_of_lt (by omega)]
  rfl
theorem csH_set3 {l : List Mb} {i : Nat} {m : Mb} (h : l[i]? = some m) (t : List Value) (x y z : Int) : (((csH l ++ t).set (i * 5 + 3) (.int .i64 x)).set (i * 5 + 4) (.int .i64 y)).set (i * 5 + 3) (.int .i64 z) = csH (l.set i { m with t := z, l := y }) ++ t := by
  have hi := List.getElem?_eq_some_iff.1 h
  have hl := csH_take_len hi.1
  rw [csH_split h t, set_split hl, set_split hl, set_split hl]
  have h2 : (l.set i { m with t := z, l := y })[i]? = some { m with t := z, l := y } := by simp [hi.1]
  rw [csH_split h2 t, List.take_set_of_le (Nat.le_refl _), List.drop_set_of_lt (by omega)]
  rfl
def revK (l : List Mb) (who : Int) : Int := match l.find? (atW who) with
  | none => 20
  | some m => if on m then 0 else 10
def revL (l : List Mb) (e : Int) (c : Cg) : List Mb := match l.find? (atW c.w) with
  | none => l
  | some m => if on m then l.set (idxG (atW c.w) l).toNat (goneM m e c.l) else l
structure TrnAt (w : World) (B tb : Nat) (lv : Value) (e : Int) (c : Cg) (a b : Value) (l : List Mb) : Prop where
  blk : Blk w tb 132 (tc lv e c a b)
  own : OwnH B w lv l
  ne : lv.ownBlock ≠ some tb
  tb : B ≤ tb
theorem TrnAt.below {w w' : World} {B tb : Nat} {lv : Value} {e : Int} {c : Cg} {a b : Value} {l : List Mb} (h : TrnAt w B tb lv e c a b l) (hb : Below w.heap.size w w') : TrnAt w' B tb lv e c a b l :=
  ⟨h.blk.below hb, ⟨h.own.1, own_below h.own.2 hb⟩, h.ne, h.tb⟩
theorem revoke34 {w : World} {tb B : Nat} {lv a b : Value} {e : Int} {c : Cg} {l : List Mb} (h : TrnAt w B tb lv e c a b l) (hlen : l.length ≤ 1000) (hBw : B ≤ w.heap.size) (hab : (∃ x n q, a = .slice x n q) ∧ ∃ x n q, b = .slice x n q) :
    Calls Tryz.prog 65 #[ptr tb] w fun r w' => r = .returned (.int .i64 (revK l c.w)) ∧ TrnAt w' B tb lv e c a b (revL l e c) ∧ Below B w w' := by
  obtain ⟨⟨xa, na, qa, rfl⟩, xb, nb, qb, rfl⟩ := hab
  obtain ⟨al, cl, rfl⟩ := h.own.rd.len
  have hcap := h.own.rd.caps
  have hc1 : l.length ≤ cl := hcap.2.1
  have hc2 : cl ≤ 9223372036854775807 := hcap.2.2
  have HT : Hid (∀ w', Below w.heap.size w w' → TrnAt w' B tb (.slice al l.length cl) e c (.slice xa na qa) (.slice xb nb qb) l) := fun w' hb => h.below hb
  have HP : Hid (Calls Tryz.prog 103 #[.slice al l.length cl, .int .i64 c.w] w.drew fun r w' => r = .returned (.int .i64 (idxG (atW c.w) l)) ∧ Below w.heap.size w w') :=
    (show Calls _ _ _ _ _ from (place38 (show RowF mc w.drew _ l from h.own.rd) c.w).mono fun r w' h' => ⟨h'.1, h'.2.os, h'.2.tape, h'.2.output, h'.2.size, h'.2.block⟩)
  have ne : Nonempty (WIn (fun w' => Below w.heap.size w w')) := ⟨⟨w, Below.refl _ _⟩⟩
  have z0 := fun z : WIn (fun w' => Below w.heap.size w w') => (HT.out z.w z.ok).blk.cell 0 _ rfl
  have z3 := fun z : WIn (fun w' => Below w.heap.size w w') => (HT.out z.w z.ok).blk.cell 3 _ rfl
  have HD : Hid (Below w.heap.size w w.drew) := (show Below _ _ _ from (Below.refl _ _).drew)
  have HLow : Hid (∀ w', Below w.heap.size w w' → Below B w w') := fun w' hb => hb.mono hBw
  unfold revK revL
  rcases idxG_find (l := l) (p := atW c.w) with ⟨h1, h2⟩ | ⟨i, m, h1, h2, h3, h4, h5⟩
  · rw [h1]
    rw [h2] at HP
    dsimp only
    clear h1 h2 h hcap
    go_enter Tryz.func65, Tryz.ntmps65
    go_upto_region 1 with fail
    refine wp_region_ord (C := fun w' => ∃ z : WIn (fun w' => Below w.heap.size w w'), w' = z.w) [(false, 0), (false, 1), (false, 2), (false, 3), (false, 4), (false, 5), (false, 6), (false, 7), (false, 8), (false, 9), (true, 10), (false, 11)] (by kernel_rfl) (by kernel_rfl) ⟨⟨w.drew, HD.out⟩, rfl⟩ ?_
    iterate 10 (refine ord_still rfl rfl ?_; go_big_quiet_step (fail); refine wpQuiet_nil ?_)
    refine ord_mem rfl rfl ?_
    go_simp
    refine HP.out.mono ?_
    rintro r w2 ⟨rfl, hb2⟩
    refine ⟨⟨⟨w2, hb2⟩, rfl⟩, ?_⟩
    iterate 1 (refine ord_still rfl rfl ?_; go_big_quiet_step (fail); refine wpQuiet_nil ?_)
    refine ord_end ?_
    go_wp2
    go_ret
    exact ⟨rfl, HT.out w2 hb2, HLow.out _ hb2⟩
  · rw [h1, h2]
    rw [h2] at HP
    dsimp only
    have hil : i < l.length := (List.getElem?_eq_some_iff.1 h3).1
    obtain ⟨g, cap, t, ev, hBg, hY, hY1, hY2, hY3⟩ := own_blkM h.own (by omega)
    obtain ⟨rfl, _, rfl⟩ : al = some ⟨g, 0, none⟩ ∧ l.length = l.length ∧ cl = cap := by simpa using ev
    have hgt : g ≠ tb := fun e => h.ne (by rw [e]; rfl)
    have HY : Hid (∀ w', Below w.heap.size w w' → Blk w' g 116 (csH l ++ t)) := fun w' hb => hY.below hb
    have HM : Hid (l[i]? = some m) := h3
    have HR : Hid (∀ w', Calls Tryz.prog 95 #[mv m] w' fun r w'' => r = .returned (.bool (!on m)) ∧ Below w'.heap.size w' w'') := fun w' => revoked39 m w'
    have HC : Hid (∀ w', Below w.heap.size w w' → w'.rangeAt g (i * 5) (mc m)) := fun w' hb => row_range mc_len (own_below h.own.2 hb) h3
    have HTB : Hid (B ≤ tb) := h.tb
    have HOk : Hid (B ≤ g) := hBg
    obtain ⟨x0, x1, x2, x3, x4⟩ := m
    unfold mv at HR
    dsimp only at HR
    have hon : (on ⟨x0, x1, x2, x3, x4⟩ = true ∨ on ⟨x0, x1, x2, x3, x4⟩ = false) := by cases on ⟨x0, x1, x2, x3, x4⟩ <;> simp
    have HFin : Hid (∀ W l2 v2, Blk W g 116 v2 → v2.take (l2.length * 5) = csH l2 → l2.length = l.length → v2.length = cl * 5 → OwnH B W (.slice (some ⟨g, 0, none⟩) l.length cl) l2) := fun W l2 v2 q1 q2 q3 q4 => by
      have := blk_own (B := B) (l := l2) (cap := cl) (fun _ _ => trivial) hBg q1 q2 (by omega) hY2 q4
      rw [q3] at this
      exact this
    have HY3 : Hid ((csH l ++ t).length = cl * 5) := hY3
    clear h1 h2 h3 h4 h5 h hcap ev hY hY3
    rcases hon with ho | ho
    · rw [ho] at HR ⊢
      simp only [if_true]
      have HE : Hid (goneM ⟨x0, x1, x2, x3, x4⟩ e c.l = ⟨x0, x1, x2, if e = -1 then -2 else e, c.l⟩) := (show _ = _ from rfl)
      rw [HE.out]
      go_enter Tryz.func65, Tryz.ntmps65
      go_upto_region 1 with fail
      refine wp_region_ord (C := fun w' => ∃ z : WIn (fun w' => Below w.heap.size w w'), w' = z.w) [(false, 0), (false, 1), (false, 2), (false, 3), (false, 4), (false, 5), (false, 6), (false, 7), (false, 8), (false, 9), (true, 10), (false, 11)] (by kernel_rfl) (by kernel_rfl) ⟨⟨w.drew, HD.out⟩, rfl⟩ ?_
      iterate 10 (refine ord_still rfl rfl ?_; go_big_quiet_step (fail); refine wpQuiet_nil ?_)
      refine ord_mem rfl rfl ?_
      go_simp
      refine HP.out.mono ?_
      rintro r w2 ⟨rfl, hb2⟩
      refine ⟨⟨⟨w2, hb2⟩, rfl⟩, ?_⟩
      iterate 1 (refine ord_still rfl rfl ?_; go_big_quiet_step (fail); refine wpQuiet_nil ?_)
      refine ord_end ?_
      have y0 := (HT.out w2 hb2).blk.cell 0 _ rfl
      have hc := HC.out w2 hb2
      have c0 := hc 0 _ rfl; have c1 := hc 1 _ rfl; have c2 := hc 2 _ rfl; have c3 := hc 3 _ rfl; have c4 := hc 4 _ rfl
      simp only [Nat.add_zero] at c0
      clear hc z0 z3 ne
      go_upto_region 7 with (go_at_call 95; go_must (refine (HR.out _).mono ?_; rintro r w3 ⟨rfl, hb3⟩))
      clear c0 c1 c2 c3 c4 y0
      have hb23 := bnext hb2 hb3
      have T3 := HT.out w3 hb23
      have Y3 : Blk w3.drew g 116 (csH l ++ t) := HY.out w3 hb23
      have hc := HC.out w3 hb23
      have c3 : w3.drew.cell? ⟨g, i * 5 + 3, none⟩ = some (.int .i64 x3) := hc 3 _ rfl
      have c4 : w3.drew.cell? ⟨g, i * 5 + 4, none⟩ = some (.int .i64 x4) := hc 4 _ rfl
      have f3 := Y3.frozen (i * 5 + 3)
      have f4 := Y3.frozen (i * 5 + 4)
      have B3 : Blk w3.drew tb 132 (tc (.slice (some ⟨g, 0, none⟩) l.length cl) e c (.slice xa na qa) (.slice xb nb qb)) := T3.blk
      have HB3 : Hid (Blk w3.drew tb 132 (tc (.slice (some ⟨g, 0, none⟩) l.length cl) e c (.slice xa na qa) (.slice xb nb qb))) := B3
      have HB4 : Hid (Blk (w3.drew.setCell ⟨g, i * 5 + 3, none⟩ (.int .i64 e)) tb 132 (tc (.slice (some ⟨g, 0, none⟩) l.length cl) e c (.slice xa na qa) (.slice xb nb qb))) := B3.other _ _ (Ne.symm hgt)
      obtain ⟨W5, hW5⟩ : ∃ W5, W5 = (w3.drew.setCell ⟨g, i * 5 + 3, none⟩ (.int .i64 e)).setCell ⟨g, i * 5 + 4, none⟩ (.int .i64 c.l) := ⟨_, rfl⟩
      have HW5 : Hid (W5 = (w3.drew.setCell ⟨g, i * 5 + 3, none⟩ (.int .i64 e)).setCell ⟨g, i * 5 + 4, none⟩ (.int .i64 c.l)) := hW5
      have B5 : Blk W5 tb 132 (tc (.slice (some ⟨g, 0, none⟩) l.length cl) e c (.slice xa na qa) (.slice xb nb qb)) := by rw [hW5]; exact HB4.out.other _ _ (Ne.symm hgt)
      have Y5 : Blk W5 g 116 (((csH l ++ t).set (i * 5 + 3) (.int .i64 e)).set (i * 5 + 4) (.int .i64 c.l)) := by rw [hW5]; exact (Y3.set _ _).set _ _
      have L5 : Below B w W5 := by rw [hW5]; exact ((HLow.out _ hb23).drew.setCell HOk.out _).setCell HOk.out _
      have q3 : W5.cell? ⟨g, i * 5 + 3, none⟩ = some (.int .i64 e) := by
        rw [hW5, World.cell?_setCell_other _ _ _ _ (by simp), World.cell?_setCell_same _ _ _ c3]
      have p3 := Y5.frozen (i * 5 + 3)
      have H56 : Hid (Calls Tryz.prog 106 #[ptr tb] W5 fun r w' => r = .returned (.bool (decide (e = -1))) ∧ w' = W5) := (show Calls _ _ _ _ _ from first56 B5)
      have HB5 : Hid (Blk W5 tb 132 (tc (.slice (some ⟨g, 0, none⟩) l.length cl) e c (.slice xa na qa) (.slice xb nb qb))) := B5
      have HY5 : Hid (Blk W5 g 116 (((csH l ++ t).set (i * 5 + 3) (.int .i64 e)).set (i * 5 + 4) (.int .i64 c.l))) := Y5
      have HL5 : Hid (Below B w W5) := L5
      have HNE : Hid ((Value.slice (some ⟨g, 0, none⟩) l.length cl).ownBlock ≠ some tb) := T3.ne
      have z1 := fun z : WIn (fun w' => Blk w' tb 132 (tc (.slice (some ⟨g, 0, none⟩) l.length cl) e c (.slice xa na qa) (.slice xb nb qb))) => z.ok.cell 1 _ rfl
      have z5 := fun z : WIn (fun w' => Blk w' tb 132 (tc (.slice (some ⟨g, 0, none⟩) l.length cl) e c (.slice xa na qa) (.slice xb nb qb))) => z.ok.cell 5 _ rfl
      have ne : Nonempty (WIn (fun w' => Blk w' tb 132 (tc (.slice (some ⟨g, 0, none⟩) l.length cl) e c (.slice xa na qa) (.slice xb nb qb)))) := ⟨⟨w3.drew, B3⟩⟩
      clear hc T3 Y3 B3 hW5 B5 Y5 L5
      refine wp_region_tree (C := fun w' => ∃ z : WIn (fun w' => Blk w' tb 132 (tc (.slice (some ⟨g, 0, none⟩) l.length cl) e c (.slice xa na qa) (.slice xb nb qb))), w' = z.w) (.still 0 (.still 1 (.still 2 (.still 3 (.still 4 (.still 5 (.still 6 (.still 7 (.still 8 (.still 9 (.still 10 (.still 11 (.still 12 (.still 13 (.one 14 (.still 15 (.still 16 (.one 17 .done)))))))))))))))))) (by kernel_rfl) (by kernel_rfl) ⟨⟨w3.drew, HB3.out⟩, rfl⟩ ?_
      generalize w3.drew = wd at *
      iterate 14 (refine tree_still rfl rfl ?_; go_big_quiet_step (fail); refine wpQuiet_nil ?_)
      refine tree_one rfl rfl ?_
      go_simp
      refine ⟨⟨⟨_, HB4.out⟩, rfl⟩, ?_⟩
      go_simp
      iterate 2 (refine tree_still rfl rfl ?_; go_big_quiet_step (fail); refine wpQuiet_nil ?_)
      refine tree_one rfl rfl ?_
      go_simp
      rw [← HW5.out]
      refine ⟨⟨⟨_, HB5.out⟩, rfl⟩, ?_⟩
      refine tree_done ?_
      clear z1 z5 ne c3 c4 f3 f4
      by_cases he : e = -1
      · rw [decide_eq_true he] at H56
        subst he
        go_wp2_with (go_at_call 106; go_must (refine H56.out.mono ?_; rintro r w6 ⟨rfl, rfl⟩))
        go_ret
        try rw [if_pos rfl]
        refine ⟨rfl, ⟨HB5.out.other _ _ (Ne.symm hgt), ?_, HNE.out, HTB.out⟩, HL5.out.setCell HOk.out _⟩
        have hY6 := HY5.out.set (i * 5 + 3) (.int .i64 (-2))
        rw [csH_set3 HM.out] at hY6
        refine HFin.out _ _ _ hY6 (by rw [List.take_append_of_le_length (by rw [csH_length]; exact Nat.le_refl _), List.take_of_length_le (by rw [csH_length]; exact Nat.le_refl _)]) (by simp) ?_
        rw [List.length_append, csH_length, List.length_set, ← csH_length, ← List.length_append]
        exact HY3.out
      · rw [decide_eq_false he] at H56
        have HE2 : Hid (¬ e = -1) := he
        clear he
        go_wp2_with (go_at_call 106; go_must (refine H56.out.mono ?_; rintro r w6 ⟨rfl, rfl⟩))
        go_ret
        try rw [if_neg HE2.out]
        refine ⟨rfl, ⟨HB5.out, ?_, HNE.out, HTB.out⟩, HL5.out⟩
        have hY6 := HY5.out
        rw [csH_set2 HM.out] at hY6
        refine HFin.out _ _ _ hY6 (by rw [List.take_append_of_le_length (by rw [csH_length]; exact Nat.le_refl _), List.take_of_length_le (by rw [csH_length]; exact Nat.le_refl _)]) (by simp) ?_
        rw [List.length_append, csH_length, List.length_set, ← csH_length, ← List.length_append]
        exact HY3.out
    · rw [ho] at HR ⊢
      simp only [Bool.false_eq_true, if_false]
      go_enter Tryz.func65, Tryz.ntmps65
      go_upto_region 1 with fail
      refine wp_region_ord (C := fun w' => ∃ z : WIn (fun w' => Below w.heap.size w w'), w' = z.w) [(false, 0), (false, 1), (false, 2), (false, 3), (false, 4), (false, 5), (false, 6), (false, 7), (false, 8), (false, 9), (true, 10), (false, 11)] (by kernel_rfl) (by kernel_rfl) ⟨⟨w.drew, HD.out⟩, rfl⟩ ?_
      iterate 10 (refine ord_still rfl rfl ?_; go_big_quiet_step (fail); refine wpQuiet_nil ?_)
      refine ord_mem rfl rfl ?_
      go_simp
      refine HP.out.mono ?_
      rintro r w2 ⟨rfl, hb2⟩
      refine ⟨⟨⟨w2, hb2⟩, rfl⟩, ?_⟩
      iterate 1 (refine ord_still rfl rfl ?_; go_big_quiet_step (fail); refine wpQuiet_nil ?_)
      refine ord_end ?_
      have y0 := (HT.out w2 hb2).blk.cell 0 _ rfl
      have hc := HC.out w2 hb2
      have c0 := hc 0 _ rfl; have c1 := hc 1 _ rfl; have c2 := hc 2 _ rfl; have c3 := hc 3 _ rfl; have c4 := hc 4 _ rfl
      simp only [Nat.add_zero] at c0
      clear hc z0 z3 ne
      go_wp2_with (go_at_call 95; go_must (refine (HR.out _).mono ?_; rintro r w3 ⟨rfl, hb3⟩))
      go_ret
      exact ⟨rfl, HT.out w3 (bnext hb2 hb3), HLow.out _ (bnext hb2 hb3)⟩
end Go.Proofs.YtjbpfhnagiacmaaGreat
