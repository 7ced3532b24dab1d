/-
  Insert and Remove of a log, walked.
-/
import Derived.Test.YthnjbjlhfohpfaaGreatUdY
namespace Go.Proofs.YthnjbjlhfohpfaaGreat
set_option linter.unusedVariables false
set_option linter.unusedSimpArgs false
set_option synthInstance.maxSize 20000
set_option maxHeartbeats 2000000
set_option maxRecDepth 20000
open Go.RowKit Go.Maps

section
variable {w : World} {lb tb n i cap bi bo : Nat} {ad : Option Addr} {mo : Option Nat} {L : List IT} {U : List ST} {q : OpT}
theorem ins_change (h : LogAt w lb (.slice ad n cap) tb mo L U) (hn : U.length = n) (hi : i ≤ U.length) (hcut : CutAt U (U.take i) (U.drop i) q.a) (hno : ∀ s ∈ U, s.q.a ≠ q.a) (hfew : U.length ≤ 59) (hq : OpOk w q) (hbi : Blk w bi 3 [.int .i64 (i : Int)]) (hbo : Opb w bo q) :
    Calls Tryz.prog 37 #[ptr lb, .int .i64 (i : Int), .func (.func 38) #[] #[ptr bi, ptr bo]] w (ChAns w lb (.slice ad n cap) tb mo (U.take i ++ ⟨q, zT, false⟩ :: U.drop i)) := by
  have e : U.take i ++ U.drop i = U := List.take_append_drop i U
  have hm : (U.take i).length = i := by rw [List.length_take, Nat.min_eq_left hi]
  refine change32i (U := U.take i) (R := U.drop i) (L := L) (by rw [e]; exact hn) hm (by rw [e]; exact h) (str_ins (t := ⟨q, zT, false⟩) h.str hcut hno) ?_ ?_ ?_
  · have := congrArg List.length e
    simp at this ⊢
    omega
  · intro s hs
    rcases List.mem_cons.1 hs with rfl | hs
    · exact hq
    · exact (h.ok s (List.mem_of_mem_drop hs)).op
  · intro w' mo' ht
    have hrow : SRow w' (.slice ad n cap) (U.take i ++ U.drop i) := by rw [e]; exact h.row.tw ht h.tree
    exact clos33 hrow (ht.blk (v := .int .i64 (i : Int)) h.tree hbi (fun m => by simp)) (ht.blk (v := .int .i64 q.k) h.tree hbo (fun m => by simp)) hm (by rw [e]; omega)
theorem rem_change (h : LogAt w lb (.slice ad n cap) tb mo L U) (hn : U.length = n) (hi : i < U.length) (hbi : Blk w bi 3 [.int .i64 (i : Int)]) :
    Calls Tryz.prog 37 #[ptr lb, .int .i64 (i : Int), .func (.func 42) #[] #[ptr bi]] w (ChAns w lb (.slice ad n cap) tb mo (U.take i ++ U.drop (i + 1))) := by
  have e : U.take i ++ U.drop i = U := List.take_append_drop i U
  have hm : (U.take i).length = i := by rw [List.length_take, Nat.min_eq_left (by omega)]
  have ed : U.drop i = U[i] :: U.drop (i + 1) := List.drop_eq_getElem_cons hi
  refine change32r (U := U.take i) (R := U.drop i) (L := L) (by rw [e]; exact hn) hm (by rw [e]; exact h) ?_ ?_ ?_ ?_
  · have := h.str
    rw [← e, ed] at this
    exact str_del this
  · have := h.few
    simp
    omega
  · intro s hs
    exact (h.ok s (List.mem_of_mem_drop hs)).op
  · intro w' mo' ht
    have hrow : SRow w' (.slice ad n cap) (U.take i ++ U[i] :: U.drop (i + 1)) := by rw [← ed, e]; exact h.row.tw ht h.tree
    exact clos35 hrow (ht.blk (v := .int .i64 (i : Int)) h.tree hbi (fun m => by simp)) hm (by rw [← ed, e]; have := h.few; omega)
end
/-- What Insert comes to. -/
def InsR (U : List ST) (q : OpT) (T : List ST) (n k : Int) : Prop := (rightO q = false ∧ n = 0 ∧ k = 1 ∧ T = U) ∨ (rightO q = true ∧ (((∃ s ∈ U, s.q.a = q.a) ∧ n = 0 ∧ k = 8 ∧ T = U) ∨ ((∀ s ∈ U, s.q.a ≠ q.a) ∧ k = 0 ∧ ∃ A R q', CutAt U A R q.a ∧ bare q' = bare q ∧ opsS T = opsS A ++ q' :: opsS R ∧ n = (R.length : Int))))
def InsAns (w : World) (lb : Nat) (v : Value) (tb : Nat) (mo : Option Nat) (U : List ST) (q : OpT) (e : Ending) (w' : World) : Prop := ∃ n k v' mo' L' T, e = .returned (.tuple #[.int .i64 n, .int .i64 k]) ∧ LogAt w' lb v' tb mo' L' T ∧ Lw lb tb mo v w w' mo' v' ∧ InsR U q T n k
/-- What Remove comes to. -/
def RemR (U : List ST) (a : S) (T : List ST) (n k : Int) : Prop := ((∀ s ∈ U, s.q.a ≠ a) ∧ n = 0 ∧ k = 12 ∧ T = U) ∨ (k = 0 ∧ ∃ A s R, CutAt U A (s :: R) a ∧ s.q.a = a ∧ opsS T = opsS A ++ opsS R ∧ n = (R.length : Int))
def RemAns (w : World) (lb : Nat) (v : Value) (tb : Nat) (mo : Option Nat) (U : List ST) (a : S) (e : Ending) (w' : World) : Prop := ∃ n k v' mo' L' T, e = .returned (.tuple #[.int .i64 n, .int .i64 k]) ∧ LogAt w' lb v' tb mo' L' T ∧ Lw lb tb mo v w w' mo' v' ∧ RemR U a T n k
theorem here_yes {R : List ST} {a : S} (h : hereB R a = true) : ∃ r R', R = r :: R' ∧ r.q.a = a := by
  cases R with
  | nil => cases h
  | cons r R => exact ⟨r, R, rfl, of_decide_eq_true h⟩
theorem insert10 {w : World} {lb tb : Nat} {v : Value} {mo : Option Nat} {L : List IT} {U : List ST} {q : OpT} (h : LogAt w lb v tb mo L U) (hf : U.length ≤ 59) (hq : Rd w q.v q.b) (hql : q.b.length ≤ 1000) : Calls Tryz.prog 20 #[ptr lb, ov q] w (InsAns w lb v tb mo U q) := by
  obtain ⟨ad, cap, hv⟩ := h.row.len
  obtain ⟨n, hn⟩ : ∃ n, U.length = n := ⟨_, rfl⟩
  rw [hn] at hv
  subst hv
  have HL : Hid (LogAt w lb (.slice ad n cap) tb mo L U) := h
  have HN : Hid (U.length = n) := hn
  have HF : Hid (U.length ≤ 59) := hf
  have HRq : Hid (Rd w q.v q.b ∧ q.b.length ≤ 1000) := ⟨hq, hql⟩
  obtain ⟨w1, hw1⟩ : ∃ w1, w1 = w.alloc (.cells (oc q).toArray 38) := ⟨_, rfl⟩
  obtain ⟨bo, hbo⟩ : ∃ bo, bo = w.heap.size := ⟨_, rfl⟩
  obtain ⟨i1, i2⟩ := box_op hw1 hbo
  have HB1 : Hid (Below w.heap.size w w1) := i1
  have HO : Hid (Opb w1 bo q) := i2
  have HOl : Hid (w1.rangeAt bo 0 (oc q)) := Blk.range0 i2
  have HBo : Hid (w.heap.size ≤ bo) := by show _ ≤ _; omega
  have HRt : Hid (∀ w', Calls Tryz.prog 35 #[ov q] w' fun e w'' => e = .returned (.bool (rightO q)) ∧ Below w'.heap.size w' w'') := fun w' => right16 q w'
  have HPl : Hid (∀ w', Below w.heap.size w w' → Calls Tryz.prog 34 #[ptr lb, sv q.a] w' fun e w'' => ∃ i, i ≤ U.length ∧ e = .returned (.tuple #[.int .i64 (i : Int), .bool (hereB (U.drop i) q.a)]) ∧ CutAt U (U.take i) (U.drop i) q.a ∧ Below w'.heap.size w' w'') := fun w' hb => place30 (h.blk.below hb) (h.row.below hb) h.str (by omega) q.a
  clear i1 i2 h hf hq hql hn
  unfold InsAns
  go_enter Tryz.func20, Tryz.ntmps20
  go_upto_region 1 with (refine wpList_okw rfl (exec_box40 (q := q) (.tmp 1) rfl rfl) ?_)
  rw [← hw1, ← hbo]
  clear hw1 hbo
  cases hr : rightO q
  · rw [hr] at HRt
    go_wp2_with (first
      | (refine wpList_okw rfl (exec_load40 (q := q) (.tmp 3) rfl rfl HOl.out) ?_)
      | (go_at_call 35; go_must (refine (HRt.out _).mono ?_; rintro e w2 ⟨rfl, hb2⟩; have HB2 : Hid (Below w1.heap.size w1 w2) := hb2; clear hb2)))
    go_ret2
    exact ⟨0, 1, _, mo, L, U, rfl, HL.out.below (bnext HB1.out HB2.out), Lw.of_below (bnext HB1.out HB2.out), .inl ⟨hr, rfl, rfl, rfl⟩⟩
  · rw [hr] at HRt
    go_upto_region 5 with (first
      | (refine wpList_okw rfl (exec_load40 (q := q) (.tmp 3) rfl rfl HOl.out) ?_)
      | (go_at_call 35; go_must (refine (HRt.out _).mono ?_; rintro e w2 ⟨rfl, hb2⟩; have HB2 : Hid (Below w1.heap.size w1 w2) := hb2; clear hb2)))
    have HOa : Hid (w2.rangeAt bo 1 (sc q.a)) := (HO.out.below HB2.out).at
    go_upto_region 6 with (first
      | (refine wpList_okw rfl (exec_load24n (n := q.a) (.tmp 16) rfl rfl HOa.out) ?_)
      | (go_at_call 34; go_must (refine (HPl.out _ (bnext HB1.out HB2.out)).mono ?_; rintro e w3 ⟨i, hi, rfl, hcut, hb3⟩; have HI : Hid (i ≤ U.length) := hi; have HCut : Hid (CutAt U (U.take i) (U.drop i) q.a) := hcut; have HB3 : Hid (Below w.heap.size w w3) := bnext (bnext HB1.out HB2.out) hb3; have HB13 : Hid (Below w1.heap.size w1 w3) := bnext HB2.out hb3; clear hi hcut hb3)))
    obtain ⟨w4, hw4⟩ : ∃ w4, w4 = w3.alloc (.cells #[.int .i64 (i : Int)] 3) := ⟨_, rfl⟩
    obtain ⟨bi, hbi⟩ : ∃ bi, bi = w3.heap.size := ⟨_, rfl⟩
    have HBi : Hid (Blk w4 bi 3 [.int .i64 (i : Int)]) := by
      show Blk _ _ _ _
      rw [hw4, hbi]
      exact blk_new w3 [.int .i64 (i : Int)] 3
    have HB4 : Hid (Below w3.heap.size w3 w4) := by show Below _ _ _; rw [hw4]; exact balloc (Below.refl _ _) _
    have HBiw : Hid (w.heap.size ≤ bi ∧ bi ≠ bo) := by
      have h1 := HB3.out.size
      have h2 : bo < w3.heap.size := (HO.out.below HB13.out).lt
      exact ⟨by omega, by omega⟩
    have HO4 : Hid (Opb w4 bo q) := (HO.out.below HB13.out).below HB4.out
    have HB14 : Hid (Below w.heap.size w w4) := bnext HB3.out HB4.out
    rw [show (Value.pointer (some ⟨w3.heap.size, 0, none⟩)) = ptr bi from by rw [hbi]]
    rw [← hw4]
    clear hw4 hbi HOa HPl HRt
    cases hh : hereB (U.drop i) q.a
    · have c9 := Blk.cell HO4.out 9 _ rfl
      have HCl : Hid (∀ w', Below w.heap.size w w' → Calls Tryz.prog 36 #[.slice q.va q.vn q.vc] w' fun e w'' => ∃ v', e = .returned v' ∧ Own w'.heap.size 5 w'' v' q.b ∧ Below w'.heap.size w' w'') := fun w' hb => bclone_any q.v q.b w' (HRq.out.1.below hb) (by have := HRq.out.2; omega)
      go_upto_region 9 with (go_at_call 36; go_must (refine (HCl.out _ HB14.out).mono ?_; rintro e wc ⟨v', rfl, ho, hbc⟩; have HBc : Hid (Below w4.heap.size w4 wc) := hbc; have HOc : Hid (Opb wc bo q) := HO4.out.below hbc; have HOw : Hid (Own w4.heap.size 5 wc v' q.b) := ho; obtain ⟨a', c', rfl, _, _⟩ := slice_of_own ho.2; have d9 := Blk.cell HOc.out 9 _ rfl; have f9 := Blk.frozen HOc.out 9; clear ho hbc c9))
      obtain ⟨w5, hw5⟩ : ∃ w5, w5 = wc.setCell ⟨bo, 9, none⟩ (.slice a' q.b.length c') := ⟨_, rfl⟩
      obtain ⟨q', hq'⟩ : ∃ q', q' = qData q a' q.b.length c' := ⟨_, rfl⟩
      have HO5 : Hid (Opb w5 bo q') := by
        show Blk _ _ _ _
        rw [hw5, hq']
        exact Blk.set HOc.out 9 _
      have HG5 : Hid (wc.grownBy w5 (some bo)) := by show World.grownBy _ _ _; rw [hw5]; exact grown_setCell _ _ _ _
      have HB5 : Hid (Below w.heap.size w w5) := bgrown (bnext HB14.out HBc.out) HBo.out HG5.out
      have HBi5 : Hid (Blk w5 bi 3 [.int .i64 (i : Int)]) := Blk.past (HBi.out.below HBc.out) HG5.out HBiw.out.2
      have HOk : Hid (OpOk w5 q') := by
        rw [hq']
        refine ⟨?_, (own_past HOw.out (Blk.lt HO4.out) HG5.out).rd, HRq.out.2⟩
        have e1 : rightO (qData q a' q.b.length c') = rightO q := by
          have := okv_of HRq.out.1
          unfold Okv at this
          unfold rightO qData placedB bareB
          rw [this]
        rw [e1]; exact hr
      have HQ' : Hid (bare q' = bare q ∧ q'.a = q.a) := by rw [hq']; exact ⟨rfl, rfl⟩
      rw [← hw5]
      clear hw5 hq' d9 f9
      have hno := cut_no HL.out.str HCut.out hh
      have HNo : Hid (∀ s ∈ U, s.q.a ≠ q.a) := hno
      have HCh : Hid (∀ w', Below w5.heap.size w5 w' → Calls Tryz.prog 37 #[ptr lb, .int .i64 (i : Int), .func (.func 38) #[] #[ptr bi, ptr bo]] w' (ChAns w' lb (.slice ad n cap) tb mo (U.take i ++ ⟨q', zT, false⟩ :: U.drop i))) := fun w' hb =>
        ins_change (HL.out.below (bnext HB5.out hb)) HN.out HI.out (by rw [HQ'.out.2]; exact HCut.out) (by rw [HQ'.out.2]; exact HNo.out) HF.out ⟨HOk.out.right, HOk.out.rq.below hb, HOk.out.lq⟩ (HBi5.out.below hb) (HO5.out.below hb)
      have cl := fun z : WIn (fun w' => Below w5.heap.size w5 w') => (HL.out.blk.below (bnext HB5.out z.ok)).cell 0 _ rfl
      have ci := fun z : WIn (fun w' => Below w5.heap.size w5 w') => (HBi5.out.below z.ok).cell 0 _ rfl
      have ci5 := HBi5.out.cell 0 _ rfl
      have hin : (i : Int) ≤ (n : Int) := by have := HI.out; have := HN.out; omega
      have hn60 : n ≤ 60 := by have := HF.out; have := HN.out; omega
      clear hno
      have ne : Nonempty (WIn (fun w' => Below w5.heap.size w5 w')) := ⟨⟨w5.drew, below_drewn w5 1⟩⟩
      refine wp_region_ord (C := fun w' => ∃ z : WIn (fun w' => Below w5.heap.size w5 w'), w' = z.w) [(false, 0), (false, 1), (false, 2), (false, 3), (false, 4), (false, 5), (false, 6), (false, 7)] (by kernel_rfl) (by kernel_rfl) ⟨⟨w5.drew, below_drewn w5 1⟩, rfl⟩ ?_
      iterate 8 (refine ord_still rfl rfl ?_; go_big_quiet_step (fail); refine wpQuiet_nil ?_)
      refine ord_end ?_
      clear ne
      clear cl ci
      go_wp2_with (go_at_call 37; go_must (refine (HCh.out _ (below_drewn w5 1)).mono ?_; rintro e w6 ⟨rfl, v', mo', L', T, h1, h2, h3⟩; have H1 : Hid (LogAt w6 lb v' tb mo' L' T) := h1; have H2 : Hid (opsS T = opsS (U.take i ++ ⟨q', zT, false⟩ :: U.drop i)) := h2; have H3 : Hid (Lw lb tb mo (.slice ad n cap) w5.drew w6 mo' v') := h3; clear h1 h2 h3))
      go_ret2
      refine ⟨_, 0, v', mo', L', T, rfl, H1.out, (Lw.of_below (bnext HB5.out (below_drewn w5 1))).trans H3.out, .inr ⟨hr, .inr ⟨HNo.out, rfl, U.take i, U.drop i, q', HCut.out, HQ'.out.1, ?_, ?_⟩⟩⟩
      · rw [H2.out, opsS_append]; rfl
      · rw [List.length_drop, HN.out]; omega
    · go_wp2
      go_ret2
      refine ⟨0, 8, _, mo, L, U, rfl, HL.out.below HB14.out, Lw.of_below HB14.out, .inr ⟨hr, .inl ⟨?_, rfl, rfl, rfl⟩⟩⟩
      obtain ⟨r, R', e1, e2⟩ := here_yes hh
      exact ⟨r, List.mem_of_mem_drop (by rw [e1]; exact List.mem_cons_self), e2⟩
theorem remove12 {w : World} {lb tb : Nat} {v : Value} {mo : Option Nat} {L : List IT} {U : List ST} (h : LogAt w lb v tb mo L U) (a : S) : Calls Tryz.prog 23 #[ptr lb, sv a] w (RemAns w lb v tb mo U a) := by
  obtain ⟨ad, cap, hv⟩ := h.row.len
  obtain ⟨n, hn⟩ : ∃ n, U.length = n := ⟨_, rfl⟩
  rw [hn] at hv
  subst hv
  have HL : Hid (LogAt w lb (.slice ad n cap) tb mo L U) := h
  have HN : Hid (U.length = n ∧ U.length ≤ 60) := ⟨hn, h.few⟩
  obtain ⟨w1, hw1⟩ : ∃ w1, w1 = w.alloc (.cells (sc a).toArray 35) := ⟨_, rfl⟩
  obtain ⟨bo, hbo⟩ : ∃ bo, bo = w.heap.size := ⟨_, rfl⟩
  obtain ⟨i1, i2⟩ := box_new hw1 hbo
  have HB1 : Hid (Below w.heap.size w w1) := i1
  have HOa : Hid (w1.rangeAt bo 0 (sc a)) := Blk.range0 i2
  have HPl : Hid (∀ w', Below w.heap.size w w' → Calls Tryz.prog 34 #[ptr lb, sv a] w' fun e w'' => ∃ i, i ≤ U.length ∧ e = .returned (.tuple #[.int .i64 (i : Int), .bool (hereB (U.drop i) a)]) ∧ CutAt U (U.take i) (U.drop i) a ∧ Below w'.heap.size w' w'') := fun w' hb => place30 (h.blk.below hb) (h.row.below hb) h.str (by have := h.few; omega) a
  clear i1 i2 h hn
  unfold RemAns
  go_enter Tryz.func23, Tryz.ntmps23
  go_upto_region 1 with (refine wpList_okw rfl (exec_box24 (n := a) (.tmp 1) rfl rfl) ?_)
  rw [← hw1, ← hbo]
  clear hw1 hbo
  go_upto_region 4 with (first
    | (refine wpList_okw rfl (exec_load24n (n := a) (.tmp 3) rfl rfl HOa.out) ?_)
    | (go_at_call 34; go_must (refine (HPl.out _ HB1.out).mono ?_; rintro e w3 ⟨i, hi, rfl, hcut, hb3⟩; have HI : Hid (i ≤ U.length) := hi; have HCut : Hid (CutAt U (U.take i) (U.drop i) a) := hcut; have HB3 : Hid (Below w.heap.size w w3) := bnext HB1.out hb3; clear hi hcut hb3)))
  obtain ⟨w4, hw4⟩ : ∃ w4, w4 = w3.alloc (.cells #[.int .i64 (i : Int)] 3) := ⟨_, rfl⟩
  obtain ⟨bi, hbi⟩ : ∃ bi, bi = w3.heap.size := ⟨_, rfl⟩
  have HBi : Hid (Blk w4 bi 3 [.int .i64 (i : Int)]) := by
    show Blk _ _ _ _
    rw [hw4, hbi]
    exact blk_new w3 [.int .i64 (i : Int)] 3
  have HB4 : Hid (Below w3.heap.size w3 w4) := by show Below _ _ _; rw [hw4]; exact balloc (Below.refl _ _) _
  have HB14 : Hid (Below w.heap.size w w4) := bnext HB3.out HB4.out
  rw [show (Value.pointer (some ⟨w3.heap.size, 0, none⟩)) = ptr bi from by rw [hbi]]
  rw [← hw4]
  clear hw4 hbi HOa HPl
  cases hh : hereB (U.drop i) a
  · go_wp2
    go_ret2
    exact ⟨0, 12, _, mo, L, U, rfl, HL.out.below HB14.out, Lw.of_below HB14.out, .inl ⟨cut_no HL.out.str HCut.out hh, rfl, rfl, rfl⟩⟩
  · obtain ⟨r, R', e1, e2⟩ := here_yes hh
    have hil : i < U.length := by
      apply Classical.byContradiction
      intro hc
      rw [List.drop_eq_nil_of_le (by omega)] at e1
      cases e1
    have HE : Hid (U.drop i = r :: U.drop (i + 1) ∧ r.q.a = a) := by
      have h1 : U.drop i = U[i] :: U.drop (i + 1) := List.drop_eq_getElem_cons hil
      rw [e1] at h1
      have h2 : R' = U.drop (i + 1) := (List.cons.inj h1).2
      exact ⟨by rw [e1, h2], e2⟩
    have HCh : Hid (∀ w', Below w4.heap.size w4 w' → Calls Tryz.prog 37 #[ptr lb, .int .i64 (i : Int), .func (.func 42) #[] #[ptr bi]] w' (ChAns w' lb (.slice ad n cap) tb mo (U.take i ++ U.drop (i + 1)))) := fun w' hb =>
      rem_change (HL.out.below (bnext HB14.out hb)) HN.out.1 hil (HBi.out.below hb)
    have cl := fun z : WIn (fun w' => Below w4.heap.size w4 w') => (HL.out.blk.below (bnext HB14.out z.ok)).cell 0 _ rfl
    have ci := fun z : WIn (fun w' => Below w4.heap.size w4 w') => (HBi.out.below z.ok).cell 0 _ rfl
    have ci5 := HBi.out.cell 0 _ rfl
    have hin : (i : Int) < (n : Int) := by have := HN.out; omega
    have HIN : Hid (i < n) := by show _ < _; have := HN.out; omega
    have hn60 : n ≤ 60 := by have := HN.out; omega
    clear e1 e2 hil
    go_upto_region 6 with fail
    have ne : Nonempty (WIn (fun w' => Below w4.heap.size w4 w')) := ⟨⟨w4.drew, below_drewn w4 1⟩⟩
    refine wp_region_ord (C := fun w' => ∃ z : WIn (fun w' => Below w4.heap.size w4 w'), w' = z.w) [(false, 0), (false, 1), (false, 2), (false, 3), (false, 4), (false, 5), (false, 6), (false, 7), (false, 8)] (by kernel_rfl) (by kernel_rfl) ⟨⟨w4.drew, below_drewn w4 1⟩, rfl⟩ ?_
    iterate 9 (refine ord_still rfl rfl ?_; go_big_quiet_step (fail); refine wpQuiet_nil ?_)
    refine ord_end ?_
    clear ne
    clear cl ci
    go_wp2_with (go_at_call 37; go_must (refine (HCh.out _ (below_drewn w4 1)).mono ?_; rintro e w6 ⟨rfl, v', mo', L', T, h1, h2, h3⟩; have H1 : Hid (LogAt w6 lb v' tb mo' L' T) := h1; have H2 : Hid (opsS T = opsS (U.take i ++ U.drop (i + 1))) := h2; have H3 : Hid (Lw lb tb mo (.slice ad n cap) w4.drew w6 mo' v') := h3; clear h1 h2 h3))
    go_ret2
    have hc := HCut.out
    rw [HE.out.1] at hc
    refine ⟨_, 0, v', mo', L', T, rfl, H1.out, (Lw.of_below (bnext HB14.out (below_drewn w4 1))).trans H3.out, .inr ⟨rfl, U.take i, r, U.drop (i + 1), hc, HE.out.2, ?_, ?_⟩⟩
    · rw [H2.out, opsS_append]
    · rw [List.length_drop, HN.out.1]; have := HIN.out; omega
end Go.Proofs.YthnjbjlhfohpfaaGreat
