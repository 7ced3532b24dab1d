/-
  One step of both disks (cachettelaw09.step).
-/
import Derived.Test.YtfkkbloapnlbgaaLawD
import Derived.Test.YtfkkbloapnlbgaaRDsk2
namespace Go.Proofs.Ytfkkbloapnlbgaa
set_option linter.unusedVariables false
set_option linter.unusedSimpArgs false
set_option synthInstance.maxSize 20000
set_option maxHeartbeats 4000000
set_option maxRecDepth 20000
open Go.RowKit Go.Maps

def stepB (D : Dk) (R : Rk) (q : OpD) : Bool :=
  if q.k = 0 then (D.write q.n (secL q.y q.s)).1 == (R.write q.n (secL q.y q.s)).1 else if q.k = 1 then decide (D.readB q.n = R.readB q.n) && (D.readK q.n == R.readK q.n) else if q.k = 2 then D.sync.1 == R.sync.1 else if q.k = 3 then (D.arm q.n).1 == (R.arm q.n).1 else true
def stepD (D : Dk) (q : OpD) : Dk := if q.k = 0 then (D.write q.n (secL q.y q.s)).2 else if q.k = 1 then D else if q.k = 2 then D.sync.2 else if q.k = 3 then (D.arm q.n).2 else if q.k = 4 then D.restart q.ks else D
def stepR (R : Rk) (q : OpD) : Rk := if q.k = 0 then (R.write q.n (secL q.y q.s)).2 else if q.k = 1 then R else if q.k = 2 then R.sync.2 else if q.k = 3 then (R.arm q.n).2 else if q.k = 4 then R.restart q.ks else R
theorem stepD_ok {D : Dk} {N : Nat} (h : DOk D N) (q : OpD) (hn : q.n ≤ 9223372036854775807) : DOk (stepD D q) (N + 1) := by
  unfold stepD
  split
  · exact h.write
  · split
    · exact h.mono (by omega)
    · split
      · exact h.sync.mono (by omega)
      · split
        · exact (h.arm hn).mono (by omega)
        · split
          · exact (h.restart _).mono (by omega)
          · exact h.mono (by omega)
theorem stepR_ok {R : Rk} {N : Nat} (h : ROk R N) (q : OpD) (hn : q.n ≤ 9223372036854775807) : ROk (stepR R q) (N + 1) := by
  unfold stepR
  split
  · exact h.write _ _
  · split
    · exact h.mono (by omega)
    · split
      · exact h.sync.mono (by omega)
      · split
        · exact (h.arm hn).mono (by omega)
        · split
          · exact (h.restart _).mono (by omega)
          · exact h.mono (by omega)

/-- Both disks in one memory. -/
def DR (w : World) (o : Nat → Nat) (jd b jr rb : Nat) (D : Dk) (R : Rk) : Prop := DIs w o jd b D ∧ RIs w o jr rb R
def After (w : World) (o : Nat → Nat) (jd b jr rb : Nat) (D : Dk) (R : Rk) (w' : World) : Prop := ∃ o', DR w' o' jd b jr rb D R ∧ Mv [jd, jr] w o w' o'

theorem step_any {w : World} {o : Nat → Nat} {jd b jr rb : Nat} {D : Dk} {R : Rk} {N M : Nat} {q : OpD} {kv : Value} (h : DR w o jd b jr rb D R) (hjd : jd ≠ 0) (hjr : jr ≠ 0) (hne : jd ≠ jr) (hok : DOk D N) (hN : N ≤ 2000) (hrok : ROk R M) (hM : M ≤ 2000) (hy : 0 ≤ q.y ∧ q.y < 256) (hks : ∀ w' o', Mv [jd, jr] w o w' o' → RowF bc w' kv q.ks) :
    Calls Try.prog 13 #[ptr b, ptr rb, .agg #[.int .i64 q.k, .int .i64 q.n, .int .u8 q.y, .bool q.s, kv]] w fun r w' => r = .returned (.bool (stepB D R q)) ∧ After w o jd b jr rb (stepD D q) (stepR R q) w' := by
  have h0 : (0 : Nat) ∉ [jd, jr] := by simp; omega
  have hkv := hks w o (Mv.refl _ _ _)
  obtain ⟨ak, ck, hkk⟩ := hkv.len
  obtain ⟨qk, qn, qy, qs, ks⟩ := q
  dsimp only at *
  subst hkk
  have hkc := hkv.caps
  obtain ⟨w1, hw1⟩ : ∃ w1, w1 = w.alloc (.cells #[.int .i64 qk, .int .i64 qn, .int .u8 qy, .bool qs, .slice ak ks.length ck] 35) := ⟨_, rfl⟩
  have hb1 : Below w.heap.size w w1 := by rw [hw1]; exact balloc (Below.refl _ _) _
  have B1 : Blk w1 w.heap.size 35 [.int .i64 qk, .int .i64 qn, .int .u8 qy, .bool qs, .slice ak ks.length ck] := by rw [hw1]; exact blk_new w _ 35
  have M1 : Mv [jd, jr] w o w1 (newTo o w 0) := Mv.of_below 0 hb1
  have hD1 : DIs w1 (newTo o w 0) jd b D := h.1.below hb1
  have hR1 : RIs w1 (newTo o w 0) jr rb R := h.2.below hb1
  obtain ⟨o1, ho1⟩ : ∃ o1, o1 = newTo o w 0 := ⟨_, rfl⟩
  have hoz : o1 w.heap.size = 0 := by rw [ho1]; exact newTo_new (Nat.le_refl _)
  rw [← ho1] at M1 hD1 hR1
  clear ho1
  have HBk : Hid (∀ (w' : World) (o' : Nat → Nat), Mv [jd, jr] w1 o1 w' o' → Blk w' w.heap.size 35 [.int .i64 qk, .int .i64 qn, .int .u8 qy, .bool qs, .slice ak ks.length ck]) := fun w' o' m => B1.block (m.block _ B1.lt (by rw [hoz]; exact h0))
  have x0 := B1.cell 0 _ rfl
  have x1 := B1.cell 1 _ rfl
  have x2 := B1.cell 2 _ rfl
  have x3 := B1.cell 3 _ rfl
  have x4 := B1.cell 4 _ rfl
  have HW1 : Hid (w1 = w.alloc (.cells #[.int .i64 qk, .int .i64 qn, .int .u8 qy, .bool qs, .slice ak ks.length ck] 35)) := hw1
  have HM1 : Hid (Mv [jd, jr] w o w1 o1) := M1
  have HD1 : Hid (DIs w1 o1 jd b D) := hD1
  have HR1 : Hid (RIs w1 o1 jr rb R) := hR1
  -- what a call leaves
  have HDmv : Hid (∀ (w2 w3 : World) (o2 o3 : Nat → Nat), RIs w2 o2 jr rb R → Mv [jd] w2 o2 w3 o3 → RIs w3 o3 jr rb R) := fun w2 w3 o2 o3 hr m => hr.mv m (by simp; omega) (by simp; omega)
  clear hw1 hb1 B1 M1 hD1 hR1 h
  by_cases k0 : qk = 0
  · subst k0
    have HSc : Hid (Calls Try.prog 18 #[.int .u8 qy, .bool qs] w1 fun r w2 => ∃ v, r = .returned v ∧ Own w1.heap.size 5 w2 v (secL qy qs) ∧ Below w1.heap.size w1 w2) := sector_any w1 qy qs hy
    have HWd : Hid (∀ (w3 : World) (o3 : Nat → Nat) (v : Value), DIs w3 o3 jd b D → RIs w3 o3 jr rb R → Kp0 w3 o3 v (secL qy qs) → Calls Try.prog 17 #[ptr b, .int .i64 qn, v] w3 fun r w4 => r = .returned (.int .i64 (D.write qn (secL qy qs)).1) ∧ ∃ o4, DIs w4 o4 jd b (D.write qn (secL qy qs)).2 ∧ RIs w4 o4 jr rb R ∧ Kp0 w4 o4 v (secL qy qs) ∧ Mv [jd, jr] w3 o3 w4 o4) := fun w3 o3 v hd hr hk => by
      obtain ⟨gv, nv, pv, d⟩ := hd
      refine (write_any d hok hN qn hk.1).mono ?_
      rintro r w4 ⟨rfl, o4, d4, m4⟩
      exact ⟨rfl, o4, d4, HDmv.out _ _ _ _ hr m4, hk.mv m4 (by simp; omega), m4.widen (by simp)⟩
    have HWr : Hid (∀ (w3 : World) (o3 : Nat → Nat) (v : Value) (D' : Dk), DIs w3 o3 jd b D' → RIs w3 o3 jr rb R → Kp0 w3 o3 v (secL qy qs) → Calls Try.prog 27 #[ptr rb, .int .i64 qn, v] w3 fun r w4 => r = .returned (.int .i64 (R.write qn (secL qy qs)).1) ∧ After w3 o3 jd b jr rb D' (R.write qn (secL qy qs)).2 w4) := fun w3 o3 v D' hd hr hk => by
      obtain ⟨gv, pv, gs, ps, d⟩ := hr
      refine (rwrite_any d hjr hrok hM qn hk.1).mono ?_
      rintro r w4 ⟨rfl, o4, d4, m4⟩
      exact ⟨rfl, o4, ⟨hd.mv m4 (by simp; omega), d4⟩, m4.widen (by simp)⟩
    have HB : stepB D R ⟨0, qn, qy, qs, ks⟩ = ((D.write qn (secL qy qs)).1 == (R.write qn (secL qy qs)).1) := rfl
    have HDs : stepD D ⟨0, qn, qy, qs, ks⟩ = (D.write qn (secL qy qs)).2 := rfl
    have HRs : stepR R ⟨0, qn, qy, qs, ks⟩ = (R.write qn (secL qy qs)).2 := rfl
    rw [HB, HDs, HRs]
    generalize (D.write qn (secL qy qs)).1 = KD at *
    generalize (D.write qn (secL qy qs)).2 = D' at *
    generalize (R.write qn (secL qy qs)).1 = KR at *
    generalize (R.write qn (secL qy qs)).2 = R' at *
    clear HB HDs HRs
    go_enter Try.func13, Try.ntmps13
    go_upto_region 1 with fail
    rw [← HW1.out]
    clear HW1
    go_upto_region 4 with (go_at_call 18; go_must (refine HSc.out.mono ?_; rintro r w2 ⟨v2, rfl, r2, b2⟩; obtain ⟨a2, q2, hv2⟩ := r2.rd.len; subst hv2; have HKp : Hid (Kp0 w2 (newTo o1 w1 0) _ (secL qy qs)) := Kp0.of_new (w1 := w1) r2 (Nat.le_refl _); have HD2 : Hid (DIs w2 (newTo o1 w1 0) jd b D) := HD1.out.below b2; have HR2 : Hid (RIs w2 (newTo o1 w1 0) jr rb R) := HR1.out.below b2; have HM2 : Hid (Mv [jd, jr] w1 o1 w2 (newTo o1 w1 0)) := Mv.of_below 0 b2; clear r2 b2))
    generalize hL : (secL qy qs).length = LS at *
    clear hL
    have y1 := fun z : WIn (fun w' => ∃ o', Mv [jd, jr] w2 (newTo o1 w1 0) w' o') => (HBk.out z.w z.ok.choose (HM2.out.trans z.ok.choose_spec)).cell 1 _ rfl
    have ne : Nonempty (WIn (fun w' => ∃ o', Mv [jd, jr] w2 (newTo o1 w1 0) w' o')) := ⟨⟨w2, _, Mv.refl _ _ _⟩⟩
    refine wp_region_tree (C := fun w' => ∃ z : WIn (fun w' => ∃ o', Mv [jd, jr] w2 (newTo o1 w1 0) w' o'), w' = z.w) (.still 0 (.still 1 (.still 2 (.still 3 (.still 5 (.still 6 (.still 7 (.still 8 (.one 4 (.one 9 (.still 10 (.still 11 .done)))))))))))) (by kernel_rfl) (by kernel_rfl) ⟨⟨w2.drew, ⟨_, mv_drewn _ _⟩⟩, rfl⟩ ?_
    have HKd : Hid (Kp0 w2.drew (newTo o1 w1 0) (.slice a2 LS q2) (secL qy qs)) := HKp.out.mv (mv_drewn (I := []) _ _) (by simp)
    have HDd : Hid (DIs w2.drew (newTo o1 w1 0) jd b D) := HD2.out.mv (mv_drewn (I := []) _ _) (by simp)
    have HRd : Hid (RIs w2.drew (newTo o1 w1 0) jr rb R) := HR2.out.mv (mv_drewn (I := []) _ _) (by simp) (by simp)
    have HMd : Hid (Mv [jd, jr] w2 (newTo o1 w1 0) w2.drew (newTo o1 w1 0)) := mv_drewn _ _
    generalize w2.drew = wd at *
    iterate 8 (refine tree_still rfl rfl ?_; go_big_quiet_step (fail); refine wpQuiet_nil ?_)
    refine tree_one rfl rfl ?_
    go_simp
    refine (HWd.out wd _ _ HDd.out HRd.out HKd.out).mono ?_
    rintro r w3 ⟨rfl, o3, hd3, hr3, hk3, m3⟩
    have HD3 : Hid (DIs w3 o3 jd b D') := hd3
    have HR3 : Hid (RIs w3 o3 jr rb R) := hr3
    have HK3 : Hid (Kp0 w3 o3 _ (secL qy qs)) := hk3
    have HM3 : Hid (Mv [jd, jr] w2 (newTo o1 w1 0) w3 o3) := HMd.out.trans m3
    clear hd3 hr3 hk3 m3
    refine ⟨⟨⟨_, ⟨_, HM3.out⟩⟩, rfl⟩, ?_⟩
    refine tree_one rfl rfl ?_
    go_simp
    refine (HWr.out w3 _ _ _ HD3.out HR3.out HK3.out).mono ?_
    rintro r w4 ⟨rfl, o4, h4, m4⟩
    have HE : Hid (After w o jd b jr rb D' R' w4) := ⟨o4, h4, ((HM1.out.trans HM2.out).trans HM3.out).trans m4⟩
    have HM4 : Hid (Mv [jd, jr] w2 (newTo o1 w1 0) w4 o4) := HM3.out.trans m4
    clear h4 m4
    refine ⟨⟨⟨_, ⟨_, HM4.out⟩⟩, rfl⟩, ?_⟩
    iterate 2 (refine tree_still rfl rfl ?_; go_big_quiet_step (fail); refine wpQuiet_nil ?_)
    refine tree_done ?_
    clear y1 ne
    go_wp2
    go_ret
    exact ⟨rfl, HE.out⟩
  · have n0 : (qk == 0) = false := by simpa using k0
    by_cases k1 : qk = 1
    · subst k1
      have HRdD : Hid (Calls Try.prog 22 #[ptr b, .int .i64 qn] w1 fun r w2 => ∃ v, r = .returned (.tuple #[v, .int .i64 (D.readK qn)]) ∧ Rd w2 v (D.readB qn) ∧ Below w1.heap.size w1 w2) := by
        obtain ⟨gv, nv, pv, d⟩ := HD1.out
        refine (read_any d qn).mono ?_
        rintro r w2 ⟨v, rfl, h2, b2⟩
        exact ⟨v, rfl, h2.rd, b2⟩
      have HRdR : Hid (∀ w2, Below w1.heap.size w1 w2 → Calls Try.prog 24 #[ptr rb, .int .i64 qn] w2 fun r w3 => ∃ v, r = .returned (.tuple #[v, .int .i64 (R.readK qn)]) ∧ Rd w3 v (R.readB qn) ∧ Below w2.heap.size w2 w3) := fun w2 hb => by
        obtain ⟨gv, pv, gs, ps, d⟩ := HR1.out.below hb
        exact rread_any d hrok hM qn
      have HSm : Hid (∀ (v6 v7 : Value) (w7 : World), Rd w7 v6 (D.readB qn) → Rd w7 v7 (R.readB qn) → Calls Try.prog 23 #[v6, v7] w7 fun e w8 => e = .returned (.bool (decide (D.readB qn = R.readB qn))) ∧ Below w7.heap.size w7 w8) := fun v6 v7 w7 h6 h7 => same_any v6 v7 _ _ w7 h6 h7
      have HEn : Hid (∀ w4, Below w1.heap.size w1 w4 → After w o jd b jr rb D R w4) := fun w4 hb => ⟨_, ⟨HD1.out.below hb, HR1.out.below hb⟩, HM1.out.trans (Mv.of_below 0 hb)⟩
      have HBx : Hid (∀ w4, Below w1.heap.size w1 w4 → w4.cell? ⟨w.heap.size, 1, none⟩ = some (.int .i64 qn)) := fun w4 hb => (HBk.out w4 _ (Mv.of_below 0 hb)).cell 1 _ rfl
      have HB : stepB D R ⟨1, qn, qy, qs, ks⟩ = (decide (D.readB qn = R.readB qn) && (D.readK qn == R.readK qn)) := rfl
      have HDs : stepD D ⟨1, qn, qy, qs, ks⟩ = D := rfl
      have HRs : stepR R ⟨1, qn, qy, qs, ks⟩ = R := rfl
      rw [HB, HDs, HRs]
      generalize D.readK qn = KD at *
      generalize R.readK qn = KR at *
      generalize decide (D.readB qn = R.readB qn) = EB at *
      generalize D.readB qn = BD at *
      generalize R.readB qn = BR at *
      clear HB HDs HRs
      go_enter Try.func13, Try.ntmps13
      go_upto_region 1 with fail
      rw [← HW1.out]
      clear HW1
      go_upto_region 7 with (go_at_call 22; go_must (refine HRdD.out.mono ?_; rintro r w6 ⟨v6, rfl, r6, b6⟩; have Hr6 : Hid (Rd w6 v6 BD) := r6; have Hb6 : Hid (Below w1.heap.size w1 w6) := b6; clear r6 b6))
      have z1 := HBx.out w6 Hb6.out
      go_upto_region 8 with (go_at_call 24; go_must (refine (HRdR.out w6 Hb6.out).mono ?_; rintro r w7 ⟨v7, rfl, r7, b7⟩; have Hr7 : Hid (Rd w7 v7 BR) := r7; have Hr67 : Hid (Rd w7 v6 BD) := Hr6.out.below b7; have Hb7 : Hid (Below w1.heap.size w1 w7) := bnext Hb6.out b7; clear r7 b7))
      cases EB
      · go_wp2_with (go_at_call 23; go_must (refine (HSm.out v6 v7 w7 Hr67.out Hr7.out).mono ?_; rintro r w8 ⟨rfl, b8⟩; have HE : Hid (After w o jd b jr rb D R w8) := HEn.out w8 (bnext Hb7.out b8); clear b8))
        go_ret
        exact ⟨rfl, HE.out⟩
      · go_wp2_with (go_at_call 23; go_must (refine (HSm.out v6 v7 w7 Hr67.out Hr7.out).mono ?_; rintro r w8 ⟨rfl, b8⟩; have HE : Hid (After w o jd b jr rb D R w8) := HEn.out w8 (bnext Hb7.out b8); clear b8))
        go_ret
        exact ⟨rfl, HE.out⟩
    · have n1 : (qk == 1) = false := by simpa using k1
      by_cases k2 : qk = 2
      · subst k2
        have HSd : Hid (Calls Try.prog 19 #[ptr b] w1 fun r w2 => r = .returned (.int .i64 D.sync.1) ∧ ∃ o2, DIs w2 o2 jd b D.sync.2 ∧ RIs w2 o2 jr rb R ∧ Mv [jd, jr] w1 o1 w2 o2) := by
          obtain ⟨gv, nv, pv, d⟩ := HD1.out
          refine (sync_any d hok hN).mono ?_
          rintro r w4 ⟨rfl, o4, d4, m4⟩
          exact ⟨rfl, o4, d4, HDmv.out _ _ _ _ HR1.out m4, m4.widen (by simp)⟩
        have HSr : Hid (∀ (w3 : World) (o3 : Nat → Nat) (D' : Dk), DIs w3 o3 jd b D' → RIs w3 o3 jr rb R → Calls Try.prog 28 #[ptr rb] w3 fun r w4 => r = .returned (.int .i64 R.sync.1) ∧ After w3 o3 jd b jr rb D' R.sync.2 w4) := fun w3 o3 D' hd hr => by
          obtain ⟨gv, pv, gs, ps, d⟩ := hr
          refine (rsync_any d hjr hrok hM).mono ?_
          rintro r w4 ⟨rfl, o4, d4, m4⟩
          exact ⟨rfl, o4, ⟨hd.mv m4 (by simp; omega), d4⟩, m4.widen (by simp)⟩
        have HB : stepB D R ⟨2, qn, qy, qs, ks⟩ = (D.sync.1 == R.sync.1) := rfl
        have HDs : stepD D ⟨2, qn, qy, qs, ks⟩ = D.sync.2 := rfl
        have HRs : stepR R ⟨2, qn, qy, qs, ks⟩ = R.sync.2 := rfl
        rw [HB, HDs, HRs]
        generalize D.sync.1 = KD at *
        generalize D.sync.2 = D' at *
        generalize R.sync.1 = KR at *
        generalize R.sync.2 = R' at *
        clear HB HDs HRs
        go_enter Try.func13, Try.ntmps13
        go_upto_region 1 with fail
        rw [← HW1.out]
        clear HW1
        go_wp2_with (first
          | (go_at_call 19; go_must (refine HSd.out.mono ?_; rintro r w3 ⟨rfl, o3, hd3, hr3, m3⟩; have HD3 : Hid (DIs w3 o3 jd b D') := hd3; have HR3 : Hid (RIs w3 o3 jr rb R) := hr3; have HM3 : Hid (Mv [jd, jr] w o w3 o3) := HM1.out.trans m3; clear hd3 hr3 m3))
          | (go_at_call 28; go_must (refine (HSr.out w3 o3 D' HD3.out HR3.out).mono ?_; rintro r w4 ⟨rfl, o4, h4, m4⟩; have HE : Hid (After w o jd b jr rb D' R' w4) := ⟨o4, h4, HM3.out.trans m4⟩; clear h4 m4)))
        go_ret
        exact ⟨rfl, HE.out⟩
      · have n2 : (qk == 2) = false := by simpa using k2
        by_cases k3 : qk = 3
        · subst k3
          have HAd : Hid (∀ (w3 : World) (o3 : Nat → Nat), DIs w3 o3 jd b D → RIs w3 o3 jr rb R → Calls Try.prog 20 #[ptr b, .int .i64 qn] w3 fun r w2 => r = .returned (.int .i64 (D.arm qn).1) ∧ ∃ o2, DIs w2 o2 jd b (D.arm qn).2 ∧ RIs w2 o2 jr rb R ∧ Mv [jd, jr] w3 o3 w2 o2) := fun w3 o3 hd hr => by
            obtain ⟨gv, nv, pv, d⟩ := hd
            refine (arm_any d qn).mono ?_
            rintro r w4 ⟨rfl, o4, d4, m4⟩
            exact ⟨rfl, o4, d4, HDmv.out _ _ _ _ hr m4, m4.widen (by simp)⟩
          have HAr : Hid (∀ (w3 : World) (o3 : Nat → Nat) (D' : Dk), DIs w3 o3 jd b D' → RIs w3 o3 jr rb R → Calls Try.prog 29 #[ptr rb, .int .i64 qn] w3 fun r w4 => r = .returned (.int .i64 (R.arm qn).1) ∧ After w3 o3 jd b jr rb D' (R.arm qn).2 w4) := fun w3 o3 D' hd hr => by
            obtain ⟨gv, pv, gs, ps, d⟩ := hr
            refine (rarm_any d hjr qn).mono ?_
            rintro r w4 ⟨rfl, o4, d4, m4⟩
            exact ⟨rfl, o4, ⟨hd.mv m4 (by simp; omega), d4⟩, m4.widen (by simp)⟩
          have HB : stepB D R ⟨3, qn, qy, qs, ks⟩ = ((D.arm qn).1 == (R.arm qn).1) := rfl
          have HDs : stepD D ⟨3, qn, qy, qs, ks⟩ = (D.arm qn).2 := rfl
          have HRs : stepR R ⟨3, qn, qy, qs, ks⟩ = (R.arm qn).2 := rfl
          rw [HB, HDs, HRs]
          generalize (D.arm qn).1 = KD at *
          generalize (D.arm qn).2 = D' at *
          generalize (R.arm qn).1 = KR at *
          generalize (R.arm qn).2 = R' at *
          clear HB HDs HRs
          go_enter Try.func13, Try.ntmps13
          go_upto_region 1 with fail
          rw [← HW1.out]
          clear HW1
          go_upto_region 12 with fail
          have y1 := fun z : WIn (fun w' => ∃ o', Mv [jd, jr] w1 o1 w' o') => (HBk.out z.w z.ok.choose z.ok.choose_spec).cell 1 _ rfl
          have ne : Nonempty (WIn (fun w' => ∃ o', Mv [jd, jr] w1 o1 w' o')) := ⟨⟨w1, _, Mv.refl _ _ _⟩⟩
          refine wp_region_tree (C := fun w' => ∃ z : WIn (fun w' => ∃ o', Mv [jd, jr] w1 o1 w' o'), w' = z.w) (.still 0 (.still 1 (.still 2 (.still 4 (.still 5 (.still 6 (.one 3 (.one 7 (.still 8 (.still 9 .done)))))))))) (by kernel_rfl) (by kernel_rfl) ⟨⟨w1.drew, ⟨_, mv_drewn _ _⟩⟩, rfl⟩ ?_
          have HDd : Hid (DIs w1.drew o1 jd b D) := HD1.out.mv (mv_drewn (I := []) _ _) (by simp)
          have HRd : Hid (RIs w1.drew o1 jr rb R) := HR1.out.mv (mv_drewn (I := []) _ _) (by simp) (by simp)
          have HMd : Hid (Mv [jd, jr] w1 o1 w1.drew o1) := mv_drewn _ _
          generalize w1.drew = wd at *
          iterate 6 (refine tree_still rfl rfl ?_; go_big_quiet_step (fail); refine wpQuiet_nil ?_)
          refine tree_one rfl rfl ?_
          go_simp
          refine (HAd.out wd _ HDd.out HRd.out).mono ?_
          rintro r w3 ⟨rfl, o3, hd3, hr3, m3⟩
          have HD3 : Hid (DIs w3 o3 jd b D') := hd3
          have HR3 : Hid (RIs w3 o3 jr rb R) := hr3
          have HM3 : Hid (Mv [jd, jr] w1 o1 w3 o3) := HMd.out.trans m3
          clear hd3 hr3 m3
          refine ⟨⟨⟨_, ⟨_, HM3.out⟩⟩, rfl⟩, ?_⟩
          refine tree_one rfl rfl ?_
          go_simp
          refine (HAr.out w3 _ _ HD3.out HR3.out).mono ?_
          rintro r w4 ⟨rfl, o4, h4, m4⟩
          have HE : Hid (After w o jd b jr rb D' R' w4) := ⟨o4, h4, (HM1.out.trans HM3.out).trans m4⟩
          have HM4 : Hid (Mv [jd, jr] w1 o1 w4 o4) := HM3.out.trans m4
          clear h4 m4
          refine ⟨⟨⟨_, ⟨_, HM4.out⟩⟩, rfl⟩, ?_⟩
          iterate 2 (refine tree_still rfl rfl ?_; go_big_quiet_step (fail); refine wpQuiet_nil ?_)
          refine tree_done ?_
          clear y1 ne
          go_wp2
          go_ret
          exact ⟨rfl, HE.out⟩
        · have n3 : (qk == 3) = false := by simpa using k3
          by_cases k4 : qk = 4
          · subst k4
            have HKS : Hid (∀ w' o', Mv [jd, jr] w o w' o' → RowF bc w' (.slice ak ks.length ck) ks) := hks
            have HRr : Hid (Calls Try.prog 30 #[ptr rb, .slice ak ks.length ck] w1 fun r w2 => r = .returned (.tuple #[]) ∧ ∃ o2, DIs w2 o2 jd b D ∧ RIs w2 o2 jr rb (R.restart ks) ∧ Mv [jd, jr] w1 o1 w2 o2) := by
              obtain ⟨gv, pv, gs, ps, d⟩ := HR1.out
              refine (rrestart_any d hjr hrok hM (fun w' o' m => HKS.out w' o' (HM1.out.trans (m.widen (by simp))))).mono ?_
              rintro r w4 ⟨rfl, o4, d4, m4⟩
              exact ⟨rfl, o4, HD1.out.mv m4 (by simp; omega), d4, m4.widen (by simp)⟩
            have HRd : Hid (∀ (w3 : World) (o3 : Nat → Nat) (R' : Rk), DIs w3 o3 jd b D → RIs w3 o3 jr rb R' → Mv [jd, jr] w1 o1 w3 o3 → Calls Try.prog 21 #[ptr b, .slice ak ks.length ck] w3 fun r w4 => r = .returned (.int .i64 0) ∧ After w o jd b jr rb (D.restart ks) R' w4) := fun w3 o3 R' hd hr hm => by
              obtain ⟨gv, nv, pv, d⟩ := hd
              refine (restart_any (ks := ks) d hok hN (fun w' o' m => HKS.out w' o' ((HM1.out.trans hm).trans (m.widen (by simp))))).mono ?_
              rintro r w4 ⟨rfl, o4, d4, m4⟩
              exact ⟨rfl, o4, ⟨d4, hr.mv m4 (by simp; omega) (by simp; omega)⟩, (HM1.out.trans hm).trans (m4.widen (by simp))⟩
            have HDs : stepD D ⟨4, qn, qy, qs, ks⟩ = D.restart ks := rfl
            have HRs : stepR R ⟨4, qn, qy, qs, ks⟩ = R.restart ks := rfl
            have HB : stepB D R ⟨4, qn, qy, qs, ks⟩ = true := rfl
            rw [HB, HDs, HRs]
            have HBx : Hid (∀ (w4 : World) (o4 : Nat → Nat), Mv [jd, jr] w1 o1 w4 o4 → w4.cell? ⟨w.heap.size, 4, none⟩ = some (.slice ak ks.length ck)) := fun w4 o4 m => (HBk.out w4 _ m).cell 4 _ rfl
            generalize D.restart ks = D' at *
            generalize R.restart ks = R' at *
            clear HB HDs HRs HKS hks hkv
            generalize ks.length = LK at *
            go_enter Try.func13, Try.ntmps13
            go_upto_region 1 with fail
            rw [← HW1.out]
            clear HW1
            go_upto_region 15 with (go_at_call 30; go_must (refine HRr.out.mono ?_; rintro r w3 ⟨rfl, o3, hd3, hr3, m3⟩; have HD3 : Hid (DIs w3 o3 jd b D) := hd3; have HR3 : Hid (RIs w3 o3 jr rb R') := hr3; have HM3 : Hid (Mv [jd, jr] w1 o1 w3 o3) := m3; clear hd3 hr3 m3))
            have z4 := HBx.out w3 o3 HM3.out
            go_wp2_with (go_at_call 21; go_must (refine (HRd.out w3 o3 R' HD3.out HR3.out HM3.out).mono ?_; rintro r w4 ⟨rfl, h4⟩; have HE : Hid (After w o jd b jr rb D' R' w4) := h4; clear h4))
            go_ret
            exact ⟨rfl, HE.out⟩
          · have n4 : (qk == 4) = false := by simpa using k4
            have HB : stepB D R ⟨qk, qn, qy, qs, ks⟩ = true := by unfold stepB; simp [k0, k1, k2, k3]
            have HDs : stepD D ⟨qk, qn, qy, qs, ks⟩ = D := by unfold stepD; simp [k0, k1, k2, k3, k4]
            have HRs : stepR R ⟨qk, qn, qy, qs, ks⟩ = R := by unfold stepR; simp [k0, k1, k2, k3, k4]
            rw [HB, HDs, HRs]
            have HE : Hid (After w o jd b jr rb D R w1) := ⟨o1, ⟨HD1.out, HR1.out⟩, HM1.out⟩
            clear HB HDs HRs k0 k1 k2 k3 k4 hks hkv
            go_enter Try.func13, Try.ntmps13
            go_upto_region 1 with fail
            rw [← HW1.out]
            clear HW1
            go_wp2
            go_ret
            exact ⟨rfl, HE.out⟩
end Go.Proofs.Ytfkkbloapnlbgaa
