/-
  The document's Read and Restart.
-/
import Derived.Test.YtfkkbloapnlbgaaRDsk1
import Derived.Test.YtfkkbloapnlbgaaArgsD
namespace Go.Proofs.Ytfkkbloapnlbgaa
set_option linter.unusedVariables false
set_option linter.unusedSimpArgs false
set_option synthInstance.maxSize 20000
set_option maxHeartbeats 4000000
set_option maxRecDepth 20000
open Go.RowKit Go.Maps

theorem own_zeros (w : World) : Own w.heap.size 5 (w.alloc (.cells (cs8 (List.replicate 64 0)).toArray 5)) (.slice (some ⟨w.heap.size, 0, none⟩) 64 64) zerosL := by
  refine ⟨oct_zeros 64, by simp [cs8, zerosL], .inr ⟨w.heap.size, 64, _, rfl, Nat.le_refl _, heap_alloc_new w _, by simp [zerosL], by unfold maxLen; omega, by simp [cs8], ?_⟩⟩
  rw [List.take_of_length_le (by simp [cs8, zerosL])]
  rfl

section
variable {w : World} {o : Nat → Nat} {j b : Nat} {gv pv : Value} {R : Rk} {gs ps : List (RW × Value)}
theorem rread_any {N : Nat} (h : RAt w o j b gv pv R gs ps) (hok : ROk R N) (hN : N ≤ 2000) (i : Int) : Calls Try.prog 24 #[ptr b, .int .i64 i] w fun r w' => ∃ v, r = .returned (.tuple #[v, .int .i64 (R.readK i)]) ∧ Rd w' v (R.readB i) ∧ Below w.heap.size w w' := by
  have c0 := h.c0
  have c4 := h.c4
  cases hd : R.down
  · rw [hd] at c4
    by_cases hi0 : i < 0
    · have e1 : R.readK i = 2 := by unfold Rk.readK Rk.reach; simp [hd, hi0]
      have e2 : R.readB i = [] := by unfold Rk.readB Rk.reach; simp [hd, hi0]
      rw [e1, e2]
      clear h e1 e2 hok hd
      go_enter Try.func24, Try.ntmps24
      go_wp2
      refine bodyPost_ret (results_tmp2 rfl _ _ _) rfl ⟨_, rfl, rd_nil _, Below.refl _ _⟩
    · by_cases hi1 : R.n ≤ i
      · have e1 : R.readK i = 2 := by unfold Rk.readK Rk.reach; simp [hd, hi1]
        have e2 : R.readB i = [] := by unfold Rk.readB Rk.reach; simp [hd, hi1]
        rw [e1, e2]
        clear h e1 e2 hok hd
        go_enter Try.func24, Try.ntmps24
        go_wp2
        refine bodyPost_ret (results_tmp2 rfl _ _ _) rfl ⟨_, rfl, rd_nil _, Below.refl _ _⟩
      · obtain ⟨n, rfl⟩ := Int.eq_ofNat_of_zero_le (by omega : 0 ≤ i)
        have hr : R.reach (n : Int) = 0 := by unfold Rk.reach; rw [if_neg (by simp [hd]), if_neg (by omega)]
        have e1 : R.readK (n : Int) = foundK (lastAt ((gs ++ ps).map (·.1)) n) := by unfold Rk.readK Rk.found; rw [if_neg (by simp [hr]), List.map_append, h.eg, h.ep]; rfl
        have e2 : R.readB (n : Int) = foundB (lastAt ((gs ++ ps).map (·.1)) n) := by unfold Rk.readB Rk.found; rw [if_neg (by simp [hr]), List.map_append, h.eg, h.ep]; rfl
        rw [e1, e2]
        obtain ⟨A, hA⟩ : ∃ A, A = gs ++ ps := ⟨_, rfl⟩
        have HA : Hid (A = gs ++ ps) := hA
        rw [← hA]
        clear hA
        have hgl := h.gl
        have hpl := h.pl
        have hlen : gs.length + ps.length ≤ 2000 := by have := hok.gl; omega
        clear hgl hpl e1 e2
        have h1 := h.mv (mv_drewn (I := []) w o) (by simp) (by simp)
        have hbd : b < w.drew.heap.size := h.blk.lt
        have HS : Hid (∀ wB, Below w.drew.heap.size w.drew wB → Same2 w b b wB) := fun wB hB => ⟨hB.block b hbd, hB.block b hbd⟩
        have HO : Hid ((w.drew.alloc (.cells #[] 73)).ownsRow 0 73 3 (.slice (some ⟨w.drew.heap.size, 0, none⟩) 0 0) ([] : List (RW × Value)).length (flat rc [])) :=
          ⟨rfl, .inr ⟨w.drew.heap.size, 0, #[], rfl, Nat.zero_le _, heap_alloc_new w.drew _, Nat.le_refl _, Nat.zero_le _, rfl, rfl⟩⟩
        have HBA : Hid (Below w.drew.heap.size w.drew (w.drew.alloc (.cells #[] 73))) := (show Below _ _ _ from balloc (Below.refl _ _) _)
        have HG : Hid (∀ wB, Below w.drew.heap.size w.drew wB → RowF rc wB gv gs) := fun wB hB => (rowF_own rc_len h1.g).below hB
        have HP : Hid (∀ wB, Below w.drew.heap.size w.drew wB → RowF rc wB pv ps) := fun wB hB => (rowF_own rc_len h1.p).below hB
        have HG1 : Hid (∀ u ∈ flat rc gs, u.oneCell' = true) := h1.kg.one
        have HP1 : Hid (∀ u ∈ flat rc ps, u.oneCell' = true) := h1.kp.one
        have HSt : Hid (∀ wB, Below w.drew.heap.size w.drew wB → Stay wB (newTo o w.drew 0) (gs ++ ps)) := fun wB hB => (h1.kg.append h1.kp).mv (Mv.of_below (I := []) 0 hB) (by simp)
        have HU : Hid (∀ wB, Below w.drew.heap.size w.drew wB → Below w.heap.size w wB) := fun wB h => ⟨h.os, h.tape, h.output, h.size, h.block⟩
        have x1 := fun z : WIn (Same2 w b b) => (h.blk.block z.ok.b).cell 1 _ rfl
        have x2 := fun z : WIn (Same2 w b b) => (h.blk.block z.ok.b).cell 2 _ rfl
        have ne : Nonempty (WIn (Same2 w b b)) := ⟨⟨w, Same2.refl _ _ _⟩⟩
        obtain ⟨ag, cg, hvg, _⟩ := slice_of_own h.g
        obtain ⟨ap, cp, hvp, _⟩ := slice_of_own h.p
        subst hvg hvp
        clear h h1 hd hok hr
        go_enter Try.func24, Try.ntmps24
        go_upto_region 5 with fail
        refine wp_region_tree (C := fun w' => ∃ z : WIn (Same2 w b b), w' = z.w) (.still 1 (.still 2 (.still 3 (.still 4 (.still 6 (.still 7 (.still 8 (.still 9 (.one 0 (.one 5 (.one 10 (.still 11 .done)))))))))))) (by kernel_rfl) (by kernel_rfl) ⟨⟨w.drew, ⟨rfl, rfl⟩⟩, rfl⟩ ?_
        generalize w.drew = wd at *
        iterate 8 (refine tree_still rfl rfl ?_; go_big_quiet_step (fail); refine wpQuiet_nil ?_)
        refine tree_one rfl rfl ?_
        go_simp
        refine ⟨⟨⟨_, HS.out _ HBA.out⟩, rfl⟩, ?_⟩
        refine tree_one rfl rfl ?_
        refine wp_of_list rfl ?_
        refine wpList_append_rows ty38 rc_len (by omega) rfl (.tmp 22) (.tmp 26) rfl _ [] rfl HO.out _ gs rfl (HG.out _ HBA.out) HG1.out (by simp; omega) ?_
        intro v5 w5 k1 k2 k3
        rw [List.nil_append] at k1
        have HB5 : Hid (Below wd.heap.size wd w5) := bgrown HBA.out (Nat.le_refl _) k2
        have HL5 : Hid (∀ k, v5.ownBlock = some k → wd.heap.size ≤ k) := fun k hk => by
          rcases k3 k hk with r | r
          · cases r; exact Nat.le_refl _
          · have := HBA.out.size; omega
        obtain ⟨a5, q5, hv5, _⟩ := slice_of_own k1
        subst hv5
        have HR5 : Hid (w5.ownsRow 0 73 3 (.slice a5 gs.length q5) gs.length (flat rc gs)) := k1
        clear k1 k2 k3
        refine ⟨rfl, ⟨⟨_, HS.out _ HB5.out⟩, rfl⟩, ?_⟩
        go_simp
        refine tree_one rfl rfl ?_
        refine wp_of_list rfl ?_
        refine wpList_append_rows ty38 rc_len (by omega) rfl (.tmp 27) (.tmp 31) rfl _ gs rfl HR5.out _ ps rfl (HP.out _ HB5.out) HP1.out (by omega) ?_
        intro v6 w6 k1 k2 k3
        have HB6 : Hid (Below wd.heap.size wd w6) := (show Below _ _ _ from HB5.out.grown (show w5.grownBy w6 (Value.slice a5 gs.length q5).ownBlock from k2) HB5.out.size (fun k hk => HL5.out k hk))
        obtain ⟨a6, q6, hv6, hq6⟩ := slice_of_own k1
        subst hv6
        have HR6 : Hid (RowF rc w6 (.slice a6 (gs ++ ps).length q6) (gs ++ ps)) := rowF_own rc_len k1
        have hAl : (gs ++ ps).length ≤ 2000 := by rw [List.length_append]; exact hlen
        have HS6 := HSt.out w6 HB6.out
        have HSt6 : Hid (Stay w6 (newTo o wd 0) (gs ++ ps)) := HS6
        have HU6 : Hid (Below w.heap.size w w6) := HU.out w6 HB6.out
        have HS66 : Hid (Same2 w b b w6) := HS.out w6 HB6.out
        clear k1 k2 k3 HS6 HSt HG HP HG1 HP1 HO HBA HR5 HB5 HL5 HS HB6 HU
        rw [← HA.out] at HR6 hAl HSt6 hq6 ⊢
        clear HA
        refine ⟨rfl, ⟨⟨_, HS66.out⟩, rfl⟩, ?_⟩
        go_simp
        refine tree_still rfl rfl ?_
        go_big_quiet_step (fail)
        refine wpQuiet_nil ?_
        refine tree_done ?_
        clear x1 x2 ne HS66
        go_wp2
        have HI0 : Hid (lastAt (A.map (·.1)) n = lastAt ((A.map (·.1)).take A.length) n) := by
          show _ = _
          rw [List.take_of_length_le (by simp)]
        go_loopw [7] (fun iv wr => ∃ (m : Nat), iv = .int .i64 ((m : Int) - 1) ∧ m ≤ A.length ∧ Hid (lastAt (A.map (·.1)) n = lastAt ((A.map (·.1)).take m) n) ∧ Hid (w6 = wr)) (fun iv _ => (intOf iv + 1).toNat)
        case atStart => exact ⟨A.length, rfl, Nat.le_refl _, HI0, (show w6 = w6 from rfl)⟩
        case round =>
          obtain ⟨m, rfl, hm, HI, HW⟩ := hrel
          have hww := HW.out
          subst hww
          clear HI0
          cases m with
          | zero =>
            have HE : Hid (lastAt (A.map (·.1)) n = none) := by
              have := HI.out
              rw [List.take_zero] at this
              exact this
            have HZ : Hid (Own w6.heap.size 5 (w6.alloc (.cells (cs8 (List.replicate 64 0)).toArray 5)) (.slice (some ⟨w6.heap.size, 0, none⟩) 64 64) zerosL) := own_zeros w6
            obtain ⟨w7, hw7⟩ : ∃ w7, w7 = w6.alloc (.cells (cs8 (List.replicate 64 0)).toArray 5) := ⟨_, rfl⟩
            rw [← hw7] at HZ
            have HW7 : Hid (w7 = w6.alloc (.cells (cs8 (List.replicate 64 0)).toArray 5)) := hw7
            have HU7 : Hid (Below w.heap.size w w7) := by rw [hw7]; exact balloc HU6.out _
            clear HI hw7 HR6 HSt6
            simp only [Int.natCast_zero, Int.zero_sub]
            go_wp2_with (refine wpList_make_bytes 43 5 byteTy rfl (.const (.int .i64 64)) (.const (.int .i64 64)) rfl .i64 .i64 64 64 64 64 rfl rfl rfl rfl (Nat.le_refl _) (by omega) ?_; rw [← HW7.out])
            refine bodyPost_ret (results_tmp2 rfl _ _ _) rfl ⟨.slice (some ⟨w6.heap.size, 0, none⟩) 64 64, ?_, ?_, HU7.out⟩
            · rw [HE.out]; rfl
            · rw [HE.out]; exact HZ.out.rd
          | succ m =>
            have hmA : m < A.length := by omega
            obtain ⟨q, hq⟩ : ∃ q, A[m]? = some q := ⟨_, List.getElem?_eq_getElem hmA⟩
            obtain ⟨g, off, ea, hr⟩ := HR6.out.at rc_len hq
            subst ea
            have y0 := hr 0 _ rfl
            have y1 := hr 1 _ rfl
            have y2 := hr 2 _ rfl
            have hq1 : (A.map (·.1))[m]? = some q.1 := by rw [List.getElem?_map, hq]; rfl
            have hstep := lastAt_take hq1 n
            have HK := (HSt6.out q (List.mem_of_getElem? hq)).1
            have HRq : Hid (Rd w6 q.2 q.1.b) := HK
            obtain ⟨aq, cq, hqq⟩ := HK.len
            have hidx : ((m + 1 : Nat) : Int) - 1 = (m : Int) := by omega
            rw [hidx]
            have hm3 : (m : Int) < (A.length : Int) := by omega
            obtain ⟨⟨qi, qb, qt⟩, qv⟩ := q
            dsimp only at *
            subst hqq
            simp only [Nat.add_zero] at y0
            clear hr hq hq1 HK hidx
            by_cases hqi : qi = n
            · subst hqi
              rw [if_pos rfl] at hstep
              have HE : Hid (lastAt (A.map (·.1)) qi = some ⟨qi, qb, qt⟩) := HI.out.trans hstep
              clear HI hstep
              cases qt
              · generalize qb.length = LB at *
                go_wp2
                refine bodyPost_ret (results_tmp2 rfl _ _ _) rfl ⟨.slice aq LB cq, ?_, ?_, HU6.out⟩
                · rw [HE.out]; rfl
                · rw [HE.out]; exact HRq.out
              · generalize qb.length = LB at *
                go_wp2
                refine bodyPost_ret (results_tmp2 rfl _ _ _) rfl ⟨.slice none 0 0, ?_, ?_, HU6.out⟩
                · rw [HE.out]; rfl
                · rw [HE.out]; exact rd_nil _
            · rw [if_neg hqi] at hstep
              have HI2 : Hid (lastAt (A.map (·.1)) n = lastAt ((A.map (·.1)).take m) n) := HI.out.trans hstep
              have hqi2 : ¬ (qi : Int) = (n : Int) := by omega
              have hqi3 : ((qi : Int) == (n : Int)) = false := by simpa using hqi2
              clear HI hstep
              generalize qb.length = LB at *
              go_wp2
              go_roundw
              case rel => exact ⟨m, by go_num, by omega, HI2, trivial⟩
              case measure => simp [intOf]
  · rw [hd] at c4
    have e1 : R.readK i = 19 := by unfold Rk.readK Rk.reach; simp [hd]
    have e2 : R.readB i = [] := by unfold Rk.readB Rk.reach; simp [hd]
    rw [e1, e2]
    clear h e1 e2 hok hd
    go_enter Try.func24, Try.ntmps24
    go_wp2
    refine bodyPost_ret (results_tmp2 rfl _ _ _) rfl ⟨_, rfl, rd_nil _, Below.refl _ _⟩

/-- The state at a round's head of Restart. -/
def Rk.upto (R : Rk) (ks : List Bool) (k : Nat) : Rk := { R with good := R.good ++ kept (keeps ks) R.midst R.pend.length 0 (R.pend.take k) }
theorem rupto_zero (R : Rk) (ks : List Bool) : R.upto ks 0 = R := by
  unfold Rk.upto
  rw [List.take_zero]
  show { R with good := R.good ++ [] } = R
  rw [List.append_nil]
theorem rupto_step {R : Rk} {ks : List Bool} {k : Nat} {q : RW} (h : R.pend[k]? = some q) : R.upto ks (k + 1) = { R.upto ks k with good := (R.upto ks k).good ++ (if keeps ks k then [⟨q.i, q.b, tornAt R.midst R.pend.length k⟩] else []) } := by
  unfold Rk.upto
  rw [kept_step h, ← List.append_assoc]
theorem rupto_end (R : Rk) (ks : List Bool) : { R.upto ks R.pend.length with pend := [], armed := -1, down := false, midst := false } = R.restart ks := by
  unfold Rk.upto Rk.restart
  rw [List.take_length]
def RUp (w : World) (o : Nat → Nat) (j b : Nat) (pv : Value) (R : Rk) (ks : List Bool) (ps : List (RW × Value)) (wr : World) (k : Nat) : Prop := ∃ o' gv gs, RAt wr o' j b gv pv (R.upto ks k) gs ps ∧ Mv [j] w o wr o'

theorem rrestart_any {N : Nat} (h : RAt w o j b gv pv R gs ps) (hj : j ≠ 0) (hok : ROk R N) (hN : N ≤ 2000) {kv : Value} {ks : List Bool} (hks : ∀ w' o', Mv [j] w o w' o' → RowF bc w' kv ks) : Calls Try.prog 30 #[ptr b, kv] w fun r w' => r = .returned (.tuple #[]) ∧ ∃ o', RIs w' o' j b (R.restart ks) ∧ Mv [j] w o w' o' := by
  have HI0 : Hid (RUp w o j b pv R ks ps w 0) := ⟨o, gv, gs, by rw [rupto_zero]; exact h, Mv.refl _ _ _⟩
  have HKS : Hid (∀ w' o', Mv [j] w o w' o' → RowF bc w' kv ks) := hks
  have hkv := hks w o (Mv.refl _ _ _)
  obtain ⟨ak, ck, rfl⟩ := hkv.len
  have hkc := hkv.caps
  have HEP : Hid (ps.map (·.1) = R.pend) := h.ep
  have HPL : Hid (ps.length = R.pend.length) := h.pl
  have hpl : ps.length ≤ 2000 := by have := hok.gl; have := h.pl; omega
  have HGL : Hid (∀ k, (R.upto ks k).good.length ≤ 4000) := fun k => by
    have h1 := hok.gl
    have h2 := kept_len (keeps ks) R.midst R.pend.length (R.pend.take k) 0
    have h3 : (R.pend.take k).length ≤ R.pend.length := List.length_take_le' ..
    unfold Rk.upto
    rw [List.length_append]
    omega
  obtain ⟨av, cv, hvv, hcv⟩ := slice_of_own h.p
  subst hvv
  clear h hks hkv hok
  go_enter Try.func30, Try.ntmps30
  go_wp2
  go_loopw [4] (fun i wr => ∃ k : Nat, i = .int .i64 k ∧ k ≤ ps.length ∧ Hid (RUp w o j b (.slice av ps.length cv) R ks ps wr k)) (fun i _ => ps.length - (intOf i).toNat)
  case atStart => exact ⟨0, rfl, by omega, HI0⟩
  case round =>
    obtain ⟨k, rfl, hk, HI⟩ := hrel
    clear HI0
    obtain ⟨o', gv', gs', d, m⟩ := HI.out
    have c2 := d.c2
    by_cases hkl : k < ps.length
    · obtain ⟨q, hq⟩ : ∃ q, ps[k]? = some q := ⟨_, List.getElem?_eq_getElem hkl⟩
      obtain ⟨⟨qi, qb, qt⟩, qv⟩ := q
      have hqR : R.pend[k]? = some ⟨qi, qb, qt⟩ := by rw [← HEP.out, List.getElem?_map, hq]; rfl
      have hst := rupto_step (ks := ks) hqR
      have hk3 : (k : Int) < (ps.length : Int) := by omega
      have hKr := HKS.out wr o' m
      by_cases hkk : k < ks.length
      · obtain ⟨x, hx⟩ : ∃ x, ks[k]? = some x := ⟨_, List.getElem?_eq_getElem hkk⟩
        obtain ⟨g, off, ea, hr⟩ := hKr.at bc_len hx
        subst ea
        have y0 := hr 0 _ rfl
        have e : keeps ks k = x := by unfold keeps; rw [List.getD_eq_getElem?_getD, hx]; rfl
        rw [e] at hst
        have hkk3 : (k : Int) < (ks.length : Int) := by omega
        have hkk4 : ¬ (ks.length : Int) ≤ (k : Int) := by omega
        simp only [Nat.mul_one, Nat.add_zero] at y0
        clear hr hx e hKr
        cases x
        · have HE : Hid (RUp w o j b (.slice av ps.length cv) R ks ps wr (k + 1)) := ⟨o', gv', gs', by rw [hst, if_neg (by simp), List.append_nil]; exact d, m⟩
          clear hst d m HI hq hqR
          generalize ks.length = LK at *
          go_wp2
          go_roundw
          case rel => exact ⟨k + 1, by go_num, by omega, HE⟩
          case measure => simp [intOf]; omega
        · rw [if_pos rfl] at hst
          obtain ⟨gp, cp, hvv, hcp, hcp2, hgpw⟩ := own_of_slice d.p (by omega)
          obtain ⟨rfl, rfl⟩ : av = some ⟨gp, 0, none⟩ ∧ cv = cp := by
            injection hvv with e1 _ e3
            exact ⟨e1, e3⟩
          have hR := row_range rc_len d.p hq
          have z0 := hR 0 _ rfl
          have z1 := hR 1 _ rfl
          have z2 := hR 2 _ rfl
          have hKp := d.kp _ (List.mem_of_getElem? hq)
          obtain ⟨aq, cq, hqq⟩ := hKp.1.len
          have hmidU : (R.upto ks k).midst = R.midst := rfl
          obtain ⟨tt, htt⟩ : ∃ tt, tt = tornAt R.midst R.pend.length k := ⟨_, rfl⟩
          obtain ⟨w0, hw0⟩ : ∃ w0, w0 = wr.alloc (.cells (rc ((⟨qi, qb, qt⟩ : RW), qv)).toArray 73) := ⟨_, rfl⟩
          have hb0 : Below wr.heap.size wr w0 := by rw [hw0]; exact balloc (Below.refl _ _) _
          have B0 : Blk w0 wr.heap.size 73 (rc ((⟨qi, qb, qt⟩ : RW), qv)) := by rw [hw0]; exact blk_new wr _ 73
          have d0 := d.below hb0
          have p2 := d0.c2
          have p5 := d0.c5
          have t2 := B0.cell 2 _ rfl
          have ft2 := B0.frozen 2
          obtain ⟨w1, hw1⟩ : ∃ w1, w1 = w0.setCell ⟨wr.heap.size, 2, none⟩ (.bool tt) := ⟨_, rfl⟩
          have hb1 : Below wr.heap.size wr w1 := by rw [hw1]; exact bgrown hb0 (Nat.le_refl _) (grown_setCell _ _ _ _)
          have d1 := d.below hb1
          have m1 : Mv [j] w o w1 (newTo o' wr 0) := m.trans (Mv.of_below 0 hb1)
          have B1 : Blk w1 wr.heap.size 73 (rc ((⟨qi, qb, tt⟩ : RW), qv)) := by rw [hw1]; exact B0.set 2 (.bool tt)
          have hb1' : b < w1.heap.size := d1.blk.lt
          have hs1 : wr.heap.size < w1.heap.size := B1.lt
          obtain ⟨w2, hw2⟩ : ∃ w2, w2 = w1.drew.alloc (.cells (rc ((⟨qi, qb, tt⟩ : RW), qv)).toArray 73) := ⟨_, rfl⟩
          have hb2 : Below w1.drew.heap.size w1.drew w2 := by rw [hw2]; exact balloc (Below.refl _ _) _
          have d2 := (d1.mv (mv_drewn (I := []) w1 _) (by simp) (by simp)).below hb2
          have m2 : Mv [j] w o w2 (newTo (newTo o' wr 0) w1.drew 0) := m1.trans (mv_undrew (Mv.of_below 0 hb2))
          have HRow : Hid (RowF rc w2 (.slice (some ⟨w1.drew.heap.size, 0, none⟩) 1 1) [((⟨qi, qb, tt⟩ : RW), qv)]) := by
            have := rowF_one (f := rc) w1.drew ((⟨qi, qb, tt⟩ : RW), qv) 73
            rw [← hw2] at this
            exact this
          have hSt : Stay w2 (newTo (newTo o' wr 0) w1.drew 0) [((⟨qi, qb, tt⟩ : RW), qv)] := fun q' hq' => by
            simp at hq'
            subst hq'
            have := d2.kp _ (List.mem_of_getElem? hq)
            exact this
          have HOne : Hid (∀ u ∈ flat rc [((⟨qi, qb, tt⟩ : RW), qv)], u.oneCell' = true) := hSt.one
          have HS2 : Hid (Same2 w1 b wr.heap.size w2) := ⟨hb2.block b hb1', hb2.block _ hs1⟩
          have HG : Hid (w2.ownsRow 0 73 3 gv' gs'.length (flat rc gs')) := d2.g
          have hgl : gs'.length ≤ 4000 := by rw [d.gl]; exact HGL.out k
          have hgs : ∀ i, gv'.ownBlock = some i → i ≠ wr.heap.size := fun i hi => by have := (d.g.lt i hi).2; omega
          have HA : Hid (∀ (w5 : World) (gv5 : Value), w2.grownBy w5 gv'.ownBlock → w5.ownsRow 0 73 3 gv5 (gs' ++ [((⟨qi, qb, tt⟩ : RW), qv)]).length (flat rc (gs' ++ [((⟨qi, qb, tt⟩ : RW), qv)])) → (∀ i, gv5.ownBlock = some i → gv'.ownBlock = some i ∨ w2.heap.size ≤ i) →
              RUp w o j b (.slice (some ⟨gp, 0, none⟩) ps.length cv) R ks ps (w5.setCell ⟨b, 1, none⟩ gv5) (k + 1) ∧ Blk w5 b 40 (rcells gv' (.slice (some ⟨gp, 0, none⟩) ps.length cv) (R.upto ks k)) ∧ Same2 w1 b wr.heap.size w5) := fun w5 gv5 k1 k2 k3 => by
            obtain ⟨o6, d6, m6⟩ := d2.addGood hj hSt k1 k2 k3
            have hD : RAt (w5.setCell ⟨b, 1, none⟩ gv5) o6 j b gv5 (.slice (some ⟨gp, 0, none⟩) ps.length cv) (R.upto ks (k + 1)) (gs' ++ [((⟨qi, qb, tt⟩ : RW), qv)]) ps := by
              rw [hst, ← htt]
              exact d6
            exact ⟨⟨o6, gv5, _, hD, m2.trans m6⟩, d2.blk.past' k1 (fun e => (d2.og b e).2 rfl), HS2.out.grown k1 d2.blk.lt (Nat.lt_of_lt_of_le hs1 hb2.size) (fun e => (d2.og b e).2 rfl) (fun e => hgs _ e rfl)⟩
          obtain ⟨ag, cg, hvg, _⟩ := slice_of_own d.g
          have x1 := fun z : WIn (Same2 w1 b wr.heap.size) => (d1.blk.block z.ok.b).cell 1 _ rfl
          have s0 := fun z : WIn (Same2 w1 b wr.heap.size) => (B1.block z.ok.c).cell 0 _ rfl
          have s1 := fun z : WIn (Same2 w1 b wr.heap.size) => (B1.block z.ok.c).cell 1 _ rfl
          have s2 := fun z : WIn (Same2 w1 b wr.heap.size) => (B1.block z.ok.c).cell 2 _ rfl
          subst hvg
          rw [hmidU] at p5
          have HW0 : Hid (w0 = wr.alloc (.cells (rc ((⟨qi, qb, qt⟩ : RW), qv)).toArray 73)) := hw0
          have HTT : Hid (tt = tornAt R.midst R.pend.length k) := htt
          have HW1 : Hid (w1 = w0.setCell ⟨wr.heap.size, 2, none⟩ (.bool tt)) := hw1
          have HW2 : Hid (w2 = w1.drew.alloc (.cells (rc ((⟨qi, qb, tt⟩ : RW), qv)).toArray 73)) := hw2
          unfold rc at HW0 HW2
          dsimp only at *
          subst hqq
          simp only [Nat.add_zero] at z0
          have hbne : b ≠ wr.heap.size := by have := d.blk.lt; omega
          have hPL := HPL.out
          clear hst d d1 d2 m m1 m2 B0 B1 d0 hb0 hw0 hw1 hw2 hR hKp hSt hq hqR HI htt hb1 hb2 hvv hmidU
          generalize ks.length = LK at *
          have ne : Nonempty (WIn (Same2 w1 b wr.heap.size)) := ⟨⟨w1, Same2.refl _ _ _⟩⟩
          have HT3 : Hid ((R.midst = false ∧ tt = false) ∨ (R.midst = true ∧ (k : Int) = (ps.length : Int) - 1 ∧ tt = true) ∨ (R.midst = true ∧ ¬ (k : Int) = (ps.length : Int) - 1 ∧ tt = false)) := by
            show _ ∨ _
            rw [HTT.out, ← hPL]
            unfold tornAt
            cases R.midst
            · exact .inl ⟨rfl, rfl⟩
            · right
              by_cases hz : k + 1 = ps.length
              · exact .inl ⟨rfl, by omega, by simp [hz]⟩
              · exact .inr ⟨rfl, by omega, by simp [hz]⟩
          clear hPL HTT
          generalize qb.length = LB at *
          go_upto_region 5 with fail
          rw [← HW0.out]
          clear HW0 z0 z1 z2 c2 y0
          generalize wr.heap.size = sz at *
          rcases HT3.out with ⟨hm0, ht0⟩ | ⟨hm0, hke, ht0⟩ | ⟨hm0, hke, ht0⟩
          case' inl =>
            rw [hm0] at p5
            subst ht0
            clear HT3
            go_upto_region 6 with fail
          case' inr.inl =>
            rw [hm0] at p5
            subst ht0
            clear HT3
            go_upto_region 6 with fail
          case' inr.inr =>
            have hke2 : ((k : Int) == (ps.length : Int) - 1) = false := by simpa using hke
            rw [hm0] at p5
            subst ht0
            clear HT3 hke
            go_upto_region 6 with fail
          all_goals
            rw [← HW1.out]
            clear HW1 p2 p5 t2 ft2
            refine wp_region_treeZ (C := fun w' => ∃ z : WIn (Same2 w1 b sz), w' = z.w) 10 (.still 0 (.still 1 (.still 2 (.still 3 (.still 4 (.still 5 (.one 6 (.one 7 (.one 8 (.one 9 .done)))))))))) rfl (by kernel_rfl) (by kernel_rfl) ⟨⟨w1.drew, ⟨rfl, rfl⟩⟩, rfl⟩ ?_
            generalize w1.drew = wd at *
            iterate 6 (refine tree_still rfl rfl ?_; go_big_quiet_step (fail); refine wpQuiet_nil ?_)
            refine tree_one rfl rfl ?_
            go_simp
            rw [← HW2.out]
            refine ⟨⟨⟨_, HS2.out⟩, rfl⟩, ?_⟩
            refine tree_one rfl rfl ?_
            refine wp_of_list rfl ?_
            refine wpList_append_rows ty38 rc_len (by omega) rfl (.tmp 52) (.tmp 54) rfl _ gs' rfl HG.out _ _ rfl HRow.out HOne.out (by simp; omega) ?_
            intro gv5 w5 k1 k2 k3
            obtain ⟨av', cv', hvv', _⟩ := slice_of_own k1
            subst hvv'
            obtain ⟨hU, B5, S5⟩ := HA.out w5 _ k2 k1 k3
            have HU5 : Hid (RUp w o j b _ R ks ps _ (k + 1)) := hU
            have HS5 : Hid (Same2 w1 b sz w5) := S5
            have e1 := B5.cell 1 _ rfl
            have f1 := B5.frozen 1
            clear hU B5 S5 k1 k2 k3 HA HG HRow HOne HW2 HS2
            generalize (gs' ++ [_]).length = N5 at *
            refine ⟨rfl, ⟨⟨_, HS5.out⟩, rfl⟩, ?_⟩
            go_simp
            iterate 2 (refine tree_one rfl rfl ?_; go_simp; refine ⟨⟨⟨_, HS5.out⟩, rfl⟩, ?_⟩)
            refine tree_done ?_
            refine ⟨rfl, ?_⟩
            go_simp
            clear x1 s0 s1 s2 ne HS5
            go_wp2
            go_roundw
            case rel => exact ⟨k + 1, by go_num, by omega, HU5⟩
            case measure => simp [intOf]; omega
      · have HE : Hid (RUp w o j b (.slice av ps.length cv) R ks ps wr (k + 1)) := by
          have e : keeps ks k = false := by unfold keeps; rw [List.getD_eq_getElem?_getD, List.getElem?_eq_none (by omega)]; rfl
          exact ⟨o', gv', gs', by rw [hst, e, if_neg (by simp), List.append_nil]; exact d, m⟩
        have hkk4 : (ks.length : Int) ≤ (k : Int) := by omega
        clear hst d m HI hq hqR hKr
        generalize ks.length = LK at *
        go_wp2
        go_roundw
        case rel => exact ⟨k + 1, by go_num, by omega, HE⟩
        case measure => simp [intOf]; omega
    · obtain rfl : k = ps.length := by omega
      have d1 := d.noPend hj
      have d2 := d1.1.setArmed hj (-1)
      have d3 := d2.1.setDown hj false
      have d4 := d3.1.setMidst hj false
      have HE : Hid (∃ o', RIs ((((wr.setCell ⟨b, 2, none⟩ (.slice none 0 0)).setCell ⟨b, 3, none⟩ (.int .i64 (-1))).setCell ⟨b, 4, none⟩ (.bool false)).setCell ⟨b, 5, none⟩ (.bool false)) o' j b (R.restart ks) ∧ Mv [j] w o ((((wr.setCell ⟨b, 2, none⟩ (.slice none 0 0)).setCell ⟨b, 3, none⟩ (.int .i64 (-1))).setCell ⟨b, 4, none⟩ (.bool false)).setCell ⟨b, 5, none⟩ (.bool false)) o') := by
        refine ⟨o', ?_, (((m.trans d1.2).trans d2.2).trans d3.2).trans d4.2⟩
        rw [← rupto_end, ← HPL.out]
        exact ⟨_, _, _, _, d4.1⟩
      have e3 := d.c3
      have e4 := d.c4
      have e5 := d.c5
      have f2 := d.blk.frozen 2
      have f3 := d.blk.frozen 3
      have f4 := d.blk.frozen 4
      have f5 := d.blk.frozen 5
      clear d d1 d2 d3 d4 m HI HKS HGL HEP HPL
      go_wp2
      refine bodyPost_end (results_none rfl _ _ _) rfl ⟨rfl, HE.out⟩
end
end Go.Proofs.Ytfkkbloapnlbgaa
