/-
  The law's step 'do'.
-/
import Derived.Test.YtkoeocghoabmbaaGreatDoS
namespace Go.Proofs.YtkoeocghoabmbaaGreat
set_option linter.unusedVariables false
set_option linter.unusedSimpArgs false
set_option synthInstance.maxSize 20000
set_option maxHeartbeats 2000000
set_option maxRecDepth 20000
open Go.RowKit Go.Maps
def wI : List Nat := [1, 8, 9, 10, 11, 12, 13, 20, 21, 22, 23]
def DoPost (w0 w : World) (o : Nat → Nat) (wb : Nat) (G' : Gd) (r : Ending) (w' : World) : Prop := r = .returned (.bool true) ∧ ∃ o' sl' tl', WG w0 w' o' wb G' sl' tl' ∧ Mv wI w o w' o'
theorem wI_r {n : Nat} (h : n < 4) : 10 + n ∈ wI := by rcases four h with rfl | rfl | rfl | rfl <;> decide
theorem wI_m {n : Nat} (h : n < 4) : 20 + n ∈ wI := by rcases four h with rfl | rfl | rfl | rfl <;> decide
theorem wrapF_len {key : Int} : ∀ (l : List Mb) (S : St), (wrapF key l S).2.1.length ≤ l.length
  | [], S => Nat.le_refl _
  | m :: l, S => by
    have := wrapF_len (key := key) l (S.wrap m.p key).2
    rw [wrapF]
    split
    · split
      · simp; exact this
      · simp
    · simp
theorem bg_small {S : St} {n : Nat} (h : Ora S n) {l : List Mb} {e last : Int} (hn : n + l.length + 5 ≤ 80000) : (beginM S l e last).c.ws.length ≤ l.length ∧ (beginM S l e last).c.o.length ≤ 24 := by
  have hnl : (nowM l).length ≤ l.length := by unfold nowM; exact List.length_filter_le _ _
  have h1 := h.key (by omega)
  obtain ⟨h2, h3⟩ := wrapF_ora (key := S.fresh) (nowM l) h1 (by omega)
  have h4 := wrapF_len (key := S.fresh) (nowM l) (S.put .key)
  have h5 := h3 _ _ (put_key_at h (by omega))
  unfold Bg.c beginM
  by_cases e1 : nowM l = []
  · rw [if_pos e1]; simp
  · rw [if_neg e1]
    by_cases e2 : (wrapF S.fresh (nowM l) (S.put .key)).2.2 = 0
    · rw [if_pos e2, if_pos rfl]
      dsimp only
      refine ⟨by omega, ?_⟩
      unfold oldM
      by_cases e3 : e = -1
      · rw [if_pos e3]; simp
      · rw [if_neg e3, seal_key h5, boxOf_length]; omega
    · rw [if_neg e2, if_neg e2]; simp
structure SwR (w0 w wx : World) (o o2 : Nat → Nat) (wb cb xb0 : Nat) (G1 : Gd) (sl tl : Value) (c : Cg) (a b : Value) (qs : List Wq) (xs : List Value) : Prop where
  wg : WG w0 wx o2 wb G1 sl tl
  cv : CVar wx o2 cb 67 c a b qs
  xv : Blk wx xb0 33 xs
  xo : o2 xb0 = 0
  mv : Mv [1, 8, 9] w o wx o2
structure PuSw (G1 : Gd) (c : Cg) (nq : Nat) (DM : Gd) (x : Ope) (n m : Nat) : Prop where
  dm : DM = doA G1 c x
  ok : GOk G1 n m
  km : G1.K = G1.M
  ql : nq ≤ 1000
  ol : c.o.length ≤ 1000
  ts : c.k = 3 → G1.T = G1.S ∧ ∀ k, k < 4 → RRel (G1.P k) (G1.R k)
theorem op_zero {w : World} {x : Ope} (hw : I64 x.w) {k p : Int} (hk : I64 k) (hp : U64 p) : CgAt w ⟨k, x.w, p, 0, [], []⟩ (.slice none 0 0) (.slice none 0 0) [] := ⟨rowF_nil _, (fun q hq => by cases hq), (fun q hq => by cases hq), rfl, rd_nil _, hk, hw, hp, by unfold I64; dsimp only; omega⟩
set_option maxHeartbeats 8000000 in
theorem do10 {w0 w : World} {o : Nat → Nat} {wb n m : Nat} {G : Gd} {sl tl : Value} {x : Ope} {a b : Value} {qs : List Wq} (hW : WG w0 w o wb G sl tl) (hG : GOk G n m) (hKM : G.K = G.M) (hn : n + m + 5 ≤ 80000) (hm : m ≤ 800) (hx : OpAt w o x a b qs) (hTS : x.k = 3 ∨ x.k = 4 → G.T = G.S ∧ ∀ k, k < 4 → RRel (G.P k) (G.R k)) :
    Calls Tryz.prog 10 #[ptr wb, opv x a b] w (DoPost w0 w o wb (doM G x)) := by
  obtain ⟨sa, sc, rfl⟩ := hW.s.slice
  obtain ⟨ta, tc, rfl⟩ := hW.t.slice
  obtain ⟨⟨xa, na, pa, rfl⟩, xb, nb, pb, rfl⟩ := slices_of hx.cg
  obtain ⟨xk, xw, xp, xws, xo⟩ := x
  obtain ⟨ns, hns⟩ : ∃ ns, ns = G.M.l.length := ⟨_, rfl⟩
  obtain ⟨nt, hnt⟩ : ∃ nt, nt = G.K.l.length := ⟨_, rfl⟩
  rw [← hns, ← hnt] at hW
  clear hns hnt
  obtain ⟨d0, hd1, hd2, hd3⟩ := fresh_owner w o 30
  have HD0 : Hid (30 < d0 ∧ ∀ k, k < w.heap.size → o k ≠ d0) := ⟨hd2, hd3⟩
  unfold opv
  dsimp only
  obtain ⟨w1, hw1⟩ : ∃ w1, w1 = (w.alloc (.cells #[.int .i64 xk, .int .i64 xw, .int .u64 xp, .slice xa na pa, .slice xb nb pb] 33)).alloc (.cells #[.int .i64 1, .int .i64 xw, .int .u64 xp, .int .i64 0, .slice none 0 0, .slice none 0 0] 67) := ⟨_, rfl⟩
  have HW1 : Hid (w1 = (w.alloc (.cells #[.int .i64 xk, .int .i64 xw, .int .u64 xp, .slice xa na pa, .slice xb nb pb] 33)).alloc (.cells #[.int .i64 1, .int .i64 xw, .int .u64 xp, .int .i64 0, .slice none 0 0, .slice none 0 0] 67)) := hw1
  have hb1 : Below w.heap.size w w1 := by rw [hw1]; exact balloc2 _ _ _
  have hX1 : Blk w1 w.heap.size 33 [.int .i64 xk, .int .i64 xw, .int .u64 xp, .slice xa na pa, .slice xb nb pb] := by rw [hw1]; exact blkM_0 w _ _ _ _
  have hC1 : Blk w1 (w.heap.size + 1) 67 [.int .i64 1, .int .i64 xw, .int .u64 xp, .int .i64 0, .slice none 0 0, .slice none 0 0] := by rw [hw1]; exact blkM_1 w _ _ _ _
  obtain ⟨o1, ho1⟩ : ∃ o1, o1 = newBy o w (fun k => if k = w.heap.size + 1 then d0 else 0) := ⟨_, rfl⟩
  have hM1 : Mv [] w o w1 o1 := by rw [ho1]; exact Mv.of_turn' (ft := []) _ (Turn.of_below hb1) (fun k hk => by cases hk)
  have HOC : Hid (o1 (w.heap.size + 1) = d0 ∧ o1 w.heap.size = 0) := ⟨by rw [ho1, newBy_new (by omega)]; exact if_pos rfl, by rw [ho1, newBy_new (Nat.le_refl _)]; exact if_neg (by omega)⟩
  have HWG : Hid (WG w0 w1 o1 wb G (.slice sa ns sc) (.slice ta nt tc)) := (show WG _ _ _ _ _ _ _ from hW.mv hM1 (by simp))
  have HX : Hid (OpAt w1 o1 ⟨xk, xw, xp, xws, xo⟩ (.slice xa na pa) (.slice xb nb pb) qs) := (show OpAt _ _ _ _ _ _ from hx.mv hM1 (by simp))
  have HX1 : Hid (Blk w1 w.heap.size 33 [.int .i64 xk, .int .i64 xw, .int .u64 xp, .slice xa na pa, .slice xb nb pb]) := hX1
  have HC1 : Hid (Blk w1 (w.heap.size + 1) 67 [.int .i64 1, .int .i64 xw, .int .u64 xp, .int .i64 0, .slice none 0 0, .slice none 0 0]) := hC1
  have HM1 : Hid (Mv [] w o w1 o1) := hM1
  have HG : Hid (GOk G n m ∧ G.K = G.M ∧ n + m + 5 ≤ 80000 ∧ m ≤ 800) := ⟨hG, hKM, hn, hm⟩
  have HTS : Hid (xk = 3 ∨ xk = 4 → G.T = G.S ∧ ∀ k, k < 4 → RRel (G.P k) (G.R k)) := hTS
  have HNE : Hid (wb < w.heap.size) := (show _ < _ from hW.blk.lt)
  obtain ⟨DM, hDM⟩ : ∃ DM, DM = doM G ⟨xk, xw, xp, xws, xo⟩ := ⟨_, rfl⟩
  have HDM : Hid (DM = doM G ⟨xk, xw, xp, xws, xo⟩) := hDM
  rw [← hDM]
  have t0 := hX1.cell 0 _ rfl; have t1 := hX1.cell 1 _ rfl; have t2 := hX1.cell 2 _ rfl; have t3 := hX1.cell 3 _ rfl; have t4 := hX1.cell 4 _ rfl
  have c0 := hC1.cell 0 _ rfl; have f0 := hC1.frozen 0; have c1 := hC1.cell 1 _ rfl; have f1 := hC1.frozen 1; have c2 := hC1.cell 2 _ rfl; have f2 := hC1.frozen 2; have c3 := hC1.cell 3 _ rfl; have f3 := hC1.frozen 3; have c4 := hC1.cell 4 _ rfl; have f4 := hC1.frozen 4; have c5 := hC1.cell 5 _ rfl; have f5 := hC1.frozen 5
  clear hW hx hG hKM hn hm hTS hw1 hb1 hX1 hC1 ho1 hM1 hd1 hd2 hd3 hDM
  go_enter Tryz.func10, Tryz.ntmps10
  go_upto_region 2 with fail
  rw [← HW1.out]
  go_upto_block 0 with fail
  go_cut [5] (fun cvv wx => cvv = ptr (w.heap.size + 1) ∧ ∃ (o2 : Nat → Nat) (G1 : Gd) (c : Cg) (xa1 : Option Addr) (na1 pa1 : Nat) (xb1 : Option Addr) (nb1 pb1 : Nat) (qs1 : List Wq), Hid (SwR w0 w wx o o2 wb (w.heap.size + 1) w.heap.size G1 (.slice sa ns sc) (.slice ta nt tc) c (.slice xa1 na1 pa1) (.slice xb1 nb1 pb1) qs1 [.int .i64 xk, .int .i64 xw, .int .u64 xp, .slice xa na pa, .slice xb nb pb]) ∧ Hid (PuSw G1 c qs1.length DM ⟨xk, xw, xp, xws, xo⟩ (n + m + 3) m))
  case first => as_aux_lemma =>
    have HSim : Hid (∀ (wx : World) (o2 : Nat → Nat) (c : Cg) (a1 b1 : Value) (qs1 : List Wq), WG w0 wx o2 wb G (.slice sa ns sc) (.slice ta nt tc) → Blk wx (w.heap.size + 1) 67 (cc c a1 b1) → o2 (w.heap.size + 1) = d0 → Blk wx w.heap.size 33 [.int .i64 xk, .int .i64 xw, .int .u64 xp, .slice xa na pa, .slice xb nb pb] → o2 w.heap.size = 0 → Mv [d0] w o wx o2 → CgAt wx c a1 b1 qs1 → KpF wq wx o2 a1 qs1 → (∀ q ∈ qs1, Kp0 wx o2 q.2 q.1.b) → Kp0 wx o2 b1 c.o → SwR w0 w wx o (reown d0 o2) wb (w.heap.size + 1) w.heap.size G (.slice sa ns sc) (.slice ta nt tc) c a1 b1 qs1 [.int .i64 xk, .int .i64 xw, .int .u64 xp, .slice xa na pa, .slice xb nb pb]) := fun wx o2 c a1 b1 qs1 h1 h2 h3 h4 h5 h6 h7 h8 h9 h10 => by
      have hd := HD0.out
      exact ⟨h1.reown hd.1, ⟨h2, reown_at h3, h7, h8.reown d0, fun q hq => (h9 q hq).reown d0, h10.reown d0⟩, h4, reown_zero h5, ((h6.restrict hd.2).reown hd.2).widen (by simp)⟩
    have HPu : Hid (∀ c qs1, (xk ≠ 3 → opC G ⟨xk, xw, xp, xws, xo⟩ = c) → xk ≠ 3 → qs1.length ≤ 1000 → c.o.length ≤ 1000 → (c.k = 3 → xk = 4) → PuSw G c (qs1 : List Wq).length DM ⟨xk, xw, xp, xws, xo⟩ (n + m + 3) m) := fun c qs1 h1 h2 h3 h4 h5 => by
      have hg := HG.out
      refine ⟨?_, ⟨hg.1.ora.le (by omega), hg.1.mok, hg.1.len, hg.1.pos, hg.1.mem, hg.1.ps, hg.1.last⟩, hg.2.1, h3, h4, fun h => HTS.out (.inr (h5 h))⟩
      rw [HDM.out]
      unfold doM
      dsimp only
      rw [if_neg h2, h1 h2]
    have HI : Hid (I64 xk ∧ I64 xw ∧ U64 xp) := ⟨HX.out.hk, HX.out.hw, HX.out.hp⟩
    by_cases h0 : xk = 0
    · subst h0
      by_cases hin : 0 ≤ xw ∧ xw < 4
      · obtain ⟨i, hi⟩ : ∃ i : Nat, xw = i := ⟨xw.toNat, by omega⟩
        have hi4 : i < 4 := by omega
        have HXw : Hid (xw = (i : Int)) := hi
        have HP4 : Hid ((wcs G (.slice sa ns sc) (.slice ta nt tc))[2 + i]? = some (.int .u64 (G.ps i))) := wcs_p G _ _ hi4
        have ne5 : Nonempty (WIn (fun w' => Blk w' wb 50 (wcs G (.slice sa ns sc) (.slice ta nt tc)) ∧ Blk w' w.heap.size 33 [.int .i64 0, .int .i64 xw, .int .u64 xp, .slice xa na pa, .slice xb nb pb])) := ⟨⟨w1, HWG.out.blk, HX1.out⟩⟩
        have y0 : ∀ z : WIn (fun w' => Blk w' wb 50 (wcs G (.slice sa ns sc) (.slice ta nt tc)) ∧ Blk w' w.heap.size 33 [.int .i64 0, .int .i64 xw, .int .u64 xp, .slice xa na pa, .slice xb nb pb]), z.w.cell? ⟨wb, 2 + i, none⟩ = some (.int .u64 (G.ps i)) := fun z => z.ok.1.cell _ _ HP4.out
        have y1 : ∀ z : WIn (fun w' => Blk w' wb 50 (wcs G (.slice sa ns sc) (.slice ta nt tc)) ∧ Blk w' w.heap.size 33 [.int .i64 0, .int .i64 xw, .int .u64 xp, .slice xa na pa, .slice xb nb pb]), z.w.cell? ⟨w.heap.size, 1, none⟩ = some (.int .i64 (i : Int)) := fun z => by rw [← HXw.out]; exact z.ok.2.cell 1 _ rfl
        have HOP : Hid (opC G ⟨0, xw, xp, xws, xo⟩ = ⟨1, xw, G.ps i, 0, [], []⟩) := (show _ = _ by unfold opC; dsimp only; rw [if_pos rfl, if_pos hin, hi]; rfl)
        have HUp : Hid (U64 (G.ps i)) := HG.out.1.ps i hi4
        rw [hi] at t1
        clear hin hi
        have HT1 : Hid (w1.cell? ⟨w.heap.size, 1, none⟩ = some (.int .i64 (i : Int))) := t1
        go_upto_region 5 with fail
        refine wp_region_ord (C := fun w' => ∃ z : WIn (fun w' => Blk w' wb 50 (wcs G (.slice sa ns sc) (.slice ta nt tc)) ∧ Blk w' w.heap.size 33 [.int .i64 0, .int .i64 xw, .int .u64 xp, .slice xa na pa, .slice xb nb pb]), w' = z.w) [(false, 0), (false, 1), (false, 2), (false, 3), (false, 4), (false, 5), (false, 6), (false, 7), (true, 8)] (by kernel_rfl) (by kernel_rfl) ⟨⟨w1.drew, HWG.out.blk, HX1.out⟩, rfl⟩ ?_
        iterate 8 (refine ord_still rfl rfl ?_; go_big_quiet_step (exact rfl); refine wpQuiet_nil ?_)
        refine ord_mem rfl rfl ?_
        have k2 : w1.drew.cell? ⟨w.heap.size + 1, 2, none⟩ = some (.int .u64 xp) := c2
        have k3 := HC1.out.frozen 2
        have hne := HNE.out
        have hg := grown_setCell w1.drew (w.heap.size + 1) 2 (.int .u64 (G.ps i))
        have hX2 : Blk (w1.drew.setCell ⟨w.heap.size + 1, 2, none⟩ (.int .u64 (G.ps i))) w.heap.size 33 [.int .i64 0, .int .i64 xw, .int .u64 xp, .slice xa na pa, .slice xb nb pb] := Blk.past (w := w1.drew) HX1.out hg (by omega)
        have hC2 : Blk (w1.drew.setCell ⟨w.heap.size + 1, 2, none⟩ (.int .u64 (G.ps i))) (w.heap.size + 1) 67 (cc ⟨1, xw, G.ps i, 0, [], []⟩ (.slice none 0 0) (.slice none 0 0)) := Blk.set (w := w1.drew) HC1.out 2 _
        have m2 : Mv [d0] w1 o1 (w1.drew.setCell ⟨w.heap.size + 1, 2, none⟩ (.int .u64 (G.ps i))) (newTo o1 w1 0) := (mv_drew _ _ _).trans (Mv.of_turn 0 (turn_grown hg) (fun k hk _ => by
          simp at hk
          subst hk
          rw [HOC.out.1]; simp))
        have hW2 : WG w0 (w1.drew.setCell ⟨w.heap.size + 1, 2, none⟩ (.int .u64 (G.ps i))) (newTo o1 w1 0) wb G (.slice sa ns sc) (.slice ta nt tc) := HWG.out.mv m2 (fun i hi => by simp at hi; subst hi; have := HD0.out; unfold wOwn; simp; omega)
        have HE := HSim.out _ _ ⟨1, xw, G.ps i, 0, [], []⟩ _ _ [] hW2 hC2 (by rw [m2.ext _ HC1.out.lt]; exact HOC.out.1) hX2 (by rw [m2.ext _ HX1.out.lt]; exact HOC.out.2) ((HM1.out.widen (by simp)).trans m2) (op_zero (x := ⟨0, xw, xp, xws, xo⟩) HI.out.2.1 (by unfold I64; omega) HUp.out) ⟨rowF_nil _, fun h => absurd rfl h⟩ (fun q hq => by cases hq) (kp0_nil _ _)
        have HF := HPu.out ⟨1, xw, G.ps i, 0, [], []⟩ [] (fun _ => HOP.out) (by omega) (by simp) (by simp) (fun h => by dsimp only at h; omega)
        clear m2 hg
        go_simp
        refine ⟨⟨⟨_, hW2.blk, hX2⟩, rfl⟩, ?_⟩
        refine ord_end ?_
        go_wp2
        go_meet
        exact ⟨rfl, _, G, _, none, 0, 0, none, 0, 0, [], HE, HF⟩
      · have HOP : Hid (opC G ⟨0, xw, xp, xws, xo⟩ = ⟨1, xw, xp, 0, [], []⟩) := (show _ = _ by unfold opC; dsimp only; rw [if_pos rfl, if_neg hin])
        have HE := HSim.out _ _ ⟨1, xw, xp, 0, [], []⟩ _ _ [] HWG.out HC1.out HOC.out.1 HX1.out HOC.out.2 (HM1.out.widen (by simp)) (op_zero (x := ⟨0, xw, xp, xws, xo⟩) HI.out.2.1 (by unfold I64; omega) HI.out.2.2) ⟨rowF_nil _, fun h => absurd rfl h⟩ (fun q hq => by cases hq) (kp0_nil _ _)
        have HF := HPu.out ⟨1, xw, xp, 0, [], []⟩ [] (fun _ => HOP.out) (by omega) (by simp) (by simp) (fun h => by dsimp only at h; omega)
        by_cases hlo : 0 ≤ xw
        · have hhi : ¬ xw < 4 := fun h => hin ⟨hlo, h⟩
          clear hin
          go_wp2
          go_meet
          exact ⟨rfl, _, G, _, none, 0, 0, none, 0, 0, [], HE, HF⟩
        · clear hin
          go_wp2
          go_meet
          exact ⟨rfl, _, G, _, none, 0, 0, none, 0, 0, [], HE, HF⟩
    · have hb0 : (xk == 0) = false := by simpa using h0
      by_cases h2 : xk = 2
      · subst h2
        have HOP : Hid (opC G ⟨2, xw, xp, xws, xo⟩ = ⟨2, xw, 0, 0, [], []⟩) := (show _ = _ by unfold opC; dsimp only; rw [if_neg (by omega), if_pos rfl])
        obtain ⟨e1, e2⟩ := cvar_put (c := ⟨2, xw, 0, 0, [], []⟩) (a := .slice none 0 0) (b := .slice none 0 0) (qs := []) (d := d0) (by have := HD0.out; omega) HC1.out HOC.out.1 (op_zero (x := ⟨2, xw, xp, xws, xo⟩) HI.out.2.1 (by unfold I64; omega) (by unfold U64; omega)) ⟨rowF_nil _, fun h => absurd rfl h⟩ (fun q hq => by cases hq) (kp0_nil _ _)
        have hne := HNE.out
        have hX2 := HX1.out.past (put6_grown w1 (w.heap.size + 1) (.int .i64 2) (.int .i64 xw) (.int .u64 0) (.int .i64 0) (.slice none 0 0) (.slice none 0 0)) (by omega)
        have hW2 := HWG.out.mv e2 (fun i hi => by simp at hi; subst hi; have := HD0.out; unfold wOwn; simp; omega)
        have HE := HSim.out _ _ ⟨2, xw, 0, 0, [], []⟩ _ _ [] hW2 e1.var (by rw [e2.ext _ HC1.out.lt]; exact HOC.out.1) hX2 (by rw [e2.ext _ HX1.out.lt]; exact HOC.out.2) ((HM1.out.widen (by simp)).trans e2) e1.cg ⟨rowF_nil _, fun h => absurd rfl h⟩ (fun q hq => by cases hq) (kp0_nil _ _)
        have HF := HPu.out ⟨2, xw, 0, 0, [], []⟩ [] (fun _ => HOP.out) (by omega) (by simp) (by simp) (fun h => by dsimp only at h; omega)
        clear e1 e2 hX2 hW2 h0
        go_wp2
        go_meet
        exact ⟨rfl, _, G, _, none, 0, 0, none, 0, 0, [], HE, HF⟩
      · have hb2 : (xk == 2) = false := by simpa using h2
        by_cases h3 : xk = 3
        · subst h3
          obtain ⟨hTSe, hRR⟩ := HTS.out (.inl rfl)
          have HRR : Hid (G.T = G.S ∧ ∀ k, k < 4 → RRel (G.P k) (G.R k)) := ⟨hTSe, hRR⟩
          clear hTSe hRR HPu HSim
          obtain ⟨B, hB⟩ : ∃ B, B = opB G := ⟨_, rfl⟩
          have HB : Hid (B = opB G) := hB
          have HBg : Hid (∀ w' o', Mv [] w1 o1 w' o' → Calls Tryz.prog 15 #[ptr G.ob, .agg #[.slice sa ns sc, .int .i64 G.M.e], .int .u64 G.last] w' (BgPost w' o' G.ob B)) := fun w' o' m' => by
            have hg := HG.out
            have hw := HWG.out.mv m' (by simp)
            rw [HB.out]
            exact begin15 hw.orc hg.1.ora hw.s (by have := hg.1.len; omega) (by have := hg.1.len; omega) hg.1.mem hg.1.mok.e hg.1.last
          obtain ⟨d, hd1, hd2, hd3⟩ := fresh_owner w1 o1 30
          have HFr : Hid (30 < d ∧ ∀ k, k < w1.heap.size → o1 k ≠ d) := ⟨hd2, hd3⟩
          clear hd1 hd2 hd3 hB h0 h2
          go_upto_region 9 with fail
          have ne9 : Nonempty (WIn (fun w' => Blk w' wb 50 (wcs G (.slice sa ns sc) (.slice ta nt tc)))) := ⟨⟨w1, HWG.out.blk⟩⟩
          have z0 : ∀ z : WIn (fun w' => Blk w' wb 50 (wcs G (.slice sa ns sc) (.slice ta nt tc))), _ := fun z => z.ok.cell 0 _ rfl
          have z14 : ∀ z : WIn (fun w' => Blk w' wb 50 (wcs G (.slice sa ns sc) (.slice ta nt tc))), _ := fun z => z.ok.cell 14 _ rfl
          have z15 : ∀ z : WIn (fun w' => Blk w' wb 50 (wcs G (.slice sa ns sc) (.slice ta nt tc))), _ := fun z => z.ok.cell 15 _ rfl
          have z22 : ∀ z : WIn (fun w' => Blk w' wb 50 (wcs G (.slice sa ns sc) (.slice ta nt tc))), _ := fun z => z.ok.cell 22 _ rfl
          go_cut [6, 7, 8] (fun av pv iv wx => ∃ (ab : Nat) (xa5 : Option Addr) (na5 pa5 : Nat) (xb5 : Option Addr) (nb5 pb5 : Nat) (qs5 : List Wq) (o5 : Nat → Nat), av = ptr ab ∧ pv = .int .u64 B.key ∧ iv = .int .i64 B.k ∧ Hid (WG w0 wx o5 wb { G with S := B.S } (.slice sa ns sc) (.slice ta nt tc)) ∧ Hid (CVar wx o5 ab 59 B.c (.slice xa5 na5 pa5) (.slice xb5 nb5 pb5) qs5) ∧ Hid (Mv [1] w1 o1 wx o5))
          case first => as_aux_lemma =>
            refine wp_region_tree (C := fun w' => ∃ z : WIn (fun w' => Blk w' wb 50 (wcs G (.slice sa ns sc) (.slice ta nt tc))), w' = z.w) (.still 0 (.still 1 (.still 2 (.still 3 (.still 4 (.still 5 (.still 6 (.still 7 (.still 8 (.still 9 (.still 10 (.still 11 (.two 12 (.still 13 (.still 14 (.still 15 (.still 16 (.one 17 (.one 18 (.still 19 (.still 20 .done)))))))) 17 (.one 12 (.still 13 (.still 14 (.still 15 (.still 16 (.one 18 (.still 19 (.still 20 .done))))))))))))))))))))) (by kernel_rfl) (by kernel_rfl) ⟨⟨w1.drew, HWG.out.blk⟩, rfl⟩ ?_
            iterate 12 (refine tree_still rfl rfl ?_; go_big_quiet_step (exact rfl); refine wpQuiet_nil ?_)
            refine tree_two rfl rfl rfl rfl ?_ ?_
            · go_simp
              refine (HBg.out w1.drew o1 (mv_drew _ _ _)).mono ?_
              rintro r w5 ⟨a5, b5, rfl, o5, qs5, hO5, hC5, hK5, hq5, hb5, hM5⟩
              obtain ⟨⟨xa5, na5, pa5, ea5⟩, xb5, nb5, pb5, eb5⟩ := slices_of hC5
              subst ea5 eb5
              have hW5 := (HWG.out.orcS hM5.drew hO5).blk
              refine ⟨⟨⟨w5, hW5⟩, rfl⟩, ?_⟩
              unfold cv
              go_simp
              iterate 4 (refine tree_still rfl rfl ?_; go_big_quiet_step (exact rfl); refine wpQuiet_nil ?_)
              refine tree_one rfl rfl ?_
              go_simp
              refine ⟨⟨⟨_, hW5.alloc _⟩, rfl⟩, ?_⟩
              go_simp
              refine tree_one rfl rfl ?_
              have He := bgA_new HWG.out hO5 hC5 hK5 hq5 hb5 hM5
              go_simp
              refine ⟨⟨⟨_, He.1.blk⟩, rfl⟩, ?_⟩
              go_simp
              iterate 2 (refine tree_still rfl rfl ?_; go_big_quiet_step (exact rfl); refine wpQuiet_nil ?_)
              refine tree_done ?_
              go_wp2
              go_meet
              exact ⟨w5.heap.size, xa5, na5, pa5, xb5, nb5, pb5, qs5, _, rfl, rfl, rfl, He.1, He.2.1, He.2.2⟩
            · go_simp
              obtain ⟨w7, hw7⟩ : ∃ w7, w7 = (w1.alloc (.cells #[.int .i64 0, .int .i64 0, .int .u64 0, .int .i64 0, .slice none 0 0, .slice none 0 0] 59)).drew := ⟨_, rfl⟩
              have HW7 : Hid (w7 = (w1.alloc (.cells zC6 59)).drew) := hw7
              rw [← hw7]
              obtain ⟨o7, ho7⟩ : ∃ o7, o7 = newTo o1 w1 d := ⟨_, rfl⟩
              have HM7 : Hid (Mv [] w1 o1 w7 o7) := (by rw [hw7, ho7]; exact (Mv.of_below (I := []) d (balloc (Below.refl _ _) _)).trans (mv_drew _ _ _))
              have HO7 : Hid (o7 = newTo o1 w1 d) := ho7
              clear hw7 ho7
              refine ⟨⟨⟨w7, (HWG.out.mv HM7.out (by simp)).blk⟩, rfl⟩, ?_⟩
              go_simp
              refine tree_one rfl rfl ?_
              go_simp
              refine (HBg.out w7 o7 HM7.out).mono ?_
              rintro r w5 ⟨a5, b5, rfl, o5, qs5, hO5, hC5, hK5, hq5, hb5, hM5⟩
              obtain ⟨⟨xa5, na5, pa5, ea5⟩, xb5, nb5, pb5, eb5⟩ := slices_of hC5
              subst ea5 eb5
              have hW5 := ((HWG.out.mv HM7.out (by simp)).orcS hM5 hO5).blk
              rw [HW7.out] at hM5
              refine ⟨⟨⟨w5, hW5⟩, rfl⟩, ?_⟩
              unfold cv
              go_simp
              iterate 4 (refine tree_still rfl rfl ?_; go_big_quiet_step (exact rfl); refine wpQuiet_nil ?_)
              refine tree_one rfl rfl ?_
              rw [HO7.out] at hM5
              have He := bgA_put HWG.out HFr.out.1 HFr.out.2 hO5 hC5 hK5 hq5 hb5 hM5
              have Y5 := bgA_zero HFr.out.1 hM5
              have j0 := Y5.cell 0 _ rfl; have i0 := Y5.frozen 0; have j1 := Y5.cell 1 _ rfl; have i1 := Y5.frozen 1; have j2 := Y5.cell 2 _ rfl; have i2 := Y5.frozen 2; have j3 := Y5.cell 3 _ rfl; have i3 := Y5.frozen 3; have j4 := Y5.cell 4 _ rfl; have i4 := Y5.frozen 4; have j5 := Y5.cell 5 _ rfl; have i5 := Y5.frozen 5
              clear Y5
              go_simp
              refine ⟨⟨⟨_, He.1.blk⟩, rfl⟩, ?_⟩
              go_simp
              iterate 2 (refine tree_still rfl rfl ?_; go_big_quiet_step (exact rfl); refine wpQuiet_nil ?_)
              refine tree_done ?_
              go_wp2
              go_meet
              exact ⟨w1.heap.size, xa5, na5, pa5, xb5, nb5, pb5, qs5, _, rfl, rfl, rfl, He.1, He.2.1, He.2.2⟩
          case rest => as_aux_lemma =>
            obtain ⟨ab, xa5, na5, pa5, xb5, nb5, pb5, qs5, oA, rfl, rfl, rfl, HW5, HV5, HM5⟩ := hcut
            obtain ⟨W2, hW2⟩ : ∃ W2, W2 = wc := ⟨_, rfl⟩
            subst hW2
            clear ne9 z0 z14 z15 z22 t0 t1 t2 t3 t4 c0 c1 c2 c3 c4 c5 f0 f1 f2 f3 f4 f5
            have HRB : Hid (∀ w' o', Mv [] W2 oA w' o' → Calls Tryz.prog 29 #[ptr G.rr, .agg #[.slice ta nt tc, .int .i64 G.K.e], .int .u64 G.last] w' (RBgPost w0 w' o' G.rr B)) := fun w' o' m' => by
              have hg := HG.out
              have hw := HW5.out.mv m' (by simp)
              have hT : Ora G.T n := by rw [HRR.out.1]; exact hg.1.ora
              have hb := rbegin29 (e := G.K.e) (last := G.last) hw.rorc hT hw.t (by have := hg.1.len; rw [hg.2.1]; omega) (by have := hg.1.len; rw [hg.2.1]; omega) (by rw [hg.2.1]; exact hg.1.mem) (by rw [hg.2.1]; exact hg.1.mok.e) hg.1.last
              have e1 : beginM G.T G.K.l G.K.e G.last = B := by rw [HB.out, HRR.out.1, hg.2.1]; rfl
              have hb2 : Calls Tryz.prog 29 #[ptr G.rr, stv (.slice ta nt tc) G.K.e, .int .u64 G.last] w' (RBgPost w0 w' o' G.rr (beginM G.T G.K.l G.K.e G.last)) := hb
              rw [e1] at hb2
              exact hb2
            obtain ⟨d, hd1, hd2, hd3⟩ := fresh_owner W2 oA 30
            have HFr2 : Hid (30 < d ∧ ∀ k, k < W2.heap.size → oA k ≠ d) := ⟨hd2, hd3⟩
            clear hd1 hd2 hd3
            go_upto_region 10 with fail
            have ne9 : Nonempty (WIn (fun w' => Blk w' wb 50 (wcs { G with S := B.S } (.slice sa ns sc) (.slice ta nt tc)))) := ⟨⟨W2, HW5.out.blk⟩⟩
            have z1 : ∀ z : WIn (fun w' => Blk w' wb 50 (wcs { G with S := B.S } (.slice sa ns sc) (.slice ta nt tc))), _ := fun z => z.ok.cell 1 _ rfl
            have z16 : ∀ z : WIn (fun w' => Blk w' wb 50 (wcs { G with S := B.S } (.slice sa ns sc) (.slice ta nt tc))), _ := fun z => z.ok.cell 16 _ rfl
            have z17 : ∀ z : WIn (fun w' => Blk w' wb 50 (wcs { G with S := B.S } (.slice sa ns sc) (.slice ta nt tc))), _ := fun z => z.ok.cell 17 _ rfl
            have z22 : ∀ z : WIn (fun w' => Blk w' wb 50 (wcs { G with S := B.S } (.slice sa ns sc) (.slice ta nt tc))), _ := fun z => z.ok.cell 22 _ rfl
            go_cut [9, 10, 11] (fun av pv iv wx => ∃ (ab : Nat) (xa5 : Option Addr) (na5 pa5 : Nat) (xb5 : Option Addr) (nb5 pb5 : Nat) (qs5 : List Wq) (o5 : Nat → Nat), av = ptr ab ∧ pv = .int .u64 B.key ∧ iv = .int .i64 B.k ∧ Hid (WG w0 wx o5 wb { { G with S := B.S } with T := B.S } (.slice sa ns sc) (.slice ta nt tc)) ∧ Hid (CVar wx o5 ab 67 B.c (.slice xa5 na5 pa5) (.slice xb5 nb5 pb5) qs5) ∧ Hid (Mv [8] W2 oA wx o5))
            case first => as_aux_lemma =>
              refine wp_region_tree (C := fun w' => ∃ z : WIn (fun w' => Blk w' wb 50 (wcs { G with S := B.S } (.slice sa ns sc) (.slice ta nt tc))), w' = z.w) (.still 0 (.still 1 (.still 2 (.still 3 (.still 4 (.still 5 (.still 6 (.still 7 (.still 8 (.still 9 (.still 10 (.still 11 (.two 12 (.still 13 (.still 14 (.still 15 (.still 16 (.one 17 (.one 18 (.still 19 (.still 20 .done)))))))) 17 (.one 12 (.still 13 (.still 14 (.still 15 (.still 16 (.one 18 (.still 19 (.still 20 .done))))))))))))))))))))) (by kernel_rfl) (by kernel_rfl) ⟨⟨W2.drew, HW5.out.blk⟩, rfl⟩ ?_
              iterate 12 (refine tree_still rfl rfl ?_; go_big_quiet_step (exact rfl); refine wpQuiet_nil ?_)
              refine tree_two rfl rfl rfl rfl ?_ ?_
              · go_simp
                refine (HRB.out W2.drew oA (mv_drew _ _ _)).mono ?_
                rintro r w5 ⟨a5, b5, rfl, o5, qs5, hO5, hC5, hK5, hq5, hb5, hM5⟩
                obtain ⟨⟨xa5, na5, pa5, ea5⟩, xb5, nb5, pb5, eb5⟩ := slices_of hC5
                subst ea5 eb5
                have hW5 := (HW5.out.rorcS hM5.drew hO5).blk
                refine ⟨⟨⟨w5, hW5⟩, rfl⟩, ?_⟩
                unfold cv
                go_simp
                iterate 4 (refine tree_still rfl rfl ?_; go_big_quiet_step (exact rfl); refine wpQuiet_nil ?_)
                refine tree_one rfl rfl ?_
                go_simp
                refine ⟨⟨⟨_, hW5.alloc _⟩, rfl⟩, ?_⟩
                go_simp
                refine tree_one rfl rfl ?_
                have He := rbgA_new HW5.out hO5 hC5 hK5 hq5 hb5 hM5
                go_simp
                refine ⟨⟨⟨_, He.1.blk⟩, rfl⟩, ?_⟩
                go_simp
                iterate 2 (refine tree_still rfl rfl ?_; go_big_quiet_step (exact rfl); refine wpQuiet_nil ?_)
                refine tree_done ?_
                go_wp2
                go_meet
                exact ⟨w5.heap.size, xa5, na5, pa5, xb5, nb5, pb5, qs5, _, rfl, rfl, rfl, He.1, He.2.1, He.2.2⟩
              · go_simp
                obtain ⟨w7, hw7⟩ : ∃ w7, w7 = (W2.alloc (.cells #[.int .i64 0, .int .i64 0, .int .u64 0, .int .i64 0, .slice none 0 0, .slice none 0 0] 67)).drew := ⟨_, rfl⟩
                have HW7 : Hid (w7 = (W2.alloc (.cells zC6 67)).drew) := hw7
                rw [← hw7]
                obtain ⟨o7, ho7⟩ : ∃ o7, o7 = newTo oA W2 d := ⟨_, rfl⟩
                have HM7 : Hid (Mv [] W2 oA w7 o7) := (by rw [hw7, ho7]; exact (Mv.of_below (I := []) d (balloc (Below.refl _ _) _)).trans (mv_drew _ _ _))
                have HO7 : Hid (o7 = newTo oA W2 d) := ho7
                clear hw7 ho7
                refine ⟨⟨⟨w7, (HW5.out.mv HM7.out (by simp)).blk⟩, rfl⟩, ?_⟩
                go_simp
                refine tree_one rfl rfl ?_
                go_simp
                refine (HRB.out w7 o7 HM7.out).mono ?_
                rintro r w5 ⟨a5, b5, rfl, o5, qs5, hO5, hC5, hK5, hq5, hb5, hM5⟩
                obtain ⟨⟨xa5, na5, pa5, ea5⟩, xb5, nb5, pb5, eb5⟩ := slices_of hC5
                subst ea5 eb5
                have hW5 := ((HW5.out.mv HM7.out (by simp)).rorcS hM5 hO5).blk
                rw [HW7.out] at hM5
                refine ⟨⟨⟨w5, hW5⟩, rfl⟩, ?_⟩
                unfold cv
                go_simp
                iterate 4 (refine tree_still rfl rfl ?_; go_big_quiet_step (exact rfl); refine wpQuiet_nil ?_)
                refine tree_one rfl rfl ?_
                rw [HO7.out] at hM5
                have He := rbgA_put HW5.out HFr2.out.1 HFr2.out.2 hO5 hC5 hK5 hq5 hb5 hM5
                have Y5 := rbgA_zero HFr2.out.1 hM5
                have j0 := Y5.cell 0 _ rfl; have i0 := Y5.frozen 0; have j1 := Y5.cell 1 _ rfl; have i1 := Y5.frozen 1; have j2 := Y5.cell 2 _ rfl; have i2 := Y5.frozen 2; have j3 := Y5.cell 3 _ rfl; have i3 := Y5.frozen 3; have j4 := Y5.cell 4 _ rfl; have i4 := Y5.frozen 4; have j5 := Y5.cell 5 _ rfl; have i5 := Y5.frozen 5
                clear Y5
                go_simp
                refine ⟨⟨⟨_, He.1.blk⟩, rfl⟩, ?_⟩
                go_simp
                iterate 2 (refine tree_still rfl rfl ?_; go_big_quiet_step (exact rfl); refine wpQuiet_nil ?_)
                refine tree_done ?_
                go_wp2
                go_meet
                exact ⟨W2.heap.size, xa5, na5, pa5, xb5, nb5, pb5, qs5, _, rfl, rfl, rfl, He.1, He.2.1, He.2.2⟩
            case rest => as_aux_lemma =>
              obtain ⟨bb, ya5, ma5, qa5, yb5, mb5, qb5, qs6, o6, rfl, rfl, rfl, HW6, HV6, HM6⟩ := hcut
              obtain ⟨W3, hW3⟩ : ∃ W3, W3 = wc := ⟨_, rfl⟩
              subst hW3
              have hV5 := HV5.out.mv HM6.out (by decide)
              have HBk : Hid (Calls Tryz.prog 18 #[.agg #[.int .i64 B.c.k, .int .i64 B.c.w, .int .u64 B.c.p, .int .i64 B.c.l, .slice xa5 na5 pa5, .slice xb5 nb5 pb5]] W3.drew fun r w' => ∃ x n y, r = .returned (.agg #[.int .i64 B.c.k, .int .i64 B.c.w, .int .u64 B.c.p, .int .i64 B.c.l, .slice x n y, .slice xb5 nb5 pb5]) ∧ CgAt w' B.c (.slice x n y) (.slice xb5 nb5 pb5) qs5 ∧ Below W3.heap.size W3 w') := by
                have hg := HG.out
                have hbs := bg_small (l := G.M.l) (e := G.M.e) (last := G.last) hg.1.ora (by have := hg.1.len; omega)
                have hq := hV5.cg.len
                have hle : qs5.length ≤ 1000 := by rw [hq, HB.out]; unfold opB; have := hg.1.len; omega
                refine (back30 (hV5.cg.below ((Below.refl _ _).drew)) hle).mono ?_
                rintro r w' ⟨a', rfl, h1, h2⟩
                obtain ⟨⟨x, n, y, e1⟩, _⟩ := slices_of h1
                subst e1
                exact ⟨x, n, y, rfl, h1, bnext ((Below.refl _ _).drew) h2⟩
              have HCh : Hid (∀ w' x n y, Below W3.heap.size W3 w' → CgAt w' B.c (.slice x n y) (.slice xb5 nb5 pb5) qs5 → Calls Tryz.prog 30 #[.agg #[.int .i64 B.c.k, .int .i64 B.c.w, .int .u64 B.c.p, .int .i64 B.c.l, .slice x n y, .slice xb5 nb5 pb5], .agg #[.int .i64 B.c.k, .int .i64 B.c.w, .int .u64 B.c.p, .int .i64 B.c.l, .slice ya5 ma5 qa5, .slice yb5 mb5 qb5]] w' fun r w'' => r = .returned (.bool true) ∧ Below w'.heap.size w' w'') := fun w' x n y hb hc => changes29 hc (HV6.out.cg.below hb)
              have e0 := hV5.var.cell 0 _ rfl; have e1 := hV5.var.cell 1 _ rfl; have e2 := hV5.var.cell 2 _ rfl; have e3 := hV5.var.cell 3 _ rfl; have e4 := hV5.var.cell 4 _ rfl; have e5 := hV5.var.cell 5 _ rfl
              have hV6 := HV6.out.var
              have g0 := hV6.cell 0 _ rfl; have g1 := hV6.cell 1 _ rfl; have g2 := hV6.cell 2 _ rfl; have g3 := hV6.cell 3 _ rfl; have g4 := hV6.cell 4 _ rfl; have g5 := hV6.cell 5 _ rfl
              have hcl : ∀ (z : WIn (fun w' => Below W3.heap.size W3 w')) p v, W3.cell? p = some v → z.w.cell? p = some v := fun z p v hp => (z.ok.cell (World.block_lt_of_cell? W3 _ hp)).trans hp
              have p0 := fun z => hcl z _ _ e0; have p1 := fun z => hcl z _ _ e1; have p2 := fun z => hcl z _ _ e2; have p3 := fun z => hcl z _ _ e3; have p4 := fun z => hcl z _ _ e4; have p5 := fun z => hcl z _ _ e5
              have q0 := fun z => hcl z _ _ g0; have q1 := fun z => hcl z _ _ g1; have q2 := fun z => hcl z _ _ g2; have q3 := fun z => hcl z _ _ g3; have q4 := fun z => hcl z _ _ g4; have q5 := fun z => hcl z _ _ g5
              have HDd : Hid (Below W3.heap.size W3 W3.drew) := (show Below _ _ _ from (Below.refl _ _).drew)
              have ne11 : Nonempty (WIn (fun w' => Below W3.heap.size W3 w')) := ⟨⟨W3, Below.refl _ _⟩⟩
              have hkk1 : (B.key != B.key) = false := by simp
              have hkk2 : (B.k != B.k) = false := by simp
              clear hcl hV5 hV6 e0 e1 e2 e3 e4 e5 g0 g1 g2 g3 g4 g5 ne9 z1 z16 z17 z22
              go_upto_region 11 with fail
              refine wp_region_ord (C := fun w' => ∃ z : WIn (fun w' => Below W3.heap.size W3 w'), w' = z.w) [(false, 0), (false, 1), (false, 2), (false, 3), (false, 4), (false, 5), (false, 6), (false, 7), (false, 8), (false, 9), (false, 11), (true, 10), (true, 12), (false, 13), (false, 14)] (by kernel_rfl) (by kernel_rfl) ⟨⟨W3.drew, HDd.out⟩, rfl⟩ ?_
              iterate 11 (refine ord_still rfl rfl ?_; go_big_quiet_step (exact rfl); refine wpQuiet_nil ?_)
              refine ord_mem rfl rfl ?_
              go_simp
              refine HBk.out.mono ?_
              rintro r w6 ⟨x6, n6, y6, rfl, hc6, hb6⟩
              refine ⟨⟨⟨w6, hb6⟩, rfl⟩, ?_⟩
              refine ord_mem rfl rfl ?_
              go_simp
              refine (HCh.out w6 x6 n6 y6 hb6 hc6).mono ?_
              rintro r w7 ⟨rfl, hb7⟩
              have HB7 : Hid (Below W3.heap.size W3 w7) := (show Below _ _ _ from bnext hb6 hb7)
              refine ⟨⟨⟨w7, HB7.out⟩, rfl⟩, ?_⟩
              iterate 2 (refine ord_still rfl rfl ?_; go_big_quiet_step (exact rfl); refine wpQuiet_nil ?_)
              refine ord_end ?_
              have HM7 : Hid (Mv [1, 8] w1 o1 w7 (newTo o6 W3 0)) := (show Mv _ _ _ _ _ from (HM5.out.widen (by simp)).trans ((HM6.out.widen (by simp)).trans (Mv.of_below 0 HB7.out)))
              have HW7 : Hid (WG w0 w7 (newTo o6 W3 0) wb { { G with S := B.S } with T := B.S } (.slice sa ns sc) (.slice ta nt tc)) := (show WG _ _ _ _ _ _ _ from HW6.out.below HB7.out 0)
              have HV7 : Hid (CVar w7 (newTo o6 W3 0) bb 67 B.c (.slice ya5 ma5 qa5) (.slice yb5 mb5 qb5) qs6) := (show CVar _ _ _ _ _ _ _ _ from HV6.out.mv (Mv.of_below (I := []) 0 HB7.out) (by simp))
              generalize newTo o6 W3 0 = o7 at *
              clear hb6 hb7 hc6 HBk HCh p0 p1 p2 p3 p4 p5 q0 q1 q2 q3 q4 q5
              by_cases hk : B.k = 0
              · have hd := HD0.out
                have hne := HNE.out
                have hk2 : (B.k != 0) = false := by simpa using hk
                have hC7 : Blk w7 (w.heap.size + 1) 67 [.int .i64 1, .int .i64 xw, .int .u64 xp, .int .i64 0, .slice none 0 0, .slice none 0 0] := HC1.out.block (HM7.out.block _ HC1.out.lt (by rw [HOC.out.1]; simp; omega))
                have hX7 : Blk w7 w.heap.size 33 [.int .i64 3, .int .i64 xw, .int .u64 xp, .slice xa na pa, .slice xb nb pb] := HX1.out.block (HM7.out.block _ HX1.out.lt (by rw [HOC.out.2]; simp))
                have ho7 : o7 (w.heap.size + 1) = d0 := by rw [HM7.out.ext _ HC1.out.lt]; exact HOC.out.1
                obtain ⟨e1, e2⟩ := cvar_put (d := d0) (by omega) hC7 ho7 HV7.out.cg HV7.out.ka HV7.out.kq HV7.out.kb
                have hW8 := HW7.out.mv e2 (fun i hi => by simp at hi; subst hi; unfold wOwn; simp; omega)
                have hX8 := hX7.past (put6_grown w7 (w.heap.size + 1) (.int .i64 B.c.k) (.int .i64 B.c.w) (.int .u64 B.c.p) (.int .i64 B.c.l) (.slice ya5 ma5 qa5) (.slice yb5 mb5 qb5)) (by omega)
                have hW9 := (hW8.reown hd.1).setLast B.key
                have hM8 : Mv [1, 8, 9] w o (put6 w7 (w.heap.size + 1) (.int .i64 B.c.k) (.int .i64 B.c.w) (.int .u64 B.c.p) (.int .i64 B.c.l) (.slice ya5 ma5 qa5) (.slice yb5 mb5 qb5)) (reown d0 (newTo o7 w7 0)) := by
                  have mm : Mv [d0, 1, 8, 9] w o (put6 w7 (w.heap.size + 1) (.int .i64 B.c.k) (.int .i64 B.c.w) (.int .u64 B.c.p) (.int .i64 B.c.l) (.slice ya5 ma5 qa5) (.slice yb5 mb5 qb5)) (newTo o7 w7 0) := (HM1.out.widen (by simp)).trans ((HM7.out.widen (by simp)).trans (e2.widen (by simp)))
                  exact (mm.restrict hd.2).reown hd.2
                have e3 := e1.mv hW9.2 (by decide)
                have hX9 := hX8.block (hW9.2.block _ hX8.lt (by rw [reown_zero (by rw [newTo_old hX7.lt, HM7.out.ext _ HX1.out.lt]; exact HOC.out.2)]; decide))
                have hxo : newTo (reown d0 (newTo o7 w7 0)) (put6 w7 (w.heap.size + 1) (.int .i64 B.c.k) (.int .i64 B.c.w) (.int .u64 B.c.p) (.int .i64 B.c.l) (.slice ya5 ma5 qa5) (.slice yb5 mb5 qb5)) 9 w.heap.size = 0 := by
                  rw [newTo_old hX8.lt]
                  exact reown_zero (by rw [newTo_old hX7.lt, HM7.out.ext _ HX1.out.lt]; exact HOC.out.2)
                have HE : SwR w0 w _ o _ wb (w.heap.size + 1) w.heap.size _ _ _ B.c _ _ qs6 _ := ⟨hW9.1, e3, hX9, hxo, hM8.trans (hW9.2.widen (by simp))⟩
                have hGE : ({ { { G with S := B.S } with T := B.S } with last := B.key } : Gd) = { begG G with last := (opB G).key } := by rw [HB.out]; rfl
                have HF : PuSw { { { G with S := B.S } with T := B.S } with last := B.key } B.c qs6.length DM ⟨3, xw, xp, xws, xo⟩ (n + m + 3) m := by
                  have hg := HG.out
                  have hbs := bg_small (l := G.M.l) (e := G.M.e) (last := G.last) hg.1.ora (by have := hg.1.len; omega)
                  refine ⟨?_, ?_, hg.2.1, ?_, ?_, fun _ => ⟨rfl, HRR.out.2⟩⟩
                  · rw [hGE, HDM.out]
                    unfold doM
                    dsimp only
                    rw [if_pos rfl, HB.out, if_pos (by rw [← HB.out]; exact hk)]
                  · refine ⟨?_, hg.1.mok, hg.1.len, hg.1.pos, hg.1.mem, hg.1.ps, ?_⟩
                    · dsimp only
                      rw [HB.out]
                      exact (begin_ora hg.1.ora _ _ _ (by have := hg.1.len; omega)).le (by have := hg.1.len; omega)
                    · dsimp only
                      rw [HB.out]
                      exact begin_key hg.1.ora _ _ _ (by omega)
                  · rw [HV7.out.cg.len, HB.out]; unfold opB; have := hg.1.len; omega
                  · rw [HB.out]; unfold opB; omega
                have c0 := hC7.cell 0 _ rfl; have c1 := hC7.cell 1 _ rfl; have c2 := hC7.cell 2 _ rfl; have c3 := hC7.cell 3 _ rfl; have c4 := hC7.cell 4 _ rfl; have c5 := hC7.cell 5 _ rfl; have f0 := hC7.frozen 0; have f1 := hC7.frozen 1; have f2 := hC7.frozen 2; have f3 := hC7.frozen 3; have f4 := hC7.frozen 4; have f5 := hC7.frozen 5
                have hv7 := HV7.out.var
                have g0 := hv7.cell 0 _ rfl; have g1 := hv7.cell 1 _ rfl; have g2 := hv7.cell 2 _ rfl; have g3 := hv7.cell 3 _ rfl; have g4 := hv7.cell 4 _ rfl; have g5 := hv7.cell 5 _ rfl
                have l22 := hW8.blk.cell 22 _ rfl
                have l23 := hW8.blk.frozen 22
                have l22' : (put6 w7 (w.heap.size + 1) (.int .i64 B.c.k) (.int .i64 B.c.w) (.int .u64 B.c.p) (.int .i64 B.c.l) (.slice ya5 ma5 qa5) (.slice yb5 mb5 qb5)).cell? ⟨wb, 22, none⟩ = some (.int .u64 G.last) := l22
                unfold put6 at l22' l23
                have w22 := HW7.out.blk.cell 22 _ rfl
                have w23 := HW7.out.blk.frozen 22
                clear e1 e2 hW8 hX8 hW9 hM8 e3 hX9 hxo hC7 hX7 ho7 hv7 hk l22 hGE
                go_wp2
                go_meet
                exact ⟨rfl, _, _, _, ya5, ma5, qa5, yb5, mb5, qb5, qs6, HE, HF⟩
              · have hk2 : (B.k != 0) = true := by simpa using hk
                have HDE : Hid (DM = { { G with S := B.S } with T := B.S }) := (show _ = _ by rw [HDM.out]; unfold doM; dsimp only; rw [if_pos rfl, if_neg (by rw [← HB.out]; exact hk), HB.out]; rfl)
                clear hk
                go_wp2
                go_ret
                refine ⟨rfl, o7, (.slice sa ns sc), (.slice ta nt tc), by rw [HDE.out]; exact HW7.out, ?_⟩
                exact (HM1.out.widen (by simp)).trans (HM7.out.widen (by unfold wI; simp))
        · have hb3 : (xk == 3) = false := by simpa using h3
          by_cases h4 : xk = 4
          · subst h4
            have HOP : Hid (opC G ⟨4, xw, xp, xws, xo⟩ = ⟨3, 0, 0, 0, xws, xo⟩) := (show _ = _ by unfold opC; dsimp only; rw [if_neg (by omega), if_neg (by omega), if_pos rfl])
            obtain ⟨e1, e2⟩ := cvar_put (c := ⟨3, 0, 0, 0, xws, xo⟩) (a := .slice xa na pa) (b := .slice xb nb pb) (qs := qs) (d := d0) (by have := HD0.out; omega) HC1.out HOC.out.1 HX.out.cg HX.out.ka HX.out.kq HX.out.kb
            have hne := HNE.out
            have hX2 := HX1.out.past (put6_grown w1 (w.heap.size + 1) (.int .i64 3) (.int .i64 0) (.int .u64 0) (.int .i64 0) (.slice xa na pa) (.slice xb nb pb)) (by omega)
            have hW2 := HWG.out.mv e2 (fun i hi => by simp at hi; subst hi; have := HD0.out; unfold wOwn; simp; omega)
            have h0d : 0 ∉ [d0] := by have := HD0.out; simp; omega
            have HE := HSim.out _ _ ⟨3, 0, 0, 0, xws, xo⟩ _ _ qs hW2 e1.var (by rw [e2.ext _ HC1.out.lt]; exact HOC.out.1) hX2 (by rw [e2.ext _ HX1.out.lt]; exact HOC.out.2) ((HM1.out.widen (by simp)).trans e2) e1.cg (HX.out.ka.mv e2 h0d) (fun q hq => (HX.out.kq q hq).mv e2 h0d) (HX.out.kb.mv e2 h0d)
            have hfw := HX.out.few
            dsimp only at hfw
            have HF := HPu.out ⟨3, 0, 0, 0, xws, xo⟩ qs (fun _ => HOP.out) (by omega) (by omega) (by dsimp only; omega) (fun h => rfl)
            clear e1 e2 hX2 hW2 h0d h0 h2 h3 hfw
            go_wp2
            go_meet
            exact ⟨rfl, _, G, _, xa, na, pa, xb, nb, pb, qs, HE, HF⟩
          · have hb4 : (xk == 4) = false := by simpa using h4
            have HOP : Hid (opC G ⟨xk, xw, xp, xws, xo⟩ = ⟨1, xw, xp, 0, [], []⟩) := (show _ = _ by unfold opC; dsimp only; rw [if_neg h0, if_neg h2, if_neg h4])
            have HE := HSim.out _ _ ⟨1, xw, xp, 0, [], []⟩ _ _ [] HWG.out HC1.out HOC.out.1 HX1.out HOC.out.2 (HM1.out.widen (by simp)) (op_zero (x := ⟨xk, xw, xp, xws, xo⟩) HI.out.2.1 (by unfold I64; omega) HI.out.2.2) ⟨rowF_nil _, fun h => absurd rfl h⟩ (fun q hq => by cases hq) (kp0_nil _ _)
            have HF := HPu.out ⟨1, xw, xp, 0, [], []⟩ [] (fun _ => HOP.out) h3 (by simp) (by simp) (fun h => by dsimp only at h; omega)
            clear h0 h2 h3 h4
            go_wp2
            go_meet
            exact ⟨rfl, _, G, _, none, 0, 0, none, 0, 0, [], HE, HF⟩
  case rest => as_aux_lemma =>
    obtain ⟨rfl, o2, G1, c, xa1, na1, pa1, xb1, nb1, pb1, qs1, HSw, HPs⟩ := hcut
    obtain ⟨W1, hW1⟩ : ∃ W1, W1 = wc := ⟨_, rfl⟩
    subst hW1
    clear t0 t1 t2 t3 t4 c0 c1 c2 c3 c4 c5 f0 f1 f2 f3 f4 f5
    have hwb := HSw.out.wg.blk
    have hcv := HSw.out.cv.var
    have e14 := hwb.cell 14 _ rfl; have e15 := hwb.cell 15 _ rfl
    have g0 := hcv.cell 0 _ rfl; have g1 := hcv.cell 1 _ rfl; have g2 := hcv.cell 2 _ rfl; have g3 := hcv.cell 3 _ rfl; have g4 := hcv.cell 4 _ rfl; have g5 := hcv.cell 5 _ rfl
    have hcl : ∀ (z : WIn (fun w' => Below W1.heap.size W1 w')) p v, W1.cell? p = some v → z.w.cell? p = some v := fun z p v hp => (z.ok.cell (World.block_lt_of_cell? W1 _ hp)).trans hp
    have s14 := fun z => hcl z _ _ e14; have s15 := fun z => hcl z _ _ e15
    have q0 := fun z => hcl z _ _ g0; have q1 := fun z => hcl z _ _ g1; have q2 := fun z => hcl z _ _ g2; have q3 := fun z => hcl z _ _ g3; have q4 := fun z => hcl z _ _ g4; have q5 := fun z => hcl z _ _ g5
    have HOw : Hid (∀ w', Below W1.heap.size W1 w' → Calls Tryz.prog 31 #[.agg #[.int .i64 c.k, .int .i64 c.w, .int .u64 c.p, .int .i64 c.l, .slice xa1 na1 pa1, .slice xb1 nb1 pb1]] w' fun r w'' => ∃ x n y, r = .returned (.agg #[.int .i64 c.k, .int .i64 c.w, .int .u64 c.p, .int .i64 c.l, .slice x n y, .slice xb1 nb1 pb1]) ∧ CgAt w'' c (.slice x n y) (.slice xb1 nb1 pb1) qs1 ∧ Below w'.heap.size w' w'') := fun w' hb => by
      refine (own12f (HSw.out.cv.cg.below hb) HPs.out.ql).mono ?_
      rintro r w'' ⟨a', rfl, h1, _, h2⟩
      obtain ⟨⟨x, n, y, e1⟩, _⟩ := slices_of h1
      subst e1
      exact ⟨x, n, y, rfl, h1, h2⟩
    obtain ⟨L, E, K, hA⟩ : ∃ L E K, applyM G1.M c = (⟨L, E⟩, K) := ⟨_, _, _, rfl⟩
    have HA : Hid (applyM G1.M c = (⟨L, E⟩, K)) := hA
    obtain ⟨m', hm'⟩ : ∃ m', m' = L.length := ⟨_, rfl⟩
    have HMm : Hid (m' = L.length) := hm'
    have HAp : Hid (∀ w' x n y, Below W1.heap.size W1 w' → CgAt w' c (.slice x n y) (.slice xb1 nb1 pb1) qs1 → Calls Tryz.prog 16 #[.agg #[.slice sa ns sc, .int .i64 G1.M.e], .agg #[.int .i64 c.k, .int .i64 c.w, .int .u64 c.p, .int .i64 c.l, .slice x n y, .slice xb1 nb1 pb1]] w' fun r w'' => ∃ z y', r = .returned (.tuple #[.agg #[.slice z m' y', .int .i64 E], .int .i64 K]) ∧ RowF mc w'' (.slice z m' y') L ∧ (∀ j, (Value.slice z m' y').ownBlock = some j → w'.heap.size ≤ j ∨ (Value.slice sa ns sc).ownBlock = some j) ∧ Below w'.heap.size w' w'') := fun w' x n y hb hc => by
      have hg := HPs.out.ok
      have h1 := apply13f (S := G1.M) (HSw.out.wg.s.1.below hb) (by have := hg.len; have := HG.out; omega) hg.mok.e hc
      rw [HA.out] at h1
      refine h1.mono ?_
      rintro r w'' ⟨v, rfl, hr, hn, hb'⟩
      obtain ⟨z, y', e⟩ := hr.len
      subst e
      refine ⟨z, y', ?_, ?_, ?_, hb'⟩
      · rw [HMm.out]; rfl
      · rw [HMm.out]; exact hr
      · rw [HMm.out]; exact fun j hj => .inl (hn j hj)
    have HLV : Hid (∀ j, (Value.slice sa ns sc).ownBlock = some j → j < W1.heap.size) := fun j hj => (HSw.out.wg.s.2 HPs.out.ok.pos j hj).1
    have HD : Hid (Below W1.heap.size W1 W1.drew) := (show Below _ _ _ from (Below.refl _ _).drew)
    have ne : Nonempty (WIn (fun w' => Below W1.heap.size W1 w')) := ⟨⟨W1, Below.refl _ _⟩⟩
    clear hwb hcv e14 e15 g0 g1 g2 g3 g4 g5 hcl hA hm'
    go_upto_region 19 with fail
    go_cut [12, 13] (fun tv kv wx => ∃ (tb : Nat) (z6 : Option Addr) (y6 : Nat), tv = ptr tb ∧ kv = .int .i64 K ∧ Hid (ApF W1 wx tb 45 (Value.slice sa ns sc) (.slice z6 m' y6) ⟨L, E⟩))
    case first => as_aux_lemma =>
      refine wp_region_tree (C := fun w' => ∃ z : WIn (fun w' => Below W1.heap.size W1 w'), w' = z.w) (.still 0 (.still 1 (.still 2 (.still 3 (.still 4 (.two 5 (.two 6 (.still 7 (.still 8 (.still 9 (.one 10 (.one 11 (.still 12 .done)))))) 10 (.one 6 (.still 7 (.still 8 (.still 9 (.one 11 (.still 12 .done))))))) 10 (.one 5 (.one 6 (.still 7 (.still 8 (.still 9 (.one 11 (.still 12 .done))))))))))))) (by kernel_rfl) (by kernel_rfl) ⟨⟨W1.drew, HD.out⟩, rfl⟩ ?_
      iterate 5 (refine tree_still rfl rfl ?_; go_big_quiet_step (exact rfl); refine wpQuiet_nil ?_)
      refine tree_two rfl rfl rfl rfl ?_ ?_
      · go_simp
        refine (HOw.out W1.drew HD.out).mono ?_
        rintro r w5 ⟨x5, n5, y5, rfl, hc5, hb5⟩
        have HB5 : Hid (Below W1.heap.size W1 w5) := (show Below _ _ _ from bnext (w := W1.drew) HD.out hb5)
        refine ⟨⟨⟨w5, HB5.out⟩, rfl⟩, ?_⟩
        go_simp
        refine tree_two rfl rfl rfl rfl ?_ ?_
        · go_simp
          refine (HAp.out w5 x5 n5 y5 HB5.out hc5).mono ?_
          rintro r w6 ⟨z6, y6, rfl, hr6, hn6, hb6⟩
          have HB6 : Hid (Below W1.heap.size W1 w6) := (show Below _ _ _ from bnext (w := w5) HB5.out hb6)
          have hn6' : ∀ j, (Value.slice z6 m' y6).ownBlock = some j → W1.heap.size ≤ j ∨ (Value.slice sa ns sc).ownBlock = some j := fun j hj => (hn6 j hj).imp (fun e => Nat.le_trans (HB5.out).size e) id
          refine ⟨⟨⟨w6, HB6.out⟩, rfl⟩, ?_⟩
          go_simp
          iterate 3 (refine tree_still rfl rfl ?_; go_big_quiet_step (exact rfl); refine wpQuiet_nil ?_)
          refine tree_one rfl rfl ?_
          go_simp
          refine ⟨⟨⟨_, (show Below _ _ _ from balloc HB6.out _)⟩, rfl⟩, ?_⟩
          go_simp
          refine tree_one rfl rfl ?_
          have He := apF_new (W := W1) (lv := (Value.slice sa ns sc)) (S := ⟨L, E⟩) 45 hr6 hn6' HB6.out
          go_simp
          refine ⟨⟨⟨_, He.bel⟩, rfl⟩, ?_⟩
          go_simp
          iterate 1 (refine tree_still rfl rfl ?_; go_big_quiet_step (exact rfl); refine wpQuiet_nil ?_)
          refine tree_done ?_
          go_wp2
          go_meet
          exact ⟨w6.heap.size, z6, y6, rfl, rfl, He⟩
        · go_simp
          obtain ⟨w7, hw7⟩ : ∃ w7, w7 = w5.alloc (.cells #[.slice none 0 0, .int .i64 0] 45) := ⟨_, rfl⟩
          rw [← hw7]
          obtain ⟨tb5, htb5⟩ : ∃ tb5, tb5 = w5.heap.size := ⟨_, rfl⟩
          rw [← htb5]
          have HZ7 : Hid (Blk w7 tb5 45 [.slice none 0 0, .int .i64 0]) := (by rw [hw7, htb5]; exact blk_new w5 _ 45)
          have HB7 : Hid (Below W1.heap.size W1 w7) := (by rw [hw7]; exact balloc HB5.out _)
          have HT7 : Hid (W1.heap.size ≤ tb5) := (by rw [htb5]; exact HB5.out.size)
          have hc7 := hc5.below (show Below w5.heap.size w5 w7 by rw [hw7]; exact balloc (Below.refl _ _) _)
          clear hw7 htb5
          refine ⟨⟨⟨w7, HB7.out⟩, rfl⟩, ?_⟩
          go_simp
          refine tree_one rfl rfl ?_
          go_simp
          refine (HAp.out w7 x5 n5 y5 HB7.out hc7).mono ?_
          rintro r w6 ⟨z6, y6, rfl, hr6, hn6, hb6⟩
          have HB6 : Hid (Below W1.heap.size W1 w6) := (show Below _ _ _ from bnext (w := w7) HB7.out hb6)
          have hn6' : ∀ j, (Value.slice z6 m' y6).ownBlock = some j → W1.heap.size ≤ j ∨ (Value.slice sa ns sc).ownBlock = some j := fun j hj => (hn6 j hj).imp (fun e => Nat.le_trans (HB7.out).size e) id
          have HZ6 : Hid (Blk w6 tb5 45 [.slice none 0 0, .int .i64 0]) := HZ7.out.below hb6
          have hne6 : (Value.slice z6 m' y6).ownBlock ≠ some tb5 := fun e => (hn6 _ e).elim (fun r => by have := HZ7.out.lt; omega) (fun r => absurd HT7.out (Nat.not_le_of_lt (HLV.out _ r)))
          refine ⟨⟨⟨w6, HB6.out⟩, rfl⟩, ?_⟩
          go_simp
          iterate 3 (refine tree_still rfl rfl ?_; go_big_quiet_step (exact rfl); refine wpQuiet_nil ?_)
          refine tree_one rfl rfl ?_
          have He := apF_put (W := W1) (lv := (Value.slice sa ns sc)) (S := ⟨L, E⟩) HZ6.out hr6 hn6' hne6 HB6.out HT7.out
          have g0 := HZ6.out.cell 0 _ rfl; have g1 := HZ6.out.cell 1 _ rfl; have i0 := HZ6.out.frozen 0; have i1 := HZ6.out.frozen 1
          go_simp
          refine ⟨⟨⟨_, He.bel⟩, rfl⟩, ?_⟩
          go_simp
          iterate 1 (refine tree_still rfl rfl ?_; go_big_quiet_step (exact rfl); refine wpQuiet_nil ?_)
          refine tree_done ?_
          go_wp2
          go_meet
          exact ⟨tb5, z6, y6, rfl, rfl, He⟩
      · go_simp
        obtain ⟨w7, hw7⟩ : ∃ w7, w7 = (W1.alloc (.cells #[.slice none 0 0, .int .i64 0] 45)).drew := ⟨_, rfl⟩
        rw [← hw7]
        have HZ7 : Hid (Blk w7 W1.heap.size 45 [.slice none 0 0, .int .i64 0]) := (by rw [hw7]; exact blk_new W1 _ 45)
        have HB7 : Hid (Below W1.heap.size W1 w7) := (by rw [hw7]; exact (balloc (Below.refl _ _) _).drew)
        have HL7 : Hid (W1.heap.size < w7.heap.size) := (show _ < _ from HZ7.out.lt)
        clear hw7
        refine ⟨⟨⟨w7, HB7.out⟩, rfl⟩, ?_⟩
        go_simp
        refine tree_one rfl rfl ?_
        go_simp
        refine (HOw.out w7 HB7.out).mono ?_
        rintro r w5 ⟨x5, n5, y5, rfl, hc5, hb5⟩
        have HB5 : Hid (Below W1.heap.size W1 w5) := (show Below _ _ _ from bnext (w := w7) HB7.out hb5)
        have HZ5 : Hid (Blk w5 W1.heap.size 45 [.slice none 0 0, .int .i64 0]) := HZ7.out.below hb5
        refine ⟨⟨⟨w5, HB5.out⟩, rfl⟩, ?_⟩
        go_simp
        refine tree_one rfl rfl ?_
        go_simp
        refine (HAp.out w5 x5 n5 y5 HB5.out hc5).mono ?_
        rintro r w6 ⟨z6, y6, rfl, hr6, hn6, hb6⟩
        have HB6 : Hid (Below W1.heap.size W1 w6) := (show Below _ _ _ from bnext (w := w5) HB5.out hb6)
        have hn6' : ∀ j, (Value.slice z6 m' y6).ownBlock = some j → W1.heap.size ≤ j ∨ (Value.slice sa ns sc).ownBlock = some j := fun j hj => (hn6 j hj).imp (fun e => Nat.le_trans (HB5.out).size e) id
        have HZ6 : Hid (Blk w6 W1.heap.size 45 [.slice none 0 0, .int .i64 0]) := HZ5.out.below hb6
        have hne6 : (Value.slice z6 m' y6).ownBlock ≠ some W1.heap.size := fun e => (hn6 _ e).elim (fun r => by have := HZ5.out.lt; omega) (fun r => absurd (Nat.le_refl W1.heap.size) (Nat.not_le_of_lt (HLV.out _ r)))
        refine ⟨⟨⟨w6, HB6.out⟩, rfl⟩, ?_⟩
        go_simp
        iterate 3 (refine tree_still rfl rfl ?_; go_big_quiet_step (exact rfl); refine wpQuiet_nil ?_)
        refine tree_one rfl rfl ?_
        have He := apF_put (W := W1) (lv := (Value.slice sa ns sc)) (S := ⟨L, E⟩) HZ6.out hr6 hn6' hne6 HB6.out (Nat.le_refl W1.heap.size)
        have g0 := HZ6.out.cell 0 _ rfl; have g1 := HZ6.out.cell 1 _ rfl; have i0 := HZ6.out.frozen 0; have i1 := HZ6.out.frozen 1
        go_simp
        refine ⟨⟨⟨_, He.bel⟩, rfl⟩, ?_⟩
        go_simp
        iterate 1 (refine tree_still rfl rfl ?_; go_big_quiet_step (exact rfl); refine wpQuiet_nil ?_)
        refine tree_done ?_
        go_wp2
        go_meet
        exact ⟨W1.heap.size, z6, y6, rfl, rfl, He⟩
    case rest => as_aux_lemma =>
      obtain ⟨tb, z6, y6, rfl, rfl, HA1⟩ := hcut
      obtain ⟨W2, hW2⟩ : ∃ W2, W2 = wc := ⟨_, rfl⟩
      subst hW2
      clear s14 s15 q0 q1 q2 q3 q4 q5 ne HD HAp HOw HLV
      have hW2 := HSw.out.wg.below HA1.out.bel 0
      have hV2 := HSw.out.cv.mv (Mv.of_below (I := []) 0 HA1.out.bel) (by simp)
      have HW2 : Hid (WG w0 W2 (newTo o2 W1 0) wb G1 (.slice sa ns sc) (.slice ta nt tc)) := hW2
      have HV2 : Hid (CVar W2 (newTo o2 W1 0) (w.heap.size + 1) 67 c (.slice xa1 na1 pa1) (.slice xb1 nb1 pb1) qs1) := hV2
      have HK6 : Hid (KpF mc W2 (newTo o2 W1 0) (.slice z6 m' y6) L) := (show KpF _ _ _ _ _ from HA1.out.kp HSw.out.wg.s HPs.out.ok.pos)
      have HT2 : Hid (Blk W2 tb 45 [.slice z6 m' y6, .int .i64 E] ∧ newTo o2 W1 0 tb = 0) := ⟨HA1.out.var, newTo_new HA1.out.le⟩
      have HX2 : Hid (Blk W2 w.heap.size 33 [.int .i64 xk, .int .i64 xw, .int .u64 xp, .slice xa na pa, .slice xb nb pb] ∧ newTo o2 W1 0 w.heap.size = 0) := ⟨HSw.out.xv.below HA1.out.bel, by rw [newTo_old HSw.out.xv.lt]; exact HSw.out.xo⟩
      have HM2 : Hid (Mv [1, 8, 9] w o W2 (newTo o2 W1 0)) := (show Mv _ _ _ _ _ from HSw.out.mv.trans (Mv.of_below 0 HA1.out.bel))
      generalize newTo o2 W1 0 = o3 at *
      have hwb := HW2.out.blk
      have hcv := HV2.out.var
      have e16 := hwb.cell 16 _ rfl; have e17 := hwb.cell 17 _ rfl
      have g0 := hcv.cell 0 _ rfl; have g1 := hcv.cell 1 _ rfl; have g2 := hcv.cell 2 _ rfl; have g3 := hcv.cell 3 _ rfl; have g4 := hcv.cell 4 _ rfl; have g5 := hcv.cell 5 _ rfl
      have hcl : ∀ (z : WIn (fun w' => Below W2.heap.size W2 w')) p v, W2.cell? p = some v → z.w.cell? p = some v := fun z p v hp => (z.ok.cell (World.block_lt_of_cell? W2 _ hp)).trans hp
      have s16 := fun z => hcl z _ _ e16; have s17 := fun z => hcl z _ _ e17
      have q0 := fun z => hcl z _ _ g0; have q1 := fun z => hcl z _ _ g1; have q2 := fun z => hcl z _ _ g2; have q3 := fun z => hcl z _ _ g3; have q4 := fun z => hcl z _ _ g4; have q5 := fun z => hcl z _ _ g5
      have HAp : Hid (∀ w', Below W2.heap.size W2 w' → Calls Tryz.prog 17 #[.agg #[.slice ta nt tc, .int .i64 G1.K.e], .agg #[.int .i64 c.k, .int .i64 c.w, .int .u64 c.p, .int .i64 c.l, .slice xa1 na1 pa1, .slice xb1 nb1 pb1]] w' fun r w'' => ∃ z y', r = .returned (.tuple #[.agg #[.slice z m' y', .int .i64 E], .int .i64 K]) ∧ RowF mc w'' (.slice z m' y') L ∧ (∀ j, (Value.slice z m' y').ownBlock = some j → w'.heap.size ≤ j ∨ (Value.slice ta nt tc).ownBlock = some j) ∧ Below w'.heap.size w' w'') := fun w' hb => by
        have hg := HPs.out.ok
        have hkm := HPs.out.km
        have h1 := rapply14f (S := G1.K) (HW2.out.t.1.below hb) (by rw [hkm]; have := hg.len; have := HG.out; omega) (by rw [hkm]; exact hg.mok) (HV2.out.cg.below hb)
        rw [show applyM G1.K c = (⟨L, E⟩, K) by rw [hkm]; exact HA.out] at h1
        refine h1.mono ?_
        rintro r w'' ⟨v, rfl, hr, hn, hb'⟩
        obtain ⟨z, y', e⟩ := hr.len
        subst e
        refine ⟨z, y', ?_, ?_, ?_, hb'⟩
        · rw [HMm.out]; rfl
        · rw [HMm.out]; exact hr
        · rw [HMm.out]; exact hn
      have HLV : Hid (∀ j, (Value.slice ta nt tc).ownBlock = some j → j < W2.heap.size) := fun j hj => (HW2.out.t.2 (by rw [HPs.out.km]; exact HPs.out.ok.pos) j hj).1
      have HD : Hid (Below W2.heap.size W2 W2.drew) := (show Below _ _ _ from (Below.refl _ _).drew)
      have ne : Nonempty (WIn (fun w' => Below W2.heap.size W2 w')) := ⟨⟨W2, Below.refl _ _⟩⟩
      clear hwb hcv e16 e17 g0 g1 g2 g3 g4 g5 hcl hW2 hV2 HA1
      go_upto_region 20 with fail
      go_cut [14, 15] (fun tv kv wx => ∃ (tb : Nat) (z6 : Option Addr) (y6 : Nat), tv = ptr tb ∧ kv = .int .i64 K ∧ Hid (ApF W2 wx tb 48 (Value.slice ta nt tc) (.slice z6 m' y6) ⟨L, E⟩))
      case first => as_aux_lemma =>
        refine wp_region_tree (C := fun w' => ∃ z : WIn (fun w' => Below W2.heap.size W2 w'), w' = z.w) (.still 0 (.still 1 (.still 2 (.still 3 (.still 4 (.two 5 (.still 6 (.still 7 (.still 8 (.one 9 (.one 10 (.still 11 .done)))))) 9 (.one 5 (.still 6 (.still 7 (.still 8 (.one 10 (.still 11 .done)))))))))))) (by kernel_rfl) (by kernel_rfl) ⟨⟨W2.drew, HD.out⟩, rfl⟩ ?_
        iterate 5 (refine tree_still rfl rfl ?_; go_big_quiet_step (exact rfl); refine wpQuiet_nil ?_)
        refine tree_two rfl rfl rfl rfl ?_ ?_
        · go_simp
          refine (HAp.out W2.drew HD.out).mono ?_
          rintro r w6 ⟨z6, y6, rfl, hr6, hn6, hb6⟩
          have HB6 : Hid (Below W2.heap.size W2 w6) := (show Below _ _ _ from bnext (w := W2.drew) HD.out hb6)
          have hn6' : ∀ j, (Value.slice z6 m' y6).ownBlock = some j → W2.heap.size ≤ j ∨ (Value.slice ta nt tc).ownBlock = some j := fun j hj => (hn6 j hj).imp (fun e => Nat.le_trans (HD.out).size e) id
          refine ⟨⟨⟨w6, HB6.out⟩, rfl⟩, ?_⟩
          go_simp
          iterate 3 (refine tree_still rfl rfl ?_; go_big_quiet_step (exact rfl); refine wpQuiet_nil ?_)
          refine tree_one rfl rfl ?_
          go_simp
          refine ⟨⟨⟨_, (show Below _ _ _ from balloc HB6.out _)⟩, rfl⟩, ?_⟩
          go_simp
          refine tree_one rfl rfl ?_
          have He := apF_new (W := W2) (lv := (Value.slice ta nt tc)) (S := ⟨L, E⟩) 48 hr6 hn6' HB6.out
          go_simp
          refine ⟨⟨⟨_, He.bel⟩, rfl⟩, ?_⟩
          go_simp
          iterate 1 (refine tree_still rfl rfl ?_; go_big_quiet_step (exact rfl); refine wpQuiet_nil ?_)
          refine tree_done ?_
          go_wp2
          go_meet
          exact ⟨w6.heap.size, z6, y6, rfl, rfl, He⟩
        · go_simp
          obtain ⟨w7, hw7⟩ : ∃ w7, w7 = (W2.alloc (.cells #[.slice none 0 0, .int .i64 0] 48)).drew := ⟨_, rfl⟩
          rw [← hw7]
          have HZ7 : Hid (Blk w7 W2.heap.size 48 [.slice none 0 0, .int .i64 0]) := (by rw [hw7]; exact blk_new W2 _ 48)
          have HB7 : Hid (Below W2.heap.size W2 w7) := (by rw [hw7]; exact (balloc (Below.refl _ _) _).drew)
          have HL7 : Hid (W2.heap.size < w7.heap.size) := (show _ < _ from HZ7.out.lt)
          clear hw7
          refine ⟨⟨⟨w7, HB7.out⟩, rfl⟩, ?_⟩
          go_simp
          refine tree_one rfl rfl ?_
          go_simp
          refine (HAp.out w7 HB7.out).mono ?_
          rintro r w6 ⟨z6, y6, rfl, hr6, hn6, hb6⟩
          have HB6 : Hid (Below W2.heap.size W2 w6) := (show Below _ _ _ from bnext (w := w7) HB7.out hb6)
          have hn6' : ∀ j, (Value.slice z6 m' y6).ownBlock = some j → W2.heap.size ≤ j ∨ (Value.slice ta nt tc).ownBlock = some j := fun j hj => (hn6 j hj).imp (fun e => Nat.le_trans (HB7.out).size e) id
          have HZ6 : Hid (Blk w6 W2.heap.size 48 [.slice none 0 0, .int .i64 0]) := HZ7.out.below hb6
          have hne6 : (Value.slice z6 m' y6).ownBlock ≠ some W2.heap.size := fun e => (hn6 _ e).elim (fun r => by have := HZ7.out.lt; omega) (fun r => absurd (Nat.le_refl W2.heap.size) (Nat.not_le_of_lt (HLV.out _ r)))
          refine ⟨⟨⟨w6, HB6.out⟩, rfl⟩, ?_⟩
          go_simp
          iterate 3 (refine tree_still rfl rfl ?_; go_big_quiet_step (exact rfl); refine wpQuiet_nil ?_)
          refine tree_one rfl rfl ?_
          have He := apF_put (W := W2) (lv := (Value.slice ta nt tc)) (S := ⟨L, E⟩) HZ6.out hr6 hn6' hne6 HB6.out (Nat.le_refl W2.heap.size)
          have g0 := HZ6.out.cell 0 _ rfl; have g1 := HZ6.out.cell 1 _ rfl; have i0 := HZ6.out.frozen 0; have i1 := HZ6.out.frozen 1
          go_simp
          refine ⟨⟨⟨_, He.bel⟩, rfl⟩, ?_⟩
          go_simp
          iterate 1 (refine tree_still rfl rfl ?_; go_big_quiet_step (exact rfl); refine wpQuiet_nil ?_)
          refine tree_done ?_
          go_wp2
          go_meet
          exact ⟨W2.heap.size, z6, y6, rfl, rfl, He⟩
      case rest => as_aux_lemma =>
        obtain ⟨ub, z7, y7, rfl, rfl, HA2⟩ := hcut
        obtain ⟨W3, hW3⟩ : ∃ W3, W3 = wc := ⟨_, rfl⟩
        subst hW3
        clear s16 s17 q0 q1 q2 q3 q4 q5 ne HD HAp HLV
        have HW3 : Hid (WG w0 W3 (newTo o3 W2 0) wb G1 (.slice sa ns sc) (.slice ta nt tc)) := (show WG _ _ _ _ _ _ _ from HW2.out.below HA2.out.bel 0)
        have m3 : Mv [] W2 o3 W3 (newTo o3 W2 0) := Mv.of_below 0 HA2.out.bel
        have HV3 : Hid (CVar W3 (newTo o3 W2 0) (w.heap.size + 1) 67 c (.slice xa1 na1 pa1) (.slice xb1 nb1 pb1) qs1) := (show CVar _ _ _ _ _ _ _ _ from HV2.out.mv m3 (by simp))
        have HK63 : Hid (KpF mc W3 (newTo o3 W2 0) (.slice z6 m' y6) L) := (show KpF _ _ _ _ _ from HK6.out.mv m3 (by simp))
        have HK73 : Hid (KpF mc W3 (newTo o3 W2 0) (.slice z7 m' y7) L) := (show KpF _ _ _ _ _ from HA2.out.kp HW2.out.t (by rw [HPs.out.km]; exact HPs.out.ok.pos))
        have HT3 : Hid (Blk W3 tb 45 [.slice z6 m' y6, .int .i64 E] ∧ newTo o3 W2 0 tb = 0) := ⟨HT2.out.1.below HA2.out.bel, by rw [newTo_old HT2.out.1.lt]; exact HT2.out.2⟩
        have HU3 : Hid (Blk W3 ub 48 [.slice z7 m' y7, .int .i64 E] ∧ newTo o3 W2 0 ub = 0) := ⟨HA2.out.var, newTo_new HA2.out.le⟩
        have HX3 : Hid (Blk W3 w.heap.size 33 [.int .i64 xk, .int .i64 xw, .int .u64 xp, .slice xa na pa, .slice xb nb pb] ∧ newTo o3 W2 0 w.heap.size = 0) := ⟨HX2.out.1.below HA2.out.bel, by rw [newTo_old HX2.out.1.lt]; exact HX2.out.2⟩
        have HM3 : Hid (Mv [1, 8, 9] w o W3 (newTo o3 W2 0)) := (show Mv _ _ _ _ _ from HM2.out.trans (m3.widen (by simp)))
        generalize newTo o3 W2 0 = o4 at *
        have hkk : (K != K) = false := by simp
        clear m3 HA2 HT2 HX2 HM2 HK6 HV2 HW2
        go_upto_if 135 with fail
        go_cut [13, 15] (fun kv1 kv2 wx => kv1 = .int .i64 K ∧ kv2 = .int .i64 K ∧ ∃ (o5 : Nat → Nat) (sl5 tl5 : Value), Hid (WG w0 wx o5 wb (appG G1 c) sl5 tl5) ∧ Hid (CVar wx o5 (w.heap.size + 1) 67 c (.slice xa1 na1 pa1) (.slice xb1 nb1 pb1) qs1) ∧ Hid (Blk wx w.heap.size 33 [.int .i64 xk, .int .i64 xw, .int .u64 xp, .slice xa na pa, .slice xb nb pb] ∧ o5 w.heap.size = 0) ∧ Hid (Mv [1, 8, 9] w o wx o5))
        case first => as_aux_lemma =>
          by_cases hK : K = 0
          · have HKz : Hid (K = 0) := hK
            have hK2 : (K == 0) = true := by simp [hK]
            have HAG : Hid (appG G1 c = { G1 with M := ⟨L, E⟩, K := ⟨L, E⟩ }) := (show _ = _ by unfold appG; rw [HA.out]; exact if_pos hK)
            obtain ⟨hS1, hS2⟩ := HW3.out.setS (v := .slice z6 m' y6) (M := ⟨L, E⟩) HK63.out
            have hV4 := HV3.out.mv hS2 (by decide)
            have hX4 := HX3.out.1.block (hS2.block _ HX3.out.1.lt (by rw [HX3.out.2]; decide))
            have hX4o : newTo o4 W3 9 w.heap.size = 0 := by rw [hS2.ext _ HX3.out.1.lt]; exact HX3.out.2
            have hU4 := HU3.out.1.block (hS2.block _ HU3.out.1.lt (by rw [HU3.out.2]; decide))
            have hU4o : newTo o4 W3 9 ub = 0 := by rw [hS2.ext _ HU3.out.1.lt]; exact HU3.out.2
            have hK74 := HK73.out.mv hS2 (by decide)
            have hM4 := HM3.out.trans (hS2.widen (by simp))
            have ht := HT3.out.1
            have hwb := HW3.out.blk
            have u0 := ht.cell 0 _ rfl; have u1 := ht.cell 1 _ rfl
            have b14 := hwb.cell 14 _ rfl; have b15 := hwb.cell 15 _ rfl; have d14 := hwb.frozen 14; have d15 := hwb.frozen 15
            have HS4 : Hid (WG w0 ((W3.setCell ⟨wb, 14, none⟩ (.slice z6 m' y6)).setCell ⟨wb, 15, none⟩ (.int .i64 E)) (newTo o4 W3 9) wb { G1 with M := ⟨L, E⟩ } (.slice z6 m' y6) (.slice ta nt tc)) := hS1
            have HV4 : Hid (CVar ((W3.setCell ⟨wb, 14, none⟩ (.slice z6 m' y6)).setCell ⟨wb, 15, none⟩ (.int .i64 E)) (newTo o4 W3 9) (w.heap.size + 1) 67 c (.slice xa1 na1 pa1) (.slice xb1 nb1 pb1) qs1) := hV4
            have HX4 : Hid (Blk ((W3.setCell ⟨wb, 14, none⟩ (.slice z6 m' y6)).setCell ⟨wb, 15, none⟩ (.int .i64 E)) w.heap.size 33 [.int .i64 xk, .int .i64 xw, .int .u64 xp, .slice xa na pa, .slice xb nb pb] ∧ newTo o4 W3 9 w.heap.size = 0) := ⟨hX4, hX4o⟩
            have HU4 : Hid (Blk ((W3.setCell ⟨wb, 14, none⟩ (.slice z6 m' y6)).setCell ⟨wb, 15, none⟩ (.int .i64 E)) ub 48 [.slice z7 m' y7, .int .i64 E]) := hU4
            have HK74 : Hid (KpF mc ((W3.setCell ⟨wb, 14, none⟩ (.slice z6 m' y6)).setCell ⟨wb, 15, none⟩ (.int .i64 E)) (newTo o4 W3 9) (.slice z7 m' y7) L) := hK74
            have HM4 : Hid (Mv [1, 8, 9] w o ((W3.setCell ⟨wb, 14, none⟩ (.slice z6 m' y6)).setCell ⟨wb, 15, none⟩ (.int .i64 E)) (newTo o4 W3 9)) := hM4
            clear hS1 hS2 hV4 hX4 hX4o hU4 hU4o hK74 hM4 ht hwb hK
            go_upto_region 25 with fail
            generalize (W3.setCell ⟨wb, 14, none⟩ (.slice z6 m' y6)).setCell ⟨wb, 15, none⟩ (.int .i64 E) = W4 at *
            generalize newTo o4 W3 9 = o5 at *
            obtain ⟨hS1, hS2⟩ := HS4.out.setT (v := .slice z7 m' y7) (K := ⟨L, E⟩) HK74.out
            have hV5 := HV4.out.mv hS2 (by decide)
            have hX5 := HX4.out.1.block (hS2.block _ HX4.out.1.lt (by rw [HX4.out.2]; decide))
            have hX5o : newTo o5 W4 9 w.heap.size = 0 := by rw [hS2.ext _ HX4.out.1.lt]; exact HX4.out.2
            have hM5 := HM4.out.trans (hS2.widen (by simp))
            have hu := HU4.out
            have hwb := HS4.out.blk
            have v0 := hu.cell 0 _ rfl; have v1 := hu.cell 1 _ rfl
            have b16 := hwb.cell 16 _ rfl; have b17 := hwb.cell 17 _ rfl; have d16 := hwb.frozen 16; have d17 := hwb.frozen 17
            have HE1 : Hid (WG w0 ((W4.setCell ⟨wb, 16, none⟩ (.slice z7 m' y7)).setCell ⟨wb, 17, none⟩ (.int .i64 E)) (newTo o5 W4 9) wb (appG G1 c) (.slice z6 m' y6) (.slice z7 m' y7)) := (by rw [HAG.out]; exact hS1)
            have HE2 : Hid (CVar ((W4.setCell ⟨wb, 16, none⟩ (.slice z7 m' y7)).setCell ⟨wb, 17, none⟩ (.int .i64 E)) (newTo o5 W4 9) (w.heap.size + 1) 67 c (.slice xa1 na1 pa1) (.slice xb1 nb1 pb1) qs1) := hV5
            have HE3 : Hid (Blk ((W4.setCell ⟨wb, 16, none⟩ (.slice z7 m' y7)).setCell ⟨wb, 17, none⟩ (.int .i64 E)) w.heap.size 33 [.int .i64 xk, .int .i64 xw, .int .u64 xp, .slice xa na pa, .slice xb nb pb] ∧ newTo o5 W4 9 w.heap.size = 0) := ⟨hX5, hX5o⟩
            have HE4 : Hid (Mv [1, 8, 9] w o ((W4.setCell ⟨wb, 16, none⟩ (.slice z7 m' y7)).setCell ⟨wb, 17, none⟩ (.int .i64 E)) (newTo o5 W4 9)) := hM5
            clear hS1 hS2 hV5 hX5 hX5o hM5 hu hwb
            go_wp2
            go_meet
            exact ⟨rfl, rfl, newTo o5 W4 9, .slice z6 m' y6, .slice z7 m' y7, HE1, HE2, HE3, HE4⟩
          · have hK2 : (K == 0) = false := by simpa using hK
            have HAG : Hid (appG G1 c = G1) := (show _ = _ by unfold appG; rw [HA.out]; exact if_neg hK)
            have HE1 : Hid (WG w0 W3 o4 wb (appG G1 c) (.slice sa ns sc) (.slice ta nt tc)) := (by rw [HAG.out]; exact HW3.out)
            clear hK
            go_wp2
            go_meet
            exact ⟨rfl, rfl, o4, (.slice sa ns sc), (.slice ta nt tc), HE1, HV3, HX3, HM3⟩
        case rest => as_aux_lemma =>
          obtain ⟨rfl, rfl, o5, sl5, tl5, HW5, HV5, HX5, HM5⟩ := hcut
          obtain ⟨W5, hW5⟩ : ∃ W5, W5 = wc := ⟨_, rfl⟩
          subst hW5
          clear HW3 HV3 HK63 HK73 HT3 HU3 HX3 HM3
          have hcv := HV5.out.var
          have hxv := HX5.out.1
          have g0 := hcv.cell 0 _ rfl
          have k0 := hxv.cell 0 _ rfl
          clear hcv hxv
          obtain ⟨q, hq⟩ : ∃ q, q = decide (c.k ≠ 3 ∨ (K ≠ 0 ∧ xk ≠ 4)) := ⟨_, rfl⟩
          have HQ : Hid (q = decide (c.k ≠ 3 ∨ (K ≠ 0 ∧ xk ≠ 4))) := hq
          clear hq
          go_upto_region 26 with fail
          go_cut [155] (fun qv wx => qv = .bool q ∧ wx = W5)
          case first => as_aux_lemma =>
            by_cases h1 : c.k = 3
            · have h1b : (c.k != 3) = false := by simpa using h1
              by_cases h2 : K = 0
              · have h2b : (K != 0) = false := by simpa using h2
                have hq : q = false := by rw [HQ.out]; simp [h1, h2]
                clear h1 h2
                go_wp2
                go_meet
                exact ⟨by rw [hq], rfl⟩
              · have h2b : (K != 0) = true := by simpa using h2
                by_cases h3 : xk = 4
                · have h3b : (xk != 4) = false := by simpa using h3
                  have hq : q = false := by rw [HQ.out]; simp [h1, h3]
                  clear h1 h2 h3
                  go_wp2
                  go_meet
                  exact ⟨by rw [hq], rfl⟩
                · have h3b : (xk != 4) = true := by simpa using h3
                  have hq : q = true := by rw [HQ.out]; simp [h1, h2, h3]
                  clear h1 h2 h3
                  go_wp2
                  go_meet
                  exact ⟨by rw [hq], rfl⟩
            · have h1b : (c.k != 3) = true := by simpa using h1
              have hq : q = true := by rw [HQ.out]; simp [h1]
              clear h1
              go_wp2
              go_meet
              exact ⟨by rw [hq], rfl⟩
          case rest => as_aux_lemma =>
            obtain ⟨rfl, hwc⟩ := hcut
            subst hwc
            have HDA : Hid (DM = if c.k ≠ 3 ∨ (K ≠ 0 ∧ xk ≠ 4) then appG G1 c else lrnK (appG G1 c) c 4) := (show _ = _ by rw [HPs.out.dm]; unfold doA; rw [HA.out])
            cases hq : q with
            | true =>
              have HDE : Hid (DM = appG G1 c) := (show _ = _ by rw [HDA.out, if_pos (of_decide_eq_true (by rw [← HQ.out]; exact hq))])
              clear hq
              go_wp2
              go_ret
              exact ⟨rfl, o5, sl5, tl5, by rw [HDE.out]; exact HW5.out, HM5.out.widen (by unfold wI; simp)⟩
            | false =>
              have hnq : ¬ (c.k ≠ 3 ∨ (K ≠ 0 ∧ xk ≠ 4)) := of_decide_eq_false (by rw [← HQ.out]; exact hq)
              have HDE : Hid (DM = lrnK (appG G1 c) c 4) := (show _ = _ by rw [HDA.out, if_neg hnq])
              have hc3 : c.k = 3 := by
                apply Classical.byContradiction
                intro h
                exact hnq (.inl h)
              obtain ⟨hts, hrr⟩ := HPs.out.ts hc3
              have hap : (appG G1 c).S = G1.S ∧ (appG G1 c).T = G1.T ∧ (appG G1 c).P = G1.P ∧ (appG G1 c).R = G1.R ∧ (appG G1 c).ob = G1.ob ∧ (appG G1 c).rr = G1.rr ∧ (appG G1 c).rb = G1.rb ∧ (appG G1 c).mb = G1.mb := by
                unfold appG
                split <;> exact ⟨rfl, rfl, rfl, rfl, rfl, rfl, rfl, rfl⟩
              obtain ⟨G2, hG2⟩ : ∃ G2, G2 = appG G1 c := ⟨_, rfl⟩
              rw [← hG2] at HW5 HDE hap
              have HLR : Hid (G2.T = G2.S ∧ (∀ k, k < 4 → RRel (G2.P k) (G2.R k)) ∧ Ora G2.S (n + m + 3)) := ⟨by rw [hap.2.1, hap.1]; exact hts, by rw [hap.2.2.1, hap.2.2.2.1]; exact hrr, by rw [hap.1]; exact HPs.out.ok.ora⟩
              have HW0 : Hid (WG w0 wc o5 wb (lrnK G2 c 0) sl5 tl5) := (by rw [lrnK_zero]; exact HW5.out)
              clear hq hnq hc3 hts hrr hap hG2 HW5 HDA HQ k0 g0
              go_wp2
              go_loopw [16] (fun i wr => ∃ (k : Nat), i = .int .i64 k ∧ k ≤ 4 ∧ ∃ (o6 : Nat → Nat), Hid (WG w0 wr o6 wb (lrnK G2 c k) sl5 tl5) ∧ Hid (CVar wr o6 (w.heap.size + 1) 67 c (.slice xa1 na1 pa1) (.slice xb1 nb1 pb1) qs1) ∧ Hid (Mv wI w o wr o6)) (fun i _ => 4 - (intOf i).toNat)
              case atStart => exact ⟨0, rfl, by omega, o5, HW0.out, HV5.out, HM5.out.widen (by unfold wI; simp)⟩
              case round =>
                obtain ⟨k, rfl, hk, o6, HW6, HV6, HM6⟩ := hrel
                by_cases hk4 : k < 4
                · have hR1 := wcs_r (lrnK G2 c k) sl5 tl5 hk4
                  have hR2 := wcs_m (lrnK G2 c k) sl5 tl5 hk4
                  have HR1 : Hid ((wcs (lrnK G2 c k) sl5 tl5)[6 + k]? = some (ptr (G2.rb k))) := hR1
                  have HR2 : Hid ((wcs (lrnK G2 c k) sl5 tl5)[10 + k]? = some (ptr (G2.mb k))) := hR2
                  have y0 : ∀ z : WIn (fun w' => Blk w' wb 50 (wcs (lrnK G2 c k) sl5 tl5) ∧ Blk w' (w.heap.size + 1) 67 [.int .i64 c.k, .int .i64 c.w, .int .u64 c.p, .int .i64 c.l, .slice xa1 na1 pa1, .slice xb1 nb1 pb1]), z.w.cell? ⟨wb, 6 + k, none⟩ = some (ptr (G2.rb k)) := fun z => z.ok.1.cell _ _ HR1.out
                  have y1 : ∀ z : WIn (fun w' => Blk w' wb 50 (wcs (lrnK G2 c k) sl5 tl5) ∧ Blk w' (w.heap.size + 1) 67 [.int .i64 c.k, .int .i64 c.w, .int .u64 c.p, .int .i64 c.l, .slice xa1 na1 pa1, .slice xb1 nb1 pb1]), z.w.cell? ⟨wb, 10 + k, none⟩ = some (ptr (G2.mb k)) := fun z => z.ok.1.cell _ _ HR2.out
                  have y2 : ∀ z : WIn (fun w' => Blk w' wb 50 (wcs (lrnK G2 c k) sl5 tl5) ∧ Blk w' (w.heap.size + 1) 67 [.int .i64 c.k, .int .i64 c.w, .int .u64 c.p, .int .i64 c.l, .slice xa1 na1 pa1, .slice xb1 nb1 pb1]), z.w.cell? ⟨wb, 1, none⟩ = some (ptr G2.rr) := fun z => z.ok.1.cell 1 _ rfl
                  have v0 : ∀ z : WIn (fun w' => Blk w' wb 50 (wcs (lrnK G2 c k) sl5 tl5) ∧ Blk w' (w.heap.size + 1) 67 [.int .i64 c.k, .int .i64 c.w, .int .u64 c.p, .int .i64 c.l, .slice xa1 na1 pa1, .slice xb1 nb1 pb1]), _ := fun z => z.ok.2.cell 0 _ rfl
                  have v1 : ∀ z : WIn (fun w' => Blk w' wb 50 (wcs (lrnK G2 c k) sl5 tl5) ∧ Blk w' (w.heap.size + 1) 67 [.int .i64 c.k, .int .i64 c.w, .int .u64 c.p, .int .i64 c.l, .slice xa1 na1 pa1, .slice xb1 nb1 pb1]), _ := fun z => z.ok.2.cell 1 _ rfl
                  have v2 : ∀ z : WIn (fun w' => Blk w' wb 50 (wcs (lrnK G2 c k) sl5 tl5) ∧ Blk w' (w.heap.size + 1) 67 [.int .i64 c.k, .int .i64 c.w, .int .u64 c.p, .int .i64 c.l, .slice xa1 na1 pa1, .slice xb1 nb1 pb1]), _ := fun z => z.ok.2.cell 2 _ rfl
                  have v3 : ∀ z : WIn (fun w' => Blk w' wb 50 (wcs (lrnK G2 c k) sl5 tl5) ∧ Blk w' (w.heap.size + 1) 67 [.int .i64 c.k, .int .i64 c.w, .int .u64 c.p, .int .i64 c.l, .slice xa1 na1 pa1, .slice xb1 nb1 pb1]), _ := fun z => z.ok.2.cell 3 _ rfl
                  have v4 : ∀ z : WIn (fun w' => Blk w' wb 50 (wcs (lrnK G2 c k) sl5 tl5) ∧ Blk w' (w.heap.size + 1) 67 [.int .i64 c.k, .int .i64 c.w, .int .u64 c.p, .int .i64 c.l, .slice xa1 na1 pa1, .slice xb1 nb1 pb1]), _ := fun z => z.ok.2.cell 4 _ rfl
                  have v5 : ∀ z : WIn (fun w' => Blk w' wb 50 (wcs (lrnK G2 c k) sl5 tl5) ∧ Blk w' (w.heap.size + 1) 67 [.int .i64 c.k, .int .i64 c.w, .int .u64 c.p, .int .i64 c.l, .slice xa1 na1 pa1, .slice xb1 nb1 pb1]), _ := fun z => z.ok.2.cell 5 _ rfl
                  have ne31 : Nonempty (WIn (fun w' => Blk w' wb 50 (wcs (lrnK G2 c k) sl5 tl5) ∧ Blk w' (w.heap.size + 1) 67 [.int .i64 c.k, .int .i64 c.w, .int .u64 c.p, .int .i64 c.l, .slice xa1 na1 pa1, .slice xb1 nb1 pb1])) := ⟨⟨wr, HW6.out.blk, HV6.out.var⟩⟩
                  have HOw : Hid (Calls Tryz.prog 31 #[.agg #[.int .i64 c.k, .int .i64 c.w, .int .u64 c.p, .int .i64 c.l, .slice xa1 na1 pa1, .slice xb1 nb1 pb1]] wr.drew fun r w'' => ∃ x n y, r = .returned (.agg #[.int .i64 c.k, .int .i64 c.w, .int .u64 c.p, .int .i64 c.l, .slice x n y, .slice xb1 nb1 pb1]) ∧ CgAt w'' c (.slice x n y) (.slice xb1 nb1 pb1) qs1 ∧ Below wr.heap.size wr w'') := by
                    refine (own12f (HV6.out.cg.below ((Below.refl _ _).drew)) HPs.out.ql).mono ?_
                    rintro r w'' ⟨a', rfl, h1, _, h2⟩
                    obtain ⟨⟨x, n, y, e1⟩, _⟩ := slices_of h1
                    subst e1
                    exact ⟨x, n, y, rfl, h1, bnext ((Below.refl _ _).drew) h2⟩
                  have hLr := learn_rel (S := G2.S) (HLR.out.2.1 k hk4) c
                  have HLr : Hid ((learnP G2.S (G2.P k) c).2 = (learnR G2.S (G2.R k) c).2) := hLr.1
                  obtain ⟨KD, hKD⟩ : ∃ KD, KD = (learnP G2.S (G2.P k) c).2 := ⟨_, rfl⟩
                  have HKD : Hid (KD = (learnP G2.S (G2.P k) c).2) := hKD
                  have HLe : Hid (∀ w' x n y, Below wr.heap.size wr w' → CgAt w' c (.slice x n y) (.slice xb1 nb1 pb1) qs1 → Calls Tryz.prog 20 #[ptr (G2.rb k), .agg #[.int .i64 c.k, .int .i64 c.w, .int .u64 c.p, .int .i64 c.l, .slice x n y, .slice xb1 nb1 pb1]] w' fun r w'' => r = .returned (.int .i64 KD) ∧ ∃ o'', WG w0 w'' o'' wb { lrnK G2 c k with P := upd4 (lrnK G2 c k).P k (learnP G2.S (G2.P k) c).1 } sl5 tl5 ∧ Mv [10 + k] w' (newTo o6 wr 0) w'' o'') := fun w' x n y hb hc => by
                    have hw := HW6.out.below hb 0
                    have hr := hw.rings k hk4
                    rw [lrnK_P] at hr
                    have hl := learn20 hr hw.orc HLR.out.2.2 (by omega) (by omega) hc (HV6.out.kb.mv (Mv.of_below (I := []) 0 hb) (by simp)) HPs.out.ol
                    rw [HKD.out]
                    refine hl.mono ?_
                    rintro r w'' ⟨rfl, o'', h1, h2⟩
                    exact ⟨rfl, o'', hw.ringS hk4 h2 h1, h2⟩
                  have HLm : Hid (∀ w' o', WG w0 w' o' wb { lrnK G2 c k with P := upd4 (lrnK G2 c k).P k (learnP G2.S (G2.P k) c).1 } sl5 tl5 → CVar w' o' (w.heap.size + 1) 67 c (.slice xa1 na1 pa1) (.slice xb1 nb1 pb1) qs1 → Calls Tryz.prog 32 #[ptr (G2.mb k), ptr G2.rr, .agg #[.int .i64 c.k, .int .i64 c.w, .int .u64 c.p, .int .i64 c.l, .slice xa1 na1 pa1, .slice xb1 nb1 pb1]] w' fun r w'' => r = .returned (.int .i64 KD) ∧ ∃ o'', WG w0 w'' o'' wb (lrnK G2 c (k + 1)) sl5 tl5 ∧ CVar w'' o'' (w.heap.size + 1) 67 c (.slice xa1 na1 pa1) (.slice xb1 nb1 pb1) qs1 ∧ Mv [20 + k] w' o' w'' o'') := fun w' o' hw hv => by
                    have hr := hw.models k hk4
                    have e1 : (lrnK G2 c k).R k = G2.R k := lrnK_R G2 c k
                    have hr2 : RRIs w' o' (20 + k) (G2.mb k) (G2.R k) := by rw [← e1]; exact hr
                    have hro : ROrc w0 w' o' G2.rr G2.S := by rw [← HLR.out.1]; exact hw.rorc
                    have hl := rlearn32 hr2 hro HLR.out.2.2 (by omega) (by omega) hv.cg hv.kb HPs.out.ql
                    rw [HKD.out, HLr.out]
                    refine hl.mono ?_
                    rintro r w'' ⟨rfl, o'', h1, h2⟩
                    refine ⟨rfl, o'', ?_, hv.mv h2 (by simp; omega), h2⟩
                    have h3 := hw.modelS hk4 h2 h1
                    rw [← lrnK_succ]
                    exact h3
                  have hkd : (KD != KD) = false := by simp
                  have HD : Hid (Blk wr.drew wb 50 (wcs (lrnK G2 c k) sl5 tl5) ∧ Blk wr.drew (w.heap.size + 1) 67 [.int .i64 c.k, .int .i64 c.w, .int .u64 c.p, .int .i64 c.l, .slice xa1 na1 pa1, .slice xb1 nb1 pb1]) := ⟨HW6.out.blk, HV6.out.var⟩
                  clear hR1 hR2 hLr hKD
                  go_upto_region 31 with fail
                  refine wp_region_ord (C := fun w' => ∃ z : WIn (fun w' => Blk w' wb 50 (wcs (lrnK G2 c k) sl5 tl5) ∧ Blk w' (w.heap.size + 1) 67 [.int .i64 c.k, .int .i64 c.w, .int .u64 c.p, .int .i64 c.l, .slice xa1 na1 pa1, .slice xb1 nb1 pb1]), w' = z.w) [(false, 0), (false, 1), (false, 2), (false, 3), (false, 4), (false, 5), (false, 6), (false, 9), (false, 10), (false, 11), (false, 12), (false, 13), (false, 14), (false, 15), (false, 16), (false, 17), (false, 18), (false, 19), (true, 7), (true, 8), (true, 20), (false, 21)] (by kernel_rfl) (by kernel_rfl) ⟨⟨wr.drew, HD.out⟩, rfl⟩ ?_
                  iterate 18 (refine ord_still rfl rfl ?_; go_big_quiet_step (exact rfl); refine wpQuiet_nil ?_)
                  refine ord_mem rfl rfl ?_
                  go_simp
                  refine HOw.out.mono ?_
                  rintro r w2 ⟨x2, n2, y2', rfl, hc2, hb2⟩
                  have hV2 := HV6.out.mv (Mv.of_below (I := []) 0 hb2) (by simp)
                  refine ⟨⟨⟨w2, (HW6.out.below hb2 0).blk, hV2.var⟩, rfl⟩, ?_⟩
                  refine ord_mem rfl rfl ?_
                  go_simp
                  refine (HLe.out w2 x2 n2 y2' hb2 hc2).mono ?_
                  rintro r w3 ⟨rfl, o3', hW3', hM3'⟩
                  have hV3' := hV2.mv hM3' (by simp; omega)
                  refine ⟨⟨⟨w3, hW3'.blk, hV3'.var⟩, rfl⟩, ?_⟩
                  refine ord_mem rfl rfl ?_
                  go_simp
                  refine (HLm.out w3 o3' hW3' hV3').mono ?_
                  rintro r w4 ⟨rfl, o4', hW4', hV4', hM4'⟩
                  refine ⟨⟨⟨w4, hW4'.blk, hV4'.var⟩, rfl⟩, ?_⟩
                  iterate 1 (refine ord_still rfl rfl ?_; go_big_quiet_step (exact rfl); refine wpQuiet_nil ?_)
                  refine ord_end ?_
                  have HMe : Hid (Mv wI w o w4 o4') := (show Mv _ _ _ _ _ from HM6.out.trans ((Mv.of_below (I := wI) 0 hb2).trans ((hM3'.widen (fun i hi => by simp at hi; subst hi; exact wI_r hk4)).trans (hM4'.widen (fun i hi => by simp at hi; subst hi; exact wI_m hk4)))))
                  have HWe : Hid (WG w0 w4 o4' wb (lrnK G2 c (k + 1)) sl5 tl5) := hW4'
                  have HVe : Hid (CVar w4 o4' (w.heap.size + 1) 67 c (.slice xa1 na1 pa1) (.slice xb1 nb1 pb1) qs1) := hV4'
                  clear hW4' hV4' hM4' hW3' hV3' hM3' hV2 hb2 hc2
                  go_wp2
                  go_roundw
                  case rel => exact ⟨k + 1, by go_num, by omega, o4', HWe.out, HVe.out, HMe.out⟩
                  case measure => simp [intOf]; omega
                · obtain rfl : k = 4 := by omega
                  go_wp2
                  go_ret
                  exact ⟨rfl, o6, sl5, tl5, by rw [HDE.out]; exact HW6.out, HM6.out⟩
end Go.Proofs.YtkoeocghoabmbaaGreat
