/-
  The reference's Begin.
-/
import Derived.Test.YtjbpfhnagiacmaaGreatBgn
namespace Go.Proofs.YtjbpfhnagiacmaaGreat
set_option linter.unusedVariables false
set_option linter.unusedSimpArgs false
set_option synthInstance.maxSize 20000
set_option maxHeartbeats 2000000
set_option maxRecDepth 20000
open Go.RowKit Go.Maps
theorem ROrc.reown {w0 w : World} {o : Nat → Nat} {r : Nat} {T : St} (h : ROrc w0 w o r T) {c : Nat} (hc : c ≠ 8) : ROrc w0 w (reown c o) r T := by
  obtain ⟨fr, sb, ha, h1, h2, h3⟩ := h
  exact ⟨fr, sb, ha, fun k hk => by rw [reown_not (by rw [h1 k hk]; exact fun e => hc e.symm)]; exact h1 k hk, fun k hk => reown_zero (h2 k hk), fun k hk => reown_zero (h3 k hk)⟩
theorem KpF.reown {α : Type} {f : α → List Value} {w : World} {o : Nat → Nat} {v : Value} {l : List α} (h : KpF f w o v l) (c : Nat) : KpF f w (reown c o) v l := ⟨h.1, fun hl k hk => ⟨(h.2 hl k hk).1, reown_zero (h.2 hl k hk).2⟩⟩
def RBgPost (w0 w : World) (o : Nat → Nat) (rr : Nat) (B : Bg) (x : Ending) (w' : World) : Prop :=
  ∃ a b, x = .returned (.tuple #[cv B.c a b, .int .u64 B.key, .int .i64 B.k]) ∧ ∃ o' qs, ROrc w0 w' o' rr B.S ∧ CgAt w' B.c a b qs ∧ KpF wq w' o' a qs ∧ (∀ q ∈ qs, Kp0 w' o' q.2 q.1.b) ∧ Kp0 w' o' b B.c.o ∧ Mv [8] w o w' o'
theorem rbg_end {w0 w w5 : World} {o o5 : Nat → Nat} {rr c d rb : Nat} {B : Bg} {u0 u1 u2 u3 u4 u5 a b : Value} {qs : List Wq} (hc : 8 < c) (hd : c < d) (hcn : ∀ k, k < w.heap.size → o k ≠ c) (hdn : ∀ k, k < w.heap.size → o k ≠ d) (hm : Mv [d, c, 8] w o w5 o5) (hO : ROrc w0 w5 o5 rr B.S) (hb : Blk w5 rb 80 [u0, u1, u2, u3, u4, u5]) (hrb : o5 rb = d)
    (ha : w5.ownsRow 0 126 2 a qs.length (flat wq qs)) (hao : ∀ k, a.ownBlock = some k → o5 k = c) (hq : ∀ q ∈ qs, Kp0 w5 o5 q.2 q.1.b) (hI : ∀ q ∈ qs, I64 q.1.w) (hws : qs.map (·.1) = B.c.ws) (hk : Kp0 w5 o5 b B.c.o) (hz : B.c.k = (if B.k = 0 then 3 else 0) ∧ B.c.w = 0 ∧ B.c.p = 0 ∧ B.c.l = 0) :
    RBgPost w0 w o rr B (.returned (.tuple #[cv B.c a b, .int .u64 B.key, .int .i64 B.k])) (put6 w5 rb (.int .i64 B.c.k) (.int .i64 B.c.w) (.int .u64 B.c.p) (.int .i64 B.c.l) a b) := by
  generalize hW : put6 w5 rb (.int .i64 B.c.k) (.int .i64 B.c.w) (.int .u64 B.c.p) (.int .i64 B.c.l) a b = W
  have hg : w5.grownBy W (some rb) := by rw [← hW]; exact put6_grown _ _ _ _ _ _ _ _
  have m6 : Mv [d] w5 o5 W (newTo o5 w5 0) := Mv.of_turn 0 (turn_grown hg) (fun k hk _ => by
    simp at hk
    subst hk
    rw [hrb]; simp)
  have hm7 : Mv [d, c, 8] w o W (newTo o5 w5 0) := hm.trans (m6.widen (by simp))
  have ha6 : W.ownsRow 0 126 2 a qs.length (flat wq qs) := ownsRow_block ha (fun k hk' => m6.block k (ha.lt k hk').2 (by rw [hao k hk']; simp; omega))
  have hao6 : ∀ k, a.ownBlock = some k → newTo o5 w5 0 k = c := fun k hk' => by rw [newTo_old (ha.lt k hk').2]; exact hao k hk'
  have hq6 := fun q hq' => (hq q hq').mv m6 (by simp; omega)
  have hk6 := hk.mv m6 (by simp; omega)
  have hrow : RowF wq W a qs := rowF_own wq_len ha6
  refine ⟨a, b, rfl, reown d (reown c (newTo o5 w5 0)), qs, ((hO.mv m6 (by simp; omega) (by simp; omega)).reown (by omega)).reown (by omega), ⟨hrow, fun q hq' => (hq6 q hq').1, hI, hws, hk6.1, ?_, ?_, ?_, ?_⟩, ⟨hrow, fun hl k hk' => ⟨(ha6.lt k hk').2, reown_zero (reown_at (hao6 k hk'))⟩⟩, fun q hq' => ((hq6 q hq').reown c).reown d, (hk6.reown c).reown d, (((hm7.restrict hdn).restrict hcn).reown hcn).reown hdn⟩
  · rw [hz.1]; unfold I64; split <;> omega
  · rw [hz.2.1]; unfold I64; omega
  · rw [hz.2.2.1]; unfold U64; omega
  · rw [hz.2.2.2]; unfold I64; omega
theorem rbg_none {w0 w w5 : World} {o o5 : Nat → Nat} {rr c d rb : Nat} {B : Bg} {u0 u1 u2 u3 u4 u5 : Value} (hc : 8 < c) (hd : c < d) (hcn : ∀ k, k < w.heap.size → o k ≠ c) (hdn : ∀ k, k < w.heap.size → o k ≠ d) (hm : Mv [d, c, 8] w o w5 o5) (hO : ROrc w0 w5 o5 rr B.S) (hb : Blk w5 rb 80 [u0, u1, u2, u3, u4, u5]) (hrb : o5 rb = d) (hB : B.k ≠ 0) (hkey : B.key = 0) :
    RBgPost w0 w o rr B (.returned (.tuple #[.agg #[.int .i64 0, .int .i64 0, .int .u64 0, .int .i64 0, .slice none 0 0, .slice none 0 0], .int .u64 0, .int .i64 B.k])) (put6 w5 rb (.int .i64 0) (.int .i64 0) (.int .u64 0) (.int .i64 0) (.slice none 0 0) (.slice none 0 0)) := by
  have h := rbg_end (a := .slice none 0 0) (b := .slice none 0 0) (qs := []) hc hd hcn hdn hm hO hb hrb (World.ownsRow_nil _ _ _ _) (fun k hk => by cases hk) (fun q hq => by cases hq) (fun q hq => by cases hq) (by rw [bgc_no hB]; rfl) (by rw [bgc_no hB]; exact kp0_nil _ _) (by rw [bgc_no hB, if_neg hB]; exact ⟨rfl, rfl, rfl, rfl⟩)
  rw [bgc_no hB, hkey] at h
  exact h
theorem rbegin29 {w0 w : World} {o : Nat → Nat} {rr N : Nat} {S : St} (hO : ROrc w0 w o rr S) (hS : Ora S N) {lv : Value} {l : List Mb} {e last : Int} (hv : KpF mc w o lv l) (hN : N + l.length + 5 ≤ 80000) (hll : l.length ≤ 1000) (hmo : ∀ m ∈ l, U64 m.p ∧ I64 m.w) (he : EOk e) (hlast : U64 last) :
    Calls Tryz.prog 27 #[ptr rr, stv lv e, .int .u64 last] w (RBgPost w0 w o rr (beginM S l e last)) := by
  obtain ⟨av, cap, rfl⟩ := hv.1.len
  obtain ⟨c, hc3, hc4, hc5⟩ := fresh_owner w o 8
  obtain ⟨d, hd3, hd4, hd5⟩ := fresh_owner w o c
  have HC : Hid (8 < c ∧ c < d ∧ (∀ k, k < w.heap.size → o k ≠ c) ∧ ∀ k, k < w.heap.size → o k ≠ d) := ⟨hc4, hd4, hc5, hd5⟩
  unfold stv
  obtain ⟨n0, hn0⟩ : ∃ n, n = l.length := ⟨_, rfl⟩
  have hnl : (nowM l).length ≤ l.length := by unfold nowM; exact List.length_filter_le _ _
  rw [← hn0] at hv ⊢
  obtain ⟨w1, hw1⟩ : ∃ w1, w1 = (w.alloc (.cells #[.slice av n0 cap, .int .i64 e] 71)).alloc (.cells #[.int .i64 0, .int .i64 0, .int .u64 0, .int .i64 0, .slice none 0 0, .slice none 0 0] 80) := ⟨_, rfl⟩
  have HW1 : Hid (w1 = (w.alloc (.cells #[.slice av n0 cap, .int .i64 e] 71)).alloc (.cells #[.int .i64 0, .int .i64 0, .int .u64 0, .int .i64 0, .slice none 0 0, .slice none 0 0] 80)) := hw1
  have hb1 : Below w.heap.size w w1 := by rw [hw1]; exact balloc2 _ _ _
  have hY0 : Blk w1 w.heap.size 71 [.slice av n0 cap, .int .i64 e] := by rw [hw1]; exact blkM_0 w _ _ _ _
  have hY1 : Blk w1 (w.heap.size + 1) 80 [.int .i64 0, .int .i64 0, .int .u64 0, .int .i64 0, .slice none 0 0, .slice none 0 0] := by rw [hw1]; exact blkM_1 w _ _ _ _
  obtain ⟨o1, ho1⟩ : ∃ o1, o1 = newBy o w (fun k => if k = w.heap.size + 1 then d else 0) := ⟨_, rfl⟩
  have hM1 : Mv [d, c, 8] w o w1 o1 := by rw [ho1]; exact Mv.of_turn' (ft := []) _ (Turn.of_below hb1) (fun k hk => by cases hk)
  have hM1' : Mv [] w o w1 o1 := by rw [ho1]; exact Mv.of_turn' (ft := []) _ (Turn.of_below hb1) (fun k hk => by cases hk)
  have hoc : o1 (w.heap.size + 1) = d := by rw [ho1, newBy_new (by omega)]; exact if_pos rfl
  have ho0 : o1 w.heap.size = 0 := by rw [ho1, newBy_new (Nat.le_refl _)]; exact if_neg (by omega)
  have hO1 : ROrc w0 w1 o1 rr S := hO.mv hM1' (by simp) (by simp)
  have hv1 : KpF mc w1 o1 (.slice av n0 cap) l := hv.mv hM1' (by simp)
  have HKey := rorc_key hO1 hS (by omega)
  have HNow : Hid (∀ w2 o2, Mv [d, c, 8] w1 o1 w2 o2 → Calls Tryz.prog 58 #[.agg #[.slice av n0 cap, .int .i64 e]] w2 fun r w' => ∃ v', r = .returned v' ∧ KpF mc w' (newTo o2 w2 0) v' (nowM l) ∧ Below w2.heap.size w2 w') := fun w2 o2 m2 => by
    refine (rnow20f (hv1.mv m2 (by simp; omega)).1 (by omega) e).mono ?_
    rintro r w' ⟨v', rfl, h1, h2, h3⟩
    exact ⟨v', rfl, KpF.of_new mc_pos h1 h2, h3⟩
  have HKE := hS.key (by omega)
  have HORA : Hid (∀ k S1 qs1, k ≤ (nowM l).length → wrapF S.fresh ((nowM l).take k) (S.put .key) = (S1, qs1, 0) → Ora S1 (N + 1 + k)) := fun k S1 qs1 hk h => by
    have h1 := (wrapF_ora (key := S.fresh) ((nowM l).take k) HKE (by rw [List.length_take]; omega)).1
    rw [h] at h1
    exact h1.le (by rw [List.length_take]; omega)
  have hwr := wrapF_ora (key := S.fresh) (nowM l) HKE (by omega)
  have HFK : Hid ((wrapF S.fresh (nowM l) (S.put .key)).1.at S.fresh = some .key ∧ Ora (wrapF S.fresh (nowM l) (S.put .key)).1 (N + 1 + (nowM l).length)) := ⟨hwr.2 _ _ (put_key_at hS (by omega)), hwr.1⟩
  have HIw : Hid (∀ qs : List Wq, qs.map (·.1) = (wrapF S.fresh (nowM l) (S.put .key)).2.1 → ∀ q ∈ qs, I64 q.1.w) := fun qs hq q hm => by
    obtain ⟨m, h1, h2⟩ := wrapF_who (key := S.fresh) (nowM l) (S.put .key) q.1 (by rw [← hq]; exact List.mem_map.2 ⟨q, hm, rfl⟩)
    rw [h2]
    exact (hmo m (List.mem_filter.1 h1).1).2
  obtain ⟨B, hB⟩ : ∃ B, B = beginM S l e last := ⟨_, rfl⟩
  rw [← hB]
  unfold beginM at hB
  have HY1 : Hid (Blk w1 (w.heap.size + 1) 80 [.int .i64 0, .int .i64 0, .int .u64 0, .int .i64 0, .slice none 0 0, .slice none 0 0]) := hY1
  have HY0 : Hid (Blk w1 w.heap.size 71 [.slice av n0 cap, .int .i64 e]) := hY0
  have HM1 : Hid (Mv [d, c, 8] w o w1 o1) := hM1
  have HOC : Hid (o1 (w.heap.size + 1) = d ∧ o1 w.heap.size = 0) := ⟨hoc, ho0⟩
  have HNN : Hid (N + l.length + 5 ≤ 80000 ∧ l.length ≤ 1000 ∧ (nowM l).length ≤ l.length ∧ EOk e ∧ U64 last) := ⟨hN, hll, hnl, he, hlast⟩
  have HBF : Hid (B = beginM S l e last) := hB
  have z0 := hY0.cell 0 _ rfl; have z1 := hY0.cell 1 _ rfl
  clear hO hS hv hmo he hlast hn0 hw1 hb1 hY0 hY1 ho1 hM1 hM1' hoc ho0 hO1 hv1 hwr hc3 hc4 hc5 hd3 hd4 hd5 HKE HBF hN hll hnl
  generalize S.put .key = S1 at *
  generalize S.fresh = key at *
  generalize nowM l = now at *
  -- the blocks of the call's own, behind steps that don't write them
  have HSt : Hid (∀ w2 o2, Mv [c, 8] w1 o1 w2 o2 → Blk w2 (w.heap.size + 1) 80 [.int .i64 0, .int .i64 0, .int .u64 0, .int .i64 0, .slice none 0 0, .slice none 0 0] ∧ Blk w2 w.heap.size 71 [.slice av n0 cap, .int .i64 e] ∧ o2 (w.heap.size + 1) = d) := fun w2 o2 m => by
    have hc := HOC.out
    have hC := HC.out
    exact ⟨HY1.out.block (m.block _ HY1.out.lt (by rw [hc.1]; simp; omega)), HY0.out.block (m.block _ HY0.out.lt (by rw [hc.2]; simp; omega)), by rw [m.ext _ HY1.out.lt]; exact hc.1⟩
  go_enter Tryz.func27, Tryz.ntmps27
  go_upto_region 1 with fail
  rw [← HW1.out]
  go_upto_region 2 with (go_at_call 57; go_must (refine HKey.mono ?_; rintro r w2 ⟨rfl, o2, hO2, hM2⟩; obtain ⟨y1, y0, y2⟩ := HSt.out w2 o2 (hM2.widen (by simp)); have HO2 : Hid (ROrc w0 w2 o2 rr S1) := hO2; have HM2 : Hid (Mv [8] w1 o1 w2 o2) := hM2; have HY2 : Hid (Blk w2 (w.heap.size + 1) 80 [.int .i64 0, .int .i64 0, .int .u64 0, .int .i64 0, .slice none 0 0, .slice none 0 0]) := y1; have HZ2 : Hid (Blk w2 w.heap.size 71 [.slice av n0 cap, .int .i64 e]) := y0; have HD2 : Hid (o2 (w.heap.size + 1) = d) := y2; clear hO2 hM2 y1 y0 y2))
  obtain ⟨w3, hw3⟩ : ∃ w3, w3 = w2.alloc (.cells #[.int .i64 3, .int .i64 0, .int .u64 0, .int .i64 0, .slice none 0 0, .slice none 0 0] 80) := ⟨_, rfl⟩
  have HW3 : Hid (w3 = w2.alloc (.cells #[.int .i64 3, .int .i64 0, .int .u64 0, .int .i64 0, .slice none 0 0, .slice none 0 0] 80)) := hw3
  obtain ⟨cb, hcb⟩ : ∃ cb, cb = w2.heap.size := ⟨_, rfl⟩
  have HCB : Hid (cb = w2.heap.size) := hcb
  have hb3 : Below w2.heap.size w2 w3 := by rw [hw3]; exact balloc (Below.refl _ _) _
  have hX3 : Blk w3 cb 80 [.int .i64 3, .int .i64 0, .int .u64 0, .int .i64 0, .slice none 0 0, .slice none 0 0] := by rw [hw3, hcb]; exact blk_new w2 _ 80
  have HM3 : Hid (Mv [8] w1 o1 w3 (newTo o2 w2 d)) := (show Mv _ _ _ _ _ from HM2.out.trans (Mv.of_below d hb3))
  have HX3 : Hid (Blk w3 cb 80 [.int .i64 3, .int .i64 0, .int .u64 0, .int .i64 0, .slice none 0 0, .slice none 0 0]) := hX3
  have HOc3 : Hid (newTo o2 w2 d cb = d) := (show _ = _ by rw [hcb]; exact newTo_new (Nat.le_refl _))
  have HO3 : Hid (ROrc w0 w3 (newTo o2 w2 d) rr S1) := (show ROrc _ _ _ _ _ from HO2.out.mv (Mv.of_below (I := []) d hb3) (by simp) (by simp))
  have HCN : Hid (cb ≠ w.heap.size + 1 ∧ cb ≠ w.heap.size) := (by have := HY2.out.lt; have := HZ2.out.lt; rw [hcb]; exact ⟨by omega, by omega⟩)
  generalize newTo o2 w2 d = o3 at *
  go_upto_region 3 with fail
  rw [← HW3.out, ← HCB.out]
  clear hw3 hcb hb3 hX3 HW3 HCB HO2 HM2 HY2 HZ2 HD2
  obtain ⟨y1, y0, y2⟩ := HSt.out w3 o3 (HM3.out.widen (by simp))
  have q0 := y0.cell 0 _ rfl; have q1 := y0.cell 1 _ rfl
  clear y1 y2 y0
  go_upto_region 4 with (go_at_call 58; go_must (refine (HNow.out w3 o3 (HM3.out.widen (by simp))).mono ?_; rintro r w4 ⟨v4, rfl, hK4, hb4⟩; obtain ⟨a4, c4, hv4⟩ := hK4.1.len; subst hv4; have HO4 : Hid (ROrc w0 w4 (newTo o3 w3 0) rr S1) := (show ROrc _ _ _ _ _ from HO3.out.below hb4); have HK4 : Hid (KpF mc w4 (newTo o3 w3 0) (.slice a4 now.length c4) now) := hK4; have HM4 : Hid (Mv [8] w1 o1 w4 (newTo o3 w3 0)) := (show Mv _ _ _ _ _ from HM3.out.trans (Mv.of_below 0 hb4)); have HX4 : Hid (Blk w4 cb 80 [.int .i64 3, .int .i64 0, .int .u64 0, .int .i64 0, .slice none 0 0, .slice none 0 0]) := HX3.out.below hb4; have HC4 : Hid (newTo o3 w3 0 cb = d) := (show _ = _ by rw [newTo_old HX3.out.lt]; exact HOc3.out); clear hK4 hb4))
  generalize newTo o3 w3 0 = o4 at *
  clear q0 q1 z0 z1 HX3 HO3 HOc3 HM3 HNow HKey
  obtain ⟨y1, y0, y2⟩ := HSt.out w4 o4 (HM4.out.widen (by simp))
  by_cases hnw : now = []
  · rw [if_pos hnw] at hB
    have HB : Hid (B = ⟨10, 0, [], [], S1⟩) := hB
    have HY : Hid (Blk w4 (w.heap.size + 1) 80 [.int .i64 0, .int .i64 0, .int .u64 0, .int .i64 0, .slice none 0 0, .slice none 0 0]) := y1
    have HD4 : Hid (o4 (w.heap.size + 1) = d) := y2
    subst hnw
    have j0 := y1.cell 0 _ rfl; have i0 := y1.frozen 0; have j1 := y1.cell 1 _ rfl; have i1 := y1.frozen 1; have j2 := y1.cell 2 _ rfl; have i2 := y1.frozen 2; have j3 := y1.cell 3 _ rfl; have i3 := y1.frozen 3; have j4 := y1.cell 4 _ rfl; have i4 := y1.frozen 4; have j5 := y1.cell 5 _ rfl; have i5 := y1.frozen 5
    clear hB y1 y0 y2
    go_wp2
    refine bodyPost_ret (v := .tuple #[.agg #[.int .i64 0, .int .i64 0, .int .u64 0, .int .i64 0, .slice none 0 0, .slice none 0 0], .int .u64 0, .int .i64 10]) ?_ rfl ?_
    · rw [results_cell_tmp2 rfl]
      go_simp
    · have hC := HC.out
      have hf := rbg_none (B := B) hC.1 hC.2.1 hC.2.2.1 hC.2.2.2 (HM1.out.trans (HM4.out.widen (by simp))) (by rw [HB.out]; exact HO4.out) HY.out HD4.out (by rw [HB.out]; show (10 : Int) ≠ 0; omega) (by rw [HB.out])
      rw [HB.out] at hf ⊢
      exact hf
  · rw [if_neg hnw] at hB
    have hnn : 0 < now.length := by
      cases now with
      | nil => exact absurd rfl hnw
      | cons x l => simp
    have hcaps := HK4.out.1.caps
    have hcc1 : now.length ≤ c4 := hcaps.2.1
    have hcc2 : c4 ≤ 9223372036854775807 := hcaps.2.2
    obtain ⟨n, hn⟩ : ∃ n, n = now.length := ⟨_, rfl⟩
    have HN : Hid (n = now.length) := hn
    have HK : Hid (KpF mc w4 o4 (.slice a4 n c4) now) := (by rw [hn]; exact HK4.out)
    have hnz : ((n : Int) == 0) = false := by simp; omega
    have HBW : Hid (B = if (wrapF key now S1).2.2 = 0 then ⟨0, key, (wrapF key now S1).2.1, (oldM (wrapF key now S1).1 key e last).1, (oldM (wrapF key now S1).1 key e last).2⟩ else ⟨(wrapF key now S1).2.2, 0, [], [], (wrapF key now S1).1⟩) := hB
    rw [← hn] at hcc1 hnn ⊢
    clear hcaps hB hn hnw HK4 y1 y0 y2
    go_wp2
    go_loopw [12] (fun i wr => ∃ (k : Nat), i = .int .i64 k ∧ k ≤ n ∧ ∃ (o5 : Nat → Nat) (qs5 : List Wq) (S5 : St) (vo : Value), Hid (ROrc w0 wr o5 rr S5) ∧ Hid (wrapF key (now.take k) S1 = (S5, qs5.map (·.1), 0)) ∧ Hid (Mv [d, c, 8] w4 o4 wr o5) ∧ Hid (wr.ownsRow 0 126 2 vo qs5.length (flat wq qs5)) ∧ Hid (∀ j, vo.ownBlock = some j → o5 j = c) ∧ Hid (∀ q ∈ qs5, Kp0 wr o5 q.2 q.1.b) ∧ Hid (qs5.length = k) ∧ Hid (Blk wr cb 80 [.int .i64 3, .int .i64 0, .int .u64 0, .int .i64 0, vo, .slice none 0 0]) ∧ Hid (Blk wr (w.heap.size + 1) 80 [.int .i64 0, .int .i64 0, .int .u64 0, .int .i64 0, .slice none 0 0, .slice none 0 0])) (fun i _ => n - (intOf i).toNat)
    case atStart => exact ⟨0, rfl, by omega, o4, [], S1, _, HO4.out, (by rw [List.take_zero]; rfl), Mv.refl _ _ _, World.ownsRow_nil _ _ _ _, (fun j hj => by cases hj), (fun q hq => by cases hq), rfl, HX4.out, (HSt.out w4 o4 (HM4.out.widen (by simp))).1⟩
    case round =>
      obtain ⟨k, rfl, hk, o5, qs5, S5, vo, HO5, HW5, HM5, HR5, HRo, HKq, HQL, HX5, HZ5⟩ := hrel
      by_cases hki : k < n
      · obtain ⟨m, hm⟩ : ∃ m, now[k]? = some m := ⟨_, List.getElem?_eq_getElem (by have := HN.out; omega)⟩
        obtain ⟨ht1, ht2⟩ := wrapF_take hm HW5.out
        have HT1 : Hid ((S5.wrap m.p key).1.2 = 0 → wrapF key (now.take (k + 1)) S1 = ((S5.wrap m.p key).2, qs5.map (·.1) ++ [⟨m.w, (S5.wrap m.p key).1.1⟩], 0)) := ht1
        have HT2 : Hid ((S5.wrap m.p key).1.2 ≠ 0 → wrapF key now S1 = ((S5.wrap m.p key).2, [], (S5.wrap m.p key).1.2)) := ht2
        have hv5 := HK.out.mv HM5.out (by simp; have := HC.out; omega)
        obtain ⟨b, off, ea, hc⟩ := hv5.1.at mc_len hm
        subst ea
        have hora : Ora S5 (N + 1 + k) := HORA.out k S5 _ (by have := HN.out; omega) HW5.out
        obtain ⟨av2, cp2, hvo, hcp1, hcp2⟩ := slice_of_own HR5.out
        have hqk := HQL.out
        rw [hqk] at hvo hcp1
        subst hvo
        rw [hqk] at HR5
        obtain ⟨x0, x1, x2, x3, x4⟩ := m
        have HMm : Hid (now[k]? = some ⟨x0, x1, x2, x3, x4⟩) := hm
        dsimp only at HT1 HT2
        have c0 := hc 0 _ rfl; have c1 := hc 1 _ rfl
        simp only [Nat.add_zero] at c0
        have HWr := rorc_wrap HO5.out hora (by have := HNN.out; have := HN.out; omega) x1 key
        generalize hWW : S5.wrap x1 key = WW at *
        obtain ⟨⟨wb, wk⟩, S6⟩ := WW
        dsimp only at HT1 HT2 HWr
        have HKB : Hid (∀ w' o', Mv [8] wr o5 w' o' → w'.cell? ⟨b, off + k * 5, none⟩ = some (.int .i64 x0)) := fun w' o' m' => by
          obtain ⟨b', off', ea', hc'⟩ := (hv5.mv m' (by simp)).1.at mc_len hm
          cases ea'
          have := hc' 0 _ rfl
          simpa using this
        clear hm ht1 ht2 hv5 hc hora hqk hWW HO5 HW5
        by_cases hwk : wk = 0
        · subst hwk
          go_upto_region 12 with (go_at_call 59; go_must (refine HWr.mono ?_; rintro r w6 ⟨v6, rfl, o6, hO6, hK6, hM6⟩; obtain ⟨a6, c6, hv6⟩ := hK6.1.len; subst hv6))
          have hC := HC.out
          have hdb : o5 cb = d := by rw [HM5.out.ext _ HX4.out.lt]; exact HC4.out
          have hX6 : Blk w6 cb 80 [.int .i64 3, .int .i64 0, .int .u64 0, .int .i64 0, .slice av2 k cp2, .slice none 0 0] := HX5.out.block (hM6.block _ HX5.out.lt (by rw [hdb]; simp; omega))
          have hZd : o4 (w.heap.size + 1) = d := (HSt.out w4 o4 (HM4.out.widen (by simp))).2.2
          have hzdl : w.heap.size + 1 < w4.heap.size := (HSt.out w4 o4 (HM4.out.widen (by simp))).1.lt
          have hZ6 : Blk w6 (w.heap.size + 1) 80 [.int .i64 0, .int .i64 0, .int .u64 0, .int .i64 0, .slice none 0 0, .slice none 0 0] := HZ5.out.block (hM6.block _ HZ5.out.lt (by rw [HM5.out.ext _ hzdl, hZd]; simp; omega))
          have hR6 : w6.ownsRow 0 126 2 (.slice av2 k cp2) k (flat wq qs5) := ownsRow_block HR5.out (fun jj hjj => hM6.block jj (HR5.out.lt jj hjj).2 (by rw [HRo.out jj hjj]; simp; omega))
          have hRo6 : ∀ jj, (Value.slice av2 k cp2).ownBlock = some jj → o6 jj = c := fun jj hjj => by rw [hM6.ext jj (HR5.out.lt jj hjj).2]; exact HRo.out jj hjj
          have hd6 : o6 cb = d := by rw [hM6.ext _ HX5.out.lt]; exact hdb
          have hdz6 : o6 (w.heap.size + 1) = d := by rw [hM6.ext _ HZ5.out.lt, HM5.out.ext _ hzdl]; exact hZd
          have g0 := HKB.out w6 o6 hM6
          have y4 : ∀ z : WIn (fun w' => Blk w' cb 80 [.int .i64 3, .int .i64 0, .int .u64 0, .int .i64 0, .slice av2 k cp2, .slice none 0 0] ∧ w'.cell? ⟨b, off + k * 5, none⟩ = some (.int .i64 x0)), z.w.cell? ⟨cb, 4, none⟩ = some (.slice av2 k cp2) := fun z => z.ok.1.cell 4 _ rfl
          have y5 : ∀ z : WIn (fun w' => Blk w' cb 80 [.int .i64 3, .int .i64 0, .int .u64 0, .int .i64 0, .slice av2 k cp2, .slice none 0 0] ∧ w'.cell? ⟨b, off + k * 5, none⟩ = some (.int .i64 x0)), z.w.cell? ⟨b, off + k * 5, none⟩ = some (.int .i64 x0) := fun z => z.ok.2
          have ne : Nonempty (WIn (fun w' => Blk w' cb 80 [.int .i64 3, .int .i64 0, .int .u64 0, .int .i64 0, .slice av2 k cp2, .slice none 0 0] ∧ w'.cell? ⟨b, off + k * 5, none⟩ = some (.int .i64 x0))) := ⟨⟨w6, hX6, g0⟩⟩
          have HXd : Hid (Blk w6.drew cb 80 [.int .i64 3, .int .i64 0, .int .u64 0, .int .i64 0, .slice av2 k cp2, .slice none 0 0] ∧ w6.drew.cell? ⟨b, off + k * 5, none⟩ = some (.int .i64 x0)) := ⟨hX6, g0⟩
          have HRd : Hid (w6.drew.ownsRow 0 126 2 (.slice av2 k cp2) k (flat wq qs5)) := hR6
          have HZd : Hid (Blk w6.drew (w.heap.size + 1) 80 [.int .i64 0, .int .i64 0, .int .u64 0, .int .i64 0, .slice none 0 0, .slice none 0 0]) := hZ6
          have hmd : Mv [8] wr o5 w6.drew o6 := ⟨hM6.os, hM6.tape, hM6.output, hM6.size, hM6.ext, hM6.block⟩
          have HMd : Hid (Mv [8] wr o5 w6.drew o6) := hmd
          have HOd : Hid (ROrc w0 w6.drew o6 rr S6) := (show ROrc _ _ _ _ _ from hO6.mv (I := []) ⟨rfl, rfl, rfl, Nat.le_refl _, fun _ _ => rfl, fun _ _ _ => rfl⟩ (by simp) (by simp))
          have HKd : Hid (Kp0 w6.drew o6 (.slice a6 wb.length c6) wb) := (show Kp0 _ _ _ _ from ⟨hK6.1.drew, hK6.2⟩)
          have HRo6 : Hid (∀ jj, (Value.slice av2 k cp2).ownBlock = some jj → o6 jj = c) := hRo6
          have HD6 : Hid (o6 cb = d ∧ o6 (w.heap.size + 1) = d) := ⟨hd6, hdz6⟩
          refine wp_region_treeZ (C := fun w' => ∃ z : WIn (fun w' => Blk w' cb 80 [.int .i64 3, .int .i64 0, .int .u64 0, .int .i64 0, .slice av2 k cp2, .slice none 0 0] ∧ w'.cell? ⟨b, off + k * 5, none⟩ = some (.int .i64 x0)), w' = z.w) 12 (.still 0 (.still 1 (.still 2 (.still 3 (.still 4 (.still 5 (.still 6 (.still 7 (.still 8 (.one 9 (.one 10 (.still 11 .done)))))))))))) rfl (by kernel_rfl) (by kernel_rfl) ⟨⟨w6.drew, HXd.out⟩, rfl⟩ ?_
          clear hX6 hZ6 hR6 hRo6 hd6 hdz6 g0 hmd hO6 hK6 hM6 hdb hZd hzdl
          generalize w6.drew = w7 at *
          iterate 9 (refine tree_still rfl rfl ?_; go_big_quiet_step (fail); refine wpQuiet_nil ?_)
          refine tree_one rfl rfl ?_
          go_simp
          have HR7 : Hid ((w7.alloc (.cells #[.int .i64 x0, .slice a6 wb.length c6] 126)).ownsRow 0 126 2 (.slice av2 k cp2) qs5.length (flat wq qs5)) := (by rw [HQL.out]; exact HRd.out.alloc _)
          have HRn : Hid (RowF wq (w7.alloc (.cells #[.int .i64 x0, .slice a6 wb.length c6] 126)) (.slice (some ⟨w7.heap.size, 0, none⟩) 1 1) [((⟨x0, wb⟩ : Wp), (Value.slice a6 wb.length c6))]) := rowF_one w7 ((⟨x0, wb⟩ : Wp), (Value.slice a6 wb.length c6)) 126
          have HL7 : Hid ((qs5 ++ [((⟨x0, wb⟩ : Wp), (Value.slice a6 wb.length c6))]).length = k + 1) := (show _ = _ by rw [List.length_append, HQL.out]; rfl)
          have hal := (balloc (Below.refl w7.heap.size w7) (.cells #[.int .i64 x0, .slice a6 wb.length c6] 126))
          refine ⟨⟨⟨_, HXd.out.1.alloc _, (hal.cell (World.block_lt_of_cell? w7 _ HXd.out.2)).trans HXd.out.2⟩, rfl⟩, ?_⟩
          go_simp
          refine tree_one rfl rfl ?_
          refine wp_of_list rfl ?_
          refine wpList_append_rows ty40 wq_len (by omega) rfl (.tmp 46) (.tmp 54) rfl _ qs5 rfl HR7.out _ [((⟨x0, wb⟩ : Wp), (Value.slice a6 wb.length c6))] rfl HRn.out (flat_one fun q hq u hu => by simp at hq; subst hq; simp [wq] at hu; rcases hu with rfl | rfl <;> rfl) (by have := HNN.out; have := HN.out; have := HQL.out; simp; omega) ?_
          intro v8 w8 hr8 hg8 hn8
          obtain ⟨o8, m8, r8⟩ := grow_owner HRd.out HRo6.out hg8 hn8
          have hC2 := HC.out
          have hX8 : Blk w8 cb 80 [.int .i64 3, .int .i64 0, .int .u64 0, .int .i64 0, .slice av2 k cp2, .slice none 0 0] := HXd.out.1.block (m8.block _ HXd.out.1.lt (by rw [HD6.out.1]; simp; omega))
          have hZ8 : Blk w8 (w.heap.size + 1) 80 [.int .i64 0, .int .i64 0, .int .u64 0, .int .i64 0, .slice none 0 0, .slice none 0 0] := HZd.out.block (m8.block _ HZd.out.lt (by rw [HD6.out.2]; simp; omega))
          have hg0 : w8.cell? ⟨b, off + k * 5, none⟩ = some (.int .i64 x0) := by
            obtain ⟨b', off', ea', hc'⟩ := (((HK.out.mv HM5.out (by simp; omega)).mv HMd.out (by simp)).mv m8 (by simp; omega)).1.at mc_len (i := k) (x := ⟨x0, x1, x2, x3, x4⟩) HMm.out
            cases ea'
            have := hc' 0 _ rfl
            simpa using this
          obtain ⟨a8, q8, hv8, hq8⟩ := slice_of_own hr8
          rw [HL7.out] at hv8
          subst hv8
          have l4 := hX8.cell 4 _ rfl
          have l5 := hX8.frozen 4
          -- the store into the change
          have hg9 := grown_setCell w8 cb 4 (.slice a8 (k + 1) q8)
          have hd8 : o8 cb = d ∧ o8 (w.heap.size + 1) = d := ⟨by rw [m8.ext _ HXd.out.1.lt]; exact HD6.out.1, by rw [m8.ext _ HZd.out.lt]; exact HD6.out.2⟩
          have m9 : Mv [d] w8 o8 (w8.setCell ⟨cb, 4, none⟩ (.slice a8 (k + 1) q8)) (newTo o8 w8 0) := Mv.of_turn 0 (turn_grown hg9) (fun kk hkk _ => by
            simp at hkk
            subst hkk
            rw [hd8.1]; simp)
          have HO9 : Hid (ROrc w0 (w8.setCell ⟨cb, 4, none⟩ (.slice a8 (k + 1) q8)) (newTo o8 w8 0) rr S6) := (show ROrc _ _ _ _ _ from (HOd.out.mv m8 (by simp; omega) (by simp; omega)).mv m9 (by simp; omega) (by simp; omega))
          have HM9 : Hid (Mv [d, c, 8] w4 o4 (w8.setCell ⟨cb, 4, none⟩ (.slice a8 (k + 1) q8)) (newTo o8 w8 0)) := (show Mv _ _ _ _ _ from HM5.out.trans ((HMd.out.widen (by simp)).trans ((m8.widen (by simp)).trans (m9.widen (by simp)))))
          have HR9 : Hid ((w8.setCell ⟨cb, 4, none⟩ (.slice a8 (k + 1) q8)).ownsRow 0 126 2 (.slice a8 (k + 1) q8) (qs5 ++ [((⟨x0, wb⟩ : Wp), (Value.slice a6 wb.length c6))]).length (flat wq (qs5 ++ [((⟨x0, wb⟩ : Wp), (Value.slice a6 wb.length c6))]))) := ownsRow_block hr8 (fun jj hjj => m9.block jj (hr8.lt jj hjj).2 (by rw [r8 jj hjj]; simp; omega))
          have HRo9 : Hid (∀ jj, (Value.slice a8 (k + 1) q8).ownBlock = some jj → newTo o8 w8 0 jj = c) := fun jj hjj => by rw [newTo_old (hr8.lt jj hjj).2]; exact r8 jj hjj
          have HKq9 : Hid (∀ q ∈ qs5 ++ [((⟨x0, wb⟩ : Wp), (Value.slice a6 wb.length c6))], Kp0 (w8.setCell ⟨cb, 4, none⟩ (.slice a8 (k + 1) q8)) (newTo o8 w8 0) q.2 q.1.b) := fun q hq => by
            rcases List.mem_append.1 hq with e | e
            · exact (((HKq.out q e).mv HMd.out (by simp)).mv m8 (by simp; omega)).mv m9 (by simp; omega)
            · simp at e
              subst e
              exact (HKd.out.mv m8 (by simp; omega)).mv m9 (by simp; omega)
          have HX9 : Hid (Blk (w8.setCell ⟨cb, 4, none⟩ (.slice a8 (k + 1) q8)) cb 80 [.int .i64 3, .int .i64 0, .int .u64 0, .int .i64 0, .slice a8 (k + 1) q8, .slice none 0 0]) := hX8.set 4 _
          have HZ9 : Hid (Blk (w8.setCell ⟨cb, 4, none⟩ (.slice a8 (k + 1) q8)) (w.heap.size + 1) 80 [.int .i64 0, .int .i64 0, .int .u64 0, .int .i64 0, .slice none 0 0, .slice none 0 0]) := (show Blk _ _ _ _ from hZ8.past hg9 (fun ee => HCN.out.1 ee.symm))
          clear hr8 hg8 hn8 m8 r8 hZ8 hq8 m9 hg9 hd8 hal
          refine ⟨rfl, ⟨⟨_, hX8, hg0⟩, rfl⟩, ?_⟩
          go_simp
          iterate 1 (refine tree_still rfl rfl ?_; go_big_quiet_step (fail); refine wpQuiet_nil ?_)
          refine tree_done ?_
          refine ⟨rfl, ?_⟩
          go_simp
          generalize w8.setCell ⟨cb, 4, none⟩ (.slice a8 (k + 1) q8) = w9 at *
          go_wp2
          go_roundw
          case rel =>
            refine ⟨k + 1, by go_num, by omega, _, _, S6, _, HO9.out, ?_, HM9.out, HR9.out, HRo9.out, HKq9.out, HL7.out, HX9.out, HZ9.out⟩
            show wrapF _ _ _ = _
            rw [HT1.out (by first | rfl | trivial), List.map_append]
            rfl
          case measure => simp [intOf]; omega
        · have hwk2 : (wk != 0) = true := by simpa using hwk
          have HE : Hid (B = ⟨wk, 0, [], [], S6⟩) := (show _ = _ by rw [HBW.out, HT2.out hwk]; dsimp only; rw [if_neg hwk])
          have HKD : Hid (wk ≠ 0) := hwk
          have HZf : Hid (∀ w' o', Mv [8] wr o5 w' o' → Blk w' (w.heap.size + 1) 80 [.int .i64 0, .int .i64 0, .int .u64 0, .int .i64 0, .slice none 0 0, .slice none 0 0] ∧ o' (w.heap.size + 1) = d) := fun w' o' m' => by
            have hC := HC.out
            have hZd : o4 (w.heap.size + 1) = d := (HSt.out w4 o4 (HM4.out.widen (by simp))).2.2
            have hzdl : w.heap.size + 1 < w4.heap.size := (HSt.out w4 o4 (HM4.out.widen (by simp))).1.lt
            exact ⟨HZ5.out.block (m'.block _ HZ5.out.lt (by rw [HM5.out.ext _ hzdl, hZd]; simp; omega)), by rw [m'.ext _ HZ5.out.lt, HM5.out.ext _ hzdl]; exact hZd⟩
          clear hwk HT1 HT2
          go_wp2_with (go_at_call 59; go_must (refine HWr.mono ?_; rintro r w6 ⟨v6, rfl, o6, hO6, hK6, hM6⟩; obtain ⟨a6, c6, hv6⟩ := hK6.1.len; subst hv6; obtain ⟨y1, y2⟩ := HZf.out w6 o6 hM6; have j0 := y1.cell 0 _ rfl; have i0 := y1.frozen 0; have j1 := y1.cell 1 _ rfl; have i1 := y1.frozen 1; have j2 := y1.cell 2 _ rfl; have i2 := y1.frozen 2; have j3 := y1.cell 3 _ rfl; have i3 := y1.frozen 3; have j4 := y1.cell 4 _ rfl; have i4 := y1.frozen 4; have j5 := y1.cell 5 _ rfl; have i5 := y1.frozen 5; have HY6 : Hid (Blk w6 (w.heap.size + 1) 80 [.int .i64 0, .int .i64 0, .int .u64 0, .int .i64 0, .slice none 0 0, .slice none 0 0]) := y1; have HD6 : Hid (o6 (w.heap.size + 1) = d) := y2; have HO6 : Hid (ROrc w0 w6 o6 rr S6) := hO6; have HM6 : Hid (Mv [8] wr o5 w6 o6) := hM6; clear hO6 hK6 hM6 y1 y2))
          refine bodyPost_ret (v := .tuple #[.agg #[.int .i64 0, .int .i64 0, .int .u64 0, .int .i64 0, .slice none 0 0, .slice none 0 0], .int .u64 0, .int .i64 wk]) ?_ rfl ?_
          · rw [results_cell_tmp2 rfl]
            go_simp
          · have hC := HC.out
            have hf := rbg_none (B := B) hC.1 hC.2.1 hC.2.2.1 hC.2.2.2 (HM1.out.trans ((HM4.out.widen (by simp)).trans (HM5.out.trans (HM6.out.widen (by simp))))) (by rw [HE.out]; exact HO6.out) HY6.out HD6.out (by rw [HE.out]; exact HKD.out) (by rw [HE.out])
            rw [HE.out] at hf ⊢
            exact hf
      · have hkn : n = k := by omega
        subst hkn
        have htk : now.take n = now := List.take_of_length_le (by have := HN.out; omega)
        have hw := HW5.out
        rw [htk] at hw
        have HB : Hid (B = ⟨0, key, qs5.map (·.1), (oldM S5 key e last).1, (oldM S5 key e last).2⟩) := (show _ = _ by rw [HBW.out, hw, if_pos rfl])
        have HQI : Hid (∀ q ∈ qs5, I64 q.1.w) := HIw.out qs5 (by rw [hw])
        have hfk := HFK.out
        rw [hw] at hfk
        have HFK5 : Hid (S5.at key = some .key ∧ Ora S5 (N + 1 + now.length)) := hfk
        obtain ⟨av2, cp2, hvo, hcp1, hcp2⟩ := slice_of_own HR5.out
        have hqk := HQL.out
        rw [hqk] at hvo hcp1
        subst hvo
        have hC := HC.out
        have hZd : o4 (w.heap.size + 1) = d := (HSt.out w4 o4 (HM4.out.widen (by simp))).2.2
        have hzdl : w.heap.size + 1 < w4.heap.size := (HSt.out w4 o4 (HM4.out.widen (by simp))).1.lt
        have hzl0 : w.heap.size < w4.heap.size := by omega
        have hz0 : o4 w.heap.size = 0 := by rw [(HM4.out).ext _ HY0.out.lt]; exact HOC.out.2
        have HZ0 : Hid (Blk wr w.heap.size 71 [.slice av n0 cap, .int .i64 e]) := (show Blk _ _ _ _ from (HSt.out w4 o4 (HM4.out.widen (by simp))).2.1.block (HM5.out.block _ hzl0 (by rw [hz0]; simp; omega)))
        have HDr : Hid (o5 (w.heap.size + 1) = d ∧ o5 cb = d ∧ o5 w.heap.size = 0) := ⟨by rw [HM5.out.ext _ hzdl]; exact hZd, by rw [HM5.out.ext _ HX4.out.lt]; exact HC4.out, by rw [HM5.out.ext _ hzl0]; exact hz0⟩
        have s1 := HZ0.out.cell 1 _ rfl
        clear htk hw hfk hqk hZd hzdl hz0 hzl0 HBW
        by_cases he1 : e = -1
        · subst he1
          have HB2 : Hid (B = ⟨0, key, qs5.map (·.1), [], S5⟩) := (show _ = _ by rw [HB.out, oldM_no])
          have Yx := HX5.out
          have Yz := HZ5.out
          have j0 := Yx.cell 0 _ rfl; have i0 := Yx.frozen 0; have j1 := Yx.cell 1 _ rfl; have i1 := Yx.frozen 1; have j2 := Yx.cell 2 _ rfl; have i2 := Yx.frozen 2; have j3 := Yx.cell 3 _ rfl; have i3 := Yx.frozen 3; have j4 := Yx.cell 4 _ rfl; have i4 := Yx.frozen 4; have j5 := Yx.cell 5 _ rfl; have i5 := Yx.frozen 5
          have k0 := Yz.cell 0 _ rfl; have l0 := Yz.frozen 0; have k1 := Yz.cell 1 _ rfl; have l1 := Yz.frozen 1; have k2 := Yz.cell 2 _ rfl; have l2 := Yz.frozen 2; have k3 := Yz.cell 3 _ rfl; have l3 := Yz.frozen 3; have k4 := Yz.cell 4 _ rfl; have l4 := Yz.frozen 4; have k5 := Yz.cell 5 _ rfl; have l5 := Yz.frozen 5
          clear Yx Yz
          go_wp2
          refine bodyPost_ret (v := .tuple #[.agg #[.int .i64 3, .int .i64 0, .int .u64 0, .int .i64 0, .slice av2 n cp2, .slice none 0 0], .int .u64 key, .int .i64 0]) ?_ rfl ?_
          · rw [results_cell_tmp2 rfl]
            go_simp
          · have hk0 : B.k = 0 := by rw [HB2.out]
            have hcy := bgc_yes hk0
            have hf := rbg_end (B := B) (a := .slice av2 n cp2) (b := .slice none 0 0) (qs := qs5) hC.1 hC.2.1 hC.2.2.1 hC.2.2.2 (HM1.out.trans ((HM4.out.widen (by simp)).trans HM5.out)) (by rw [HB2.out]; exact HO5.out) HZ5.out HDr.out.1 HR5.out HRo.out HKq.out HQI.out (by rw [hcy, HB2.out]) (by rw [hcy, HB2.out]; exact kp0_nil _ _) (by rw [hcy, if_pos hk0]; exact ⟨rfl, rfl, rfl, rfl⟩)
            rw [hcy] at hf
            have hkey : B.key = key := by rw [HB2.out]
            rw [hk0, hkey] at hf
            exact hf
        · obtain ⟨m, hme⟩ : ∃ m : Nat, e = m := ⟨e.toNat, by have := HNN.out.2.2.2.1; unfold EOk at this; omega⟩
          subst hme
          have hm20 : m < 20 := by have := HNN.out.2.2.2.1; unfold EOk at this; omega
          have hold : oldM S5 key (m : Int) last = ((S5.seal key (form (m + 1)) (be8 last)).1.1, (S5.seal key (form (m + 1)) (be8 last)).2) := by
            unfold oldM
            rw [if_neg he1]
            rfl
          have hne : ((m : Int) == -1) = false := by simp
          have hne2 : ((m : Int) != -1) = true := by simp
          have HNm : Hid (∀ w' : World, Calls Tryz.prog 60 #[.int .u64 ((m : Int) + 1)] w' fun r w'' => ∃ v', r = .returned v' ∧ Own w'.heap.size 5 w'' v' (form (m + 1)) ∧ Below w'.heap.size w' w'') := fun w' => refnum_any 10 (m + 1) w' (Nat.lt_of_lt_of_le (show m + 1 < 21 by omega) (by decide)) (by omega) (by omega) (by omega)
          have HEi : Hid (∀ w' : World, Calls Tryz.prog 61 #[.int .u64 last] w' fun r w'' => ∃ v', r = .returned v' ∧ Own w'.heap.size 5 w'' v' (be8 last) ∧ Below w'.heap.size w' w'') := fun w' => eight59 last w' HNN.out.2.2.2.2
          have HSl : Hid (∀ (w' : World) (o' : Nat → Nat) (u v : Value), ROrc w0 w' o' rr S5 → Kp0 w' o' u (form (m + 1)) → Kp0 w' o' v (be8 last) → Calls Tryz.prog 37 #[ptr rr, .int .u64 key, u, v] w' fun r w'' => ∃ v', r = .returned (.tuple #[v', .int .i64 0]) ∧ ∃ o'', ROrc w0 w'' o'' rr (S5.seal key (form (m + 1)) (be8 last)).2 ∧ Kp0 w'' o'' v' (S5.seal key (form (m + 1)) (be8 last)).1.1 ∧ Mv [8] w' o' w'' o'') := fun w' o' u v h1 h2 h3 => by
            have := rorc_seal h1 HFK5.out.2 (by have := HNN.out; omega) key h2 h3 (by rw [form]; unfold formF; split <;> simp) (by simp [be8]) (by rw [be8_length]; omega)
            rw [seal_key HFK5.out.1] at this ⊢
            exact this
          have HB2 : Hid (B = ⟨0, key, qs5.map (·.1), (S5.seal key (form (m + 1)) (be8 last)).1.1, (S5.seal key (form (m + 1)) (be8 last)).2⟩) := (show _ = _ by rw [HB.out, hold])
          generalize S5.seal key (form (m + 1)) (be8 last) = SL at *
          -- what stays while the oracle seals
          have HSty : Hid (∀ w' o', Mv [8] wr o5 w' o' → Blk w' cb 80 [.int .i64 3, .int .i64 0, .int .u64 0, .int .i64 0, .slice av2 n cp2, .slice none 0 0] ∧ Blk w' (w.heap.size + 1) 80 [.int .i64 0, .int .i64 0, .int .u64 0, .int .i64 0, .slice none 0 0, .slice none 0 0] ∧ o' cb = d ∧ o' (w.heap.size + 1) = d) := fun w' o' m' => by
            have hd := HDr.out
            exact ⟨HX5.out.block (m'.block _ HX5.out.lt (by rw [hd.2.1]; simp; omega)), HZ5.out.block (m'.block _ HZ5.out.lt (by rw [hd.1]; simp; omega)), by rw [m'.ext _ HX5.out.lt]; exact hd.2.1, by rw [m'.ext _ HZ5.out.lt]; exact hd.1⟩
          clear hold he1 HB
          go_upto_region 15 with (first
            | (go_at_call 60; go_must (refine (HNm.out wr).mono ?_; rintro r w6 ⟨v6, rfl, ho6, hb6⟩; obtain ⟨a6, c6, hv6⟩ := ho6.rd.len; subst hv6; have HK6 : Hid (Kp0 w6 (newTo o5 wr 0) (.slice a6 (form (m + 1)).length c6) (form (m + 1))) := (show Kp0 _ _ _ _ from Kp0.of_new (w1 := wr) ho6 (Nat.le_refl _)); have HB6 : Hid (Below wr.heap.size wr w6) := hb6; clear ho6 hb6 HNm))
            | (go_at_call 61; go_must (refine (HEi.out w6).mono ?_; rintro r w7 ⟨v7, rfl, ho7, hb7⟩; obtain ⟨a7, c7, hv7⟩ := ho7.rd.len; subst hv7; have HK7 : Hid (Kp0 w7 (newTo (newTo o5 wr 0) w6 0) (.slice a7 (be8 last).length c7) (be8 last)) := (show Kp0 _ _ _ _ from Kp0.of_new (w1 := wr) ho7 (Nat.le_refl _)); have HK67 : Hid (Kp0 w7 (newTo (newTo o5 wr 0) w6 0) (.slice a6 (form (m + 1)).length c6) (form (m + 1))) := (show Kp0 _ _ _ _ from HK6.out.mv (Mv.of_below (I := []) 0 hb7) (by simp)); have HM7 : Hid (Mv [8] wr o5 w7 (newTo (newTo o5 wr 0) w6 0)) := (show Mv _ _ _ _ _ from (Mv.of_below 0 HB6.out).trans (Mv.of_below 0 hb7)); have HO7 : Hid (ROrc w0 w7 (newTo (newTo o5 wr 0) w6 0) rr S5) := (show ROrc _ _ _ _ _ from (HO5.out.below HB6.out).below hb7); clear ho7 hb7 HEi))
            | (go_at_call 37; go_must (refine (HSl.out w7 _ _ _ HO7.out HK67.out HK7.out).mono ?_; rintro r w8 ⟨v8, rfl, o8, hO8, hK8, hM8⟩; obtain ⟨a8, c8, hv8⟩ := hK8.1.len; subst hv8; have HM8 : Hid (Mv [8] wr o5 w8 o8) := (show Mv _ _ _ _ _ from HM7.out.trans hM8); obtain ⟨y1, y2, y3, y4⟩ := HSty.out w8 o8 HM8.out; have l5 := y1.cell 5 _ rfl; have l6 := y1.frozen 5; have HX8 : Hid (Blk w8 cb 80 [.int .i64 3, .int .i64 0, .int .u64 0, .int .i64 0, .slice av2 n cp2, .slice none 0 0]) := y1; have HZ8 : Hid (Blk w8 (w.heap.size + 1) 80 [.int .i64 0, .int .i64 0, .int .u64 0, .int .i64 0, .slice none 0 0, .slice none 0 0]) := y2; have HD8 : Hid (o8 cb = d ∧ o8 (w.heap.size + 1) = d) := ⟨y3, y4⟩; have HO8 : Hid (ROrc w0 w8 o8 rr SL.2) := hO8; have HK8 : Hid (Kp0 w8 o8 (.slice a8 SL.1.1.length c8) SL.1.1) := hK8; clear hO8 hK8 hM8 y1 y2 y3 y4)))
          have hg9 := grown_setCell w8 cb 5 (.slice a8 SL.1.1.length c8)
          have m9 : Mv [d] w8 o8 (w8.setCell ⟨cb, 5, none⟩ (.slice a8 SL.1.1.length c8)) (newTo o8 w8 0) := Mv.of_turn 0 (turn_grown hg9) (fun kk hkk _ => by
            simp at hkk
            subst hkk
            rw [HD8.out.1]; simp)
          have hR8 : w8.ownsRow 0 126 2 (.slice av2 n cp2) qs5.length (flat wq qs5) := ownsRow_block HR5.out (fun jj hjj => HM8.out.block jj (HR5.out.lt jj hjj).2 (by rw [HRo.out jj hjj]; simp; omega))
          have hRo8 : ∀ jj, (Value.slice av2 n cp2).ownBlock = some jj → o8 jj = c := fun jj hjj => by rw [HM8.out.ext jj (HR5.out.lt jj hjj).2]; exact HRo.out jj hjj
          have HR9 : Hid ((w8.setCell ⟨cb, 5, none⟩ (.slice a8 SL.1.1.length c8)).ownsRow 0 126 2 (.slice av2 n cp2) qs5.length (flat wq qs5)) := ownsRow_block hR8 (fun jj hjj => m9.block jj (hR8.lt jj hjj).2 (by rw [hRo8 jj hjj]; simp; omega))
          have HRo9 : Hid (∀ jj, (Value.slice av2 n cp2).ownBlock = some jj → newTo o8 w8 0 jj = c) := fun jj hjj => by rw [newTo_old (hR8.lt jj hjj).2]; exact hRo8 jj hjj
          have HO9 : Hid (ROrc w0 (w8.setCell ⟨cb, 5, none⟩ (.slice a8 SL.1.1.length c8)) (newTo o8 w8 0) rr SL.2) := (show ROrc _ _ _ _ _ from HO8.out.mv m9 (by simp; omega) (by simp; omega))
          have HK9 : Hid (Kp0 (w8.setCell ⟨cb, 5, none⟩ (.slice a8 SL.1.1.length c8)) (newTo o8 w8 0) (.slice a8 SL.1.1.length c8) SL.1.1) := (show Kp0 _ _ _ _ from HK8.out.mv m9 (by simp; omega))
          have HQ9 : Hid (∀ q ∈ qs5, Kp0 (w8.setCell ⟨cb, 5, none⟩ (.slice a8 SL.1.1.length c8)) (newTo o8 w8 0) q.2 q.1.b) := fun q hq => ((HKq.out q hq).mv HM8.out (by simp)).mv m9 (by simp; omega)
          have HM9 : Hid (Mv [d, c, 8] wr o5 (w8.setCell ⟨cb, 5, none⟩ (.slice a8 SL.1.1.length c8)) (newTo o8 w8 0)) := (show Mv _ _ _ _ _ from (HM8.out.widen (by simp)).trans (m9.widen (by simp)))
          have HZ9 : Hid (Blk (w8.setCell ⟨cb, 5, none⟩ (.slice a8 SL.1.1.length c8)) (w.heap.size + 1) 80 [.int .i64 0, .int .i64 0, .int .u64 0, .int .i64 0, .slice none 0 0, .slice none 0 0]) := (show Blk _ _ _ _ from HZ8.out.past hg9 (fun ee => HCN.out.1 ee.symm))
          have HX9 : Hid (Blk (w8.setCell ⟨cb, 5, none⟩ (.slice a8 SL.1.1.length c8)) cb 80 [.int .i64 3, .int .i64 0, .int .u64 0, .int .i64 0, .slice av2 n cp2, .slice a8 SL.1.1.length c8]) := HX8.out.set 5 _
          have HD9 : Hid (newTo o8 w8 0 (w.heap.size + 1) = d) := (show _ = _ by rw [newTo_old HZ8.out.lt]; exact HD8.out.2)
          generalize newTo o8 w8 0 = o9 at *
          clear hg9 m9 hR8 hRo8 l5 l6
          have Yx := HX9.out
          have Yz := HZ9.out
          generalize w8.setCell ⟨cb, 5, none⟩ (.slice a8 SL.1.1.length c8) = w9 at *
          have j0 := Yx.cell 0 _ rfl; have i0 := Yx.frozen 0; have j1 := Yx.cell 1 _ rfl; have i1 := Yx.frozen 1; have j2 := Yx.cell 2 _ rfl; have i2 := Yx.frozen 2; have j3 := Yx.cell 3 _ rfl; have i3 := Yx.frozen 3; have j4 := Yx.cell 4 _ rfl; have i4 := Yx.frozen 4; have j5 := Yx.cell 5 _ rfl; have i5 := Yx.frozen 5
          have k0 := Yz.cell 0 _ rfl; have l0 := Yz.frozen 0; have k1 := Yz.cell 1 _ rfl; have l1 := Yz.frozen 1; have k2 := Yz.cell 2 _ rfl; have l2 := Yz.frozen 2; have k3 := Yz.cell 3 _ rfl; have l3 := Yz.frozen 3; have k4 := Yz.cell 4 _ rfl; have l4 := Yz.frozen 4; have k5 := Yz.cell 5 _ rfl; have l5 := Yz.frozen 5
          clear Yx Yz
          go_wp2
          refine bodyPost_ret (v := .tuple #[.agg #[.int .i64 3, .int .i64 0, .int .u64 0, .int .i64 0, .slice av2 n cp2, .slice a8 SL.1.1.length c8], .int .u64 key, .int .i64 0]) ?_ rfl ?_
          · rw [results_cell_tmp2 rfl]
            go_simp
          · have hk0 : B.k = 0 := by rw [HB2.out]
            have hcy := bgc_yes hk0
            have hf := rbg_end (B := B) (a := .slice av2 n cp2) (b := .slice a8 SL.1.1.length c8) (qs := qs5) hC.1 hC.2.1 hC.2.2.1 hC.2.2.2 (HM1.out.trans ((HM4.out.widen (by simp)).trans (HM5.out.trans HM9.out))) (by rw [HB2.out]; exact HO9.out) HZ9.out HD9.out HR9.out HRo9.out HQ9.out HQI.out (by rw [hcy, HB2.out]) (by rw [hcy, HB2.out]; exact HK9.out) (by rw [hcy, if_pos hk0]; exact ⟨rfl, rfl, rfl, rfl⟩)
            rw [hcy] at hf
            have hkey : B.key = key := by rw [HB2.out]
            rw [hk0, hkey] at hf
            exact hf
end Go.Proofs.YtjbpfhnagiacmaaGreat
