/-
  Begin: the Old (oldFor), and the whole.
-/
import Derived.Test.YtjbpfhnagiacmaaGreatBgw
namespace Go.Proofs.YtjbpfhnagiacmaaGreat
set_option linter.unusedVariables false
set_option linter.unusedSimpArgs false
set_option synthInstance.maxSize 20000
set_option maxHeartbeats 2000000
set_option maxRecDepth 20000
open Go.RowKit Go.Maps
theorem results_cell_tmp2 {fn : Func} {p u x : Tmp} {ty : TypeId} (h : fn.results = #[.cell p ty, .tmp u, .tmp x]) (tmps : Array Value) (P : Program) (w : World) :
    (results fn tmps).run P w = ((asAddr (tmps.getD p undef)).run P w).andThen fun a w₁ => ((loadVar ty a).run P w₁).andThen fun v w₂ => .ok (.tuple #[v, tmps.getD u undef, tmps.getD x undef]) w₂ := by
  simp only [results, h]
  simp [Sem.run_bind, Result.andThen]
def put6 (w : World) (b : Nat) (v0 v1 v2 v3 v4 v5 : Value) : World := (((((w.setCell ⟨b, 0, none⟩ v0).setCell ⟨b, 1, none⟩ v1).setCell ⟨b, 2, none⟩ v2).setCell ⟨b, 3, none⟩ v3).setCell ⟨b, 4, none⟩ v4).setCell ⟨b, 5, none⟩ v5
theorem put6_blk {w : World} {b : Nat} {t : TypeId} {u0 u1 u2 u3 u4 u5 v0 v1 v2 v3 v4 v5 : Value} (h : Blk w b t [u0, u1, u2, u3, u4, u5]) : Blk (put6 w b v0 v1 v2 v3 v4 v5) b t [v0, v1, v2, v3, v4, v5] := (((((h.set 0 v0).set 1 v1).set 2 v2).set 3 v3).set 4 v4).set 5 v5
theorem put6_grown (w : World) (b : Nat) (v0 v1 v2 v3 v4 v5 : Value) : w.grownBy (put6 w b v0 v1 v2 v3 v4 v5) (some b) := by
  unfold put6
  refine grown_trans (grown_setCell w b 0 v0) ?_ (fun k hk => .inl hk)
  refine grown_trans (grown_setCell _ b 1 v1) ?_ (fun k hk => .inl hk)
  refine grown_trans (grown_setCell _ b 2 v2) ?_ (fun k hk => .inl hk)
  refine grown_trans (grown_setCell _ b 3 v3) ?_ (fun k hk => .inl hk)
  exact grown_trans (grown_setCell _ b 4 v4) (grown_setCell _ b 5 v5) (fun k hk => .inl hk)
theorem oldM_no {S : St} {key last : Int} : oldM S key (-1) last = ([], S) := by unfold oldM; rw [if_pos rfl]
theorem oldFor36 {w : World} {o : Nat → Nat} {ob N : Nat} {S : St} (hO : OrcAt w o ob S) (hS : Ora S N) (hn : N ≤ 80000) {key e last : Int} (hk : S.at key = some .key) (he : EOk e) (hl : U64 last) :
    Calls Tryz.prog 56 #[ptr ob, .int .i64 e, .int .u64 key, .int .u64 last] w fun x w' => ∃ v', x = .returned (.tuple #[v', .int .i64 0]) ∧ ∃ o', OrcAt w' o' ob (oldM S key e last).2 ∧ Kp0 w' o' v' (oldM S key e last).1 ∧ Mv [1] w o w' o' := by
  have HO : Hid (OrcAt w o ob S) := hO
  by_cases h1 : e = -1
  · subst h1
    rw [oldM_no]
    go_enter Tryz.func56, Tryz.ntmps56
    go_wp2
    go_ret2
    exact ⟨_, rfl, o, HO.out, kp0_nil _ _, Mv.refl _ _ _⟩
  · obtain ⟨m, hm⟩ : ∃ m : Nat, e = m := ⟨e.toNat, by unfold EOk at he; omega⟩
    subst hm
    have hm20 : m < 20 := by unfold EOk at he; omega
    have hold : oldM S key (m : Int) last = ((S.seal key (form (m + 1)) (be8 last)).1.1, (S.seal key (form (m + 1)) (be8 last)).2) := by
      unfold oldM
      rw [if_neg h1]
      rfl
    have hkd : (S.seal key (form (m + 1)) (be8 last)).1.2 = 0 := by rw [seal_key hk]
    have HB : Hid (∀ w' : World, Calls Tryz.prog 96 #[.int .u64 ((m : Int) + 1)] w' fun r w'' => ∃ v', r = .returned v' ∧ Own w'.heap.size 5 w'' v' (form (m + 1)) ∧ Below w'.heap.size w' w'') := fun w' => (bound66 (N := m + 1) (by omega))
    have HL : Hid (∀ w' : World, Calls Tryz.prog 97 #[.int .u64 last] w' fun r w'' => ∃ v', r = .returned v' ∧ Own w'.heap.size 5 w'' v' (be8 last) ∧ Below w'.heap.size w' w'') := fun w' => bytesOf67 last w' hl
    have HS : Hid (∀ (w' : World) (u v : Value), Below w.heap.size w w' → Rd w' u (form (m + 1)) → Rd w' v (be8 last) → Calls Tryz.prog 35 #[ptr ob, .int .u64 key, u, v] w' fun r w'' => ∃ v', r = .returned (.tuple #[v', .int .i64 0]) ∧ ∃ o', OrcAt w'' o' ob (S.seal key (form (m + 1)) (be8 last)).2 ∧ Kp0 w'' o' v' (S.seal key (form (m + 1)) (be8 last)).1.1 ∧ Mv [1] w' (newTo o w 0) w'' o') := fun w' u v hb hu hv => by
      have := orc_seal (HO.out.below hb) hS hn (at_ok hS.good hk).1 hu hv (by rw [be8_length]; omega)
      rw [hkd] at this
      exact this
    rw [hold]
    generalize S.seal key (form (m + 1)) (be8 last) = SL at *
    have hne : ((m : Int) == -1) = false := by simp
    clear hold hkd hO hS hk he h1 hl
    go_enter Tryz.func56, Tryz.ntmps56
    go_wp2_with (first
      | (go_at_call 96; go_must (refine (HB.out w).mono ?_; rintro r w2 ⟨v2, rfl, ho2, hb2⟩; obtain ⟨a2, c2, hv2⟩ := ho2.rd.len; subst hv2; have HO2 : Hid (Rd w2 (.slice a2 (form (m + 1)).length c2) (form (m + 1))) := ho2.rd; have HB2 : Hid (Below w.heap.size w w2) := hb2; clear ho2 hb2 HB))
      | (go_at_call 97; go_must (refine (HL.out w2).mono ?_; rintro r w3 ⟨v3, rfl, ho3, hb3⟩; obtain ⟨a3, c3, hv3⟩ := ho3.rd.len; subst hv3; have HO3 : Hid (Rd w3 (.slice a3 (be8 last).length c3) (be8 last)) := ho3.rd; have HO23 : Hid (Rd w3 (.slice a2 (form (m + 1)).length c2) (form (m + 1))) := HO2.out.below hb3; have HB3 : Hid (Below w.heap.size w w3) := (show Below _ _ _ from bnext HB2.out hb3); clear ho3 hb3 HL))
      | (go_at_call 35; go_must (refine (HS.out w3 _ _ HB3.out HO23.out HO3.out).mono ?_; rintro r w4 ⟨v4, rfl, o4, hO4, hK4, hM4⟩; obtain ⟨a4, c4, hv4⟩ := hK4.1.len; subst hv4)))
    go_ret2
    exact ⟨_, rfl, o4, hO4, hK4, (Mv.of_below 0 HB3.out).trans hM4⟩
theorem wrapF_who {key : Int} : ∀ (l : List Mb) (S : St), ∀ x ∈ (wrapF key l S).2.1, ∃ m ∈ l, x.w = m.w
  | [], S, x, hx => by cases hx
  | m :: l, S, x, hx => by
    rw [wrapF] at hx
    split at hx
    · split at hx
      · rcases List.mem_cons.1 hx with e | e
        · exact ⟨m, by simp, by rw [e]⟩
        · obtain ⟨y, h1, h2⟩ := wrapF_who l _ x e
          exact ⟨y, by simp [h1], h2⟩
      · cases hx
    · cases hx
theorem put_key_at {S : St} {N : Nat} (hS : Ora S N) (hn : N ≤ 80000) : (S.put .key).at S.fresh = some .key := by
  have := hS.len
  exact at_put_new hS.good (by omega) _
def BgPost (w : World) (o : Nat → Nat) (ob : Nat) (B : Bg) (x : Ending) (w' : World) : Prop :=
  ∃ a b, x = .returned (.tuple #[cv B.c a b, .int .u64 B.key, .int .i64 B.k]) ∧ ∃ o' qs, OrcAt w' o' ob B.S ∧ CgAt w' B.c a b qs ∧ KpF wq w' o' a qs ∧ (∀ q ∈ qs, Kp0 w' o' q.2 q.1.b) ∧ Kp0 w' o' b B.c.o ∧ Mv [1] w o w' o'
theorem bg_end {w w5 : World} {o o5 : Nat → Nat} {ob c rb : Nat} {B : Bg} {u0 u1 u2 u3 u4 u5 a b : Value} {qs : List Wq} (hc : 1 < c) (hcn : ∀ k, k < w.heap.size → o k ≠ c) (hm : Mv [c, 1] w o w5 o5) (hO : OrcAt w5 o5 ob B.S) (hb : Blk w5 rb 75 [u0, u1, u2, u3, u4, u5]) (hrb : o5 rb = c)
    (ha : KpF wq w5 o5 a qs) (hq : ∀ q ∈ qs, Kp0 w5 o5 q.2 q.1.b) (hI : ∀ q ∈ qs, I64 q.1.w) (hws : qs.map (·.1) = B.c.ws) (hk : Kp0 w5 o5 b B.c.o) (hz : B.c.k = (if B.k = 0 then 3 else 0) ∧ B.c.w = 0 ∧ B.c.p = 0 ∧ B.c.l = 0) :
    BgPost w o ob B (.returned (.tuple #[cv B.c a b, .int .u64 B.key, .int .i64 B.k])) (put6 w5 rb (.int .i64 B.c.k) (.int .i64 B.c.w) (.int .u64 B.c.p) (.int .i64 B.c.l) a b) := by
  generalize hW : put6 w5 rb (.int .i64 B.c.k) (.int .i64 B.c.w) (.int .u64 B.c.p) (.int .i64 B.c.l) a b = W
  have hg : w5.grownBy W (some rb) := by rw [← hW]; exact put6_grown _ _ _ _ _ _ _ _
  have m6 : Mv [c] w5 o5 W (newTo o5 w5 0) := Mv.of_turn 0 (turn_grown hg) (fun k hk _ => by
    simp at hk
    subst hk
    rw [hrb]; simp)
  have hm7 : Mv [c, 1] w o W (newTo o5 w5 0) := hm.trans (m6.widen (by simp))
  have ha6 := ha.mv m6 (by simp; omega)
  have hq6 := fun q hq' => (hq q hq').mv m6 (by simp; omega)
  have hk6 := hk.mv m6 (by simp; omega)
  refine ⟨a, b, rfl, reown c (newTo o5 w5 0), qs, (hO.mv m6 (by simp; omega)).reown (by omega), ⟨ha6.1, fun q hq' => (hq6 q hq').1, hI, hws, hk6.1, ?_, ?_, ?_, ?_⟩, ⟨ha6.1, fun hl k hk' => ⟨(ha6.2 hl k hk').1, reown_zero (ha6.2 hl k hk').2⟩⟩, fun q hq' => (hq6 q hq').reown c, hk6.reown c, (hm7.restrict hcn).reown hcn⟩
  · rw [hz.1]; unfold I64; split <;> omega
  · rw [hz.2.1]; unfold I64; omega
  · rw [hz.2.2.1]; unfold U64; omega
  · rw [hz.2.2.2]; unfold I64; omega
theorem bgc_no {B : Bg} (h : B.k ≠ 0) : B.c = ⟨0, 0, 0, 0, [], []⟩ := by unfold Bg.c; rw [if_neg h]
theorem bgc_yes {B : Bg} (h : B.k = 0) : B.c = ⟨3, 0, 0, 0, B.ws, B.o⟩ := by unfold Bg.c; rw [if_pos h]
theorem bg_none {w w5 : World} {o o5 : Nat → Nat} {ob c rb : Nat} {B : Bg} {u0 u1 u2 u3 u4 u5 : Value} (hc : 1 < c) (hcn : ∀ k, k < w.heap.size → o k ≠ c) (hm : Mv [c, 1] w o w5 o5) (hO : OrcAt w5 o5 ob B.S) (hb : Blk w5 rb 75 [u0, u1, u2, u3, u4, u5]) (hrb : o5 rb = c) (hB : B.k ≠ 0) (hkey : B.key = 0) :
    BgPost w o ob B (.returned (.tuple #[.agg #[.int .i64 0, .int .i64 0, .int .u64 0, .int .i64 0, .slice none 0 0, .slice none 0 0], .int .u64 0, .int .i64 B.k])) (put6 w5 rb (.int .i64 0) (.int .i64 0) (.int .u64 0) (.int .i64 0) (.slice none 0 0) (.slice none 0 0)) := by
  have h := bg_end (a := .slice none 0 0) (b := .slice none 0 0) (qs := []) hc hcn hm hO hb hrb ⟨rowF_nil _, fun h => absurd rfl h⟩ (fun q hq => by cases hq) (fun q hq => by cases hq) (by rw [bgc_no hB]; rfl) (by rw [bgc_no hB]; exact kp0_nil _ _) (by rw [bgc_no hB, if_neg hB]; exact ⟨rfl, rfl, rfl, rfl⟩)
  rw [bgc_no hB, hkey] at h
  exact h
theorem begin15 {w : World} {o : Nat → Nat} {ob N : Nat} {S : St} (hO : OrcAt w o ob S) (hS : Ora S N) {lv : Value} {l : List Mb} {e last : Int} (hv : KpF mc w o lv l) (hN : N + l.length + 5 ≤ 80000) (hll : l.length ≤ 1000) (hmo : ∀ m ∈ l, U64 m.p ∧ I64 m.w) (he : EOk e) (hlast : U64 last) :
    Calls Tryz.prog 26 #[ptr ob, stv lv e, .int .u64 last] w (BgPost w o ob (beginM S l e last)) := by
  obtain ⟨av, cap, rfl⟩ := hv.1.len
  obtain ⟨c, hc3, hc4, hc5⟩ := fresh_owner w o 8
  have HC : Hid (1 < c ∧ 8 < c ∧ ∀ k, k < w.heap.size → o k ≠ c) := ⟨hc3, hc4, hc5⟩
  unfold stv
  obtain ⟨n, hn⟩ : ∃ n, n = l.length := ⟨_, rfl⟩
  have hnl : (nowM l).length ≤ l.length := by unfold nowM; exact List.length_filter_le _ _
  rw [← hn] at hv ⊢
  obtain ⟨w1, hw1⟩ : ∃ w1, w1 = (w.alloc (.cells #[.slice av n cap, .int .i64 e] 67)).alloc (.cells #[.int .i64 0, .int .i64 0, .int .u64 0, .int .i64 0, .slice none 0 0, .slice none 0 0] 75) := ⟨_, rfl⟩
  have HW1 : Hid (w1 = (w.alloc (.cells #[.slice av n cap, .int .i64 e] 67)).alloc (.cells #[.int .i64 0, .int .i64 0, .int .u64 0, .int .i64 0, .slice none 0 0, .slice none 0 0] 75)) := hw1
  have hb1 : Below w.heap.size w w1 := by rw [hw1]; exact balloc2 _ _ _
  have hY0 : Blk w1 w.heap.size 67 [.slice av n cap, .int .i64 e] := by rw [hw1]; exact blkM_0 w _ _ _ _
  have hY1 : Blk w1 (w.heap.size + 1) 75 [.int .i64 0, .int .i64 0, .int .u64 0, .int .i64 0, .slice none 0 0, .slice none 0 0] := by rw [hw1]; exact blkM_1 w _ _ _ _
  obtain ⟨o1, ho1⟩ : ∃ o1, o1 = newBy o w (fun k => if k = w.heap.size + 1 then c else 0) := ⟨_, rfl⟩
  have hM1 : Mv [c, 1] w o w1 o1 := by rw [ho1]; exact Mv.of_turn' (ft := []) _ (Turn.of_below hb1) (fun k hk => by cases hk)
  have hM1' : Mv [] w o w1 o1 := by rw [ho1]; exact Mv.of_turn' (ft := []) _ (Turn.of_below hb1) (fun k hk => by cases hk)
  have hoc : o1 (w.heap.size + 1) = c := by rw [ho1, newBy_new (by omega)]; exact if_pos rfl
  have ho0 : o1 w.heap.size = 0 := by rw [ho1, newBy_new (Nat.le_refl _)]; exact if_neg (by omega)
  have hO1 : OrcAt w1 o1 ob S := hO.mv hM1' (by simp)
  have hv1 : KpF mc w1 o1 (.slice av n cap) l := hv.mv hM1' (by simp)
  have HKey := orc_key hO1 hS (by omega)
  -- what the next calls answer
  have HNow : Hid (∀ w2 o2, Mv [1] w1 o1 w2 o2 → Calls Tryz.prog 55 #[.agg #[.slice av n cap, .int .i64 e]] w2 fun r w' => ∃ v', r = .returned v' ∧ KpF mc w' (newTo o2 w2 0) v' (nowM l) ∧ Below w2.heap.size w2 w') := fun w2 o2 m2 => by
    refine (now19f (hv1.mv m2 (by simp)).1 (by omega) e).mono ?_
    rintro r w' ⟨v', rfl, h1, h2, h3⟩
    exact ⟨v', rfl, KpF.of_new mc_pos h1 h2, h3⟩
  have HWf : Hid (∀ w3 o3 nv, OrcAt w3 o3 ob (S.put .key) → KpF mc w3 o3 nv (nowM l) → Calls Tryz.prog 54 #[ptr ob, nv, .int .u64 S.fresh] w3 fun x w' => ∃ v', x = .returned (.tuple #[v', .int .i64 (if nowM l = [] then 10 else (wrapF S.fresh (nowM l) (S.put .key)).2.2)]) ∧ ∃ o' qs, OrcAt w' o' ob (wrapF S.fresh (nowM l) (S.put .key)).1 ∧ KpF wq w' o' v' qs ∧ (∀ q ∈ qs, Kp0 w' o' q.2 q.1.b) ∧ qs.map (·.1) = (wrapF S.fresh (nowM l) (S.put .key)).2.1 ∧ Mv [1] w3 o3 w' o') := fun w3 o3 nv h1 h2 => wrapFor34 h1 (hS.key (by omega)) h2 (by omega) (by omega) (fresh_ok hS.good (by have := hS.len; omega)).2.2.1 (fun m hm => (hmo m (List.mem_filter.1 hm).1).1)
  have hwr := wrapF_ora (key := S.fresh) (nowM l) (hS.key (by omega)) (by omega)
  have HOf : Hid (∀ w4 o4, OrcAt w4 o4 ob (wrapF S.fresh (nowM l) (S.put .key)).1 → Calls Tryz.prog 56 #[ptr ob, .int .i64 e, .int .u64 S.fresh, .int .u64 last] w4 fun x w' => ∃ v', x = .returned (.tuple #[v', .int .i64 0]) ∧ ∃ o', OrcAt w' o' ob (oldM (wrapF S.fresh (nowM l) (S.put .key)).1 S.fresh e last).2 ∧ Kp0 w' o' v' (oldM (wrapF S.fresh (nowM l) (S.put .key)).1 S.fresh e last).1 ∧ Mv [1] w4 o4 w' o') := fun w4 o4 h1 => oldFor36 h1 hwr.1 (by omega) (hwr.2 _ _ (put_key_at hS (by omega))) he hlast
  have HIw : Hid (∀ qs : List Wq, qs.map (·.1) = (wrapF S.fresh (nowM l) (S.put .key)).2.1 → ∀ q ∈ qs, I64 q.1.w) := fun qs hq q hm => by
    obtain ⟨m, h1, h2⟩ := wrapF_who (key := S.fresh) (nowM l) (S.put .key) q.1 (by rw [← hq]; exact List.mem_map.2 ⟨q, hm, rfl⟩)
    rw [h2]
    exact (hmo m (List.mem_filter.1 h1).1).2
  obtain ⟨B, hB⟩ : ∃ B, B = beginM S l e last := ⟨_, rfl⟩
  rw [← hB]
  unfold beginM at hB
  have HY1 : Hid (Blk w1 (w.heap.size + 1) 75 [.int .i64 0, .int .i64 0, .int .u64 0, .int .i64 0, .slice none 0 0, .slice none 0 0]) := hY1
  have HY0 : Hid (Blk w1 w.heap.size 67 [.slice av n cap, .int .i64 e]) := hY0
  have HM1 : Hid (Mv [c, 1] w o w1 o1) := hM1
  have HOC : Hid (o1 (w.heap.size + 1) = c ∧ o1 w.heap.size = 0) := ⟨hoc, ho0⟩
  have z0 := hY0.cell 0 _ rfl; have z1 := hY0.cell 1 _ rfl
  clear hO hS hv hN hll hmo he hlast hn hnl hw1 hb1 hY0 hY1 ho1 hM1 hM1' hoc ho0 hO1 hv1 hwr hc3 hc4 hc5
  have hWn : nowM l = [] → (wrapF S.fresh (nowM l) (S.put .key)).1 = S.put .key := fun h => by rw [h]; rfl
  generalize S.put .key = S1 at *
  generalize S.fresh = key at *
  generalize hWF : wrapF key (nowM l) S1 = WF at *
  obtain ⟨S2, wsl, wk⟩ := WF
  dsimp only at HWf HOf HIw hB hWn
  clear hWF
  have step : ∀ w2 o2, Mv [1] w1 o1 w2 o2 → Blk w2 (w.heap.size + 1) 75 [.int .i64 0, .int .i64 0, .int .u64 0, .int .i64 0, .slice none 0 0, .slice none 0 0] ∧ Blk w2 w.heap.size 67 [.slice av n cap, .int .i64 e] ∧ o2 (w.heap.size + 1) = c := fun w2 o2 m => by
    have hc := HOC.out
    have hC := HC.out
    exact ⟨HY1.out.block (m.block _ HY1.out.lt (by rw [hc.1]; simp; omega)), HY0.out.block (m.block _ HY0.out.lt (by rw [hc.2]; simp)), by rw [m.ext _ HY1.out.lt]; exact hc.1⟩
  have HSt : Hid (∀ w2 o2, Mv [1] w1 o1 w2 o2 → Blk w2 (w.heap.size + 1) 75 [.int .i64 0, .int .i64 0, .int .u64 0, .int .i64 0, .slice none 0 0, .slice none 0 0] ∧ Blk w2 w.heap.size 67 [.slice av n cap, .int .i64 e] ∧ o2 (w.heap.size + 1) = c) := step
  clear step
  by_cases hnw : nowM l = []
  · rw [if_pos hnw] at hB HWf
    have HB : Hid (B = ⟨10, 0, [], [], S1⟩) := hB
    have HS2 : S2 = S1 := hWn hnw
    have HKD : (10 : Int) ≠ 0 := by omega
    clear hB hnw HOf hWn
    go_enter Tryz.func26, Tryz.ntmps26
    go_upto_region 1 with fail
    rw [← HW1.out]
    go_wp2_with (first
      | (go_at_call 53; go_must (refine HKey.mono ?_; rintro r w2 ⟨rfl, o2, hO2, hM2⟩; obtain ⟨y1, y0, _⟩ := HSt.out w2 o2 hM2; have q0 := y0.cell 0 _ rfl; have q1 := y0.cell 1 _ rfl; have HO2 : Hid (OrcAt w2 o2 ob S1) := hO2; have HM2 : Hid (Mv [1] w1 o1 w2 o2) := hM2; clear hO2 hM2 y1 y0))
      | (go_at_call 55; go_must (refine (HNow.out w2 o2 HM2.out).mono ?_; rintro r w3 ⟨v3, rfl, hK3, hb3⟩; obtain ⟨a3, c3, hv3⟩ := hK3.1.len; subst hv3; have HO3 : Hid (OrcAt w3 (newTo o2 w2 0) ob S1) := (show OrcAt _ _ _ _ from HO2.out.below hb3); have HK3 : Hid (KpF mc w3 (newTo o2 w2 0) (.slice a3 (nowM l).length c3) (nowM l)) := hK3; have HM3 : Hid (Mv [1] w1 o1 w3 (newTo o2 w2 0)) := (show Mv _ _ _ _ _ from HM2.out.trans (Mv.of_below 0 hb3)); clear hK3 hb3))
      | (go_at_call 54; go_must (refine (HWf.out w3 (newTo o2 w2 0) _ HO3.out HK3.out).mono ?_; rintro r w4 ⟨v4, rfl, o4, qs4, hO4, hK4, hq4, hm4, hM4⟩; obtain ⟨a4, c4, hv4⟩ := hK4.1.len; subst hv4; have HM4 : Hid (Mv [1] w1 o1 w4 o4) := (show Mv _ _ _ _ _ from HM3.out.trans hM4); obtain ⟨y1, y0, yc⟩ := HSt.out w4 o4 HM4.out; have j0 := y1.cell 0 _ rfl; have i0 := y1.frozen 0; have j1 := y1.cell 1 _ rfl; have i1 := y1.frozen 1; have j2 := y1.cell 2 _ rfl; have i2 := y1.frozen 2; have j3 := y1.cell 3 _ rfl; have i3 := y1.frozen 3; have j4 := y1.cell 4 _ rfl; have i4 := y1.frozen 4; have j5 := y1.cell 5 _ rfl; have i5 := y1.frozen 5; have q2 := y0.cell 1 _ rfl; have HY4 : Hid (Blk w4 (w.heap.size + 1) 75 [.int .i64 0, .int .i64 0, .int .u64 0, .int .i64 0, .slice none 0 0, .slice none 0 0]) := y1; have HO4 : Hid (OrcAt w4 o4 ob S2) := hO4; have HK4 : Hid (KpF wq w4 o4 (.slice a4 qs4.length c4) qs4) := hK4; have HQ4 : Hid (∀ q ∈ qs4, Kp0 w4 o4 q.2 q.1.b) := hq4; have HW4 : Hid (qs4.map (·.1) = wsl) := hm4; have HC4 : Hid (o4 (w.heap.size + 1) = c) := yc; clear hO4 hK4 hq4 hm4 hM4 y1 y0 yc)))
    refine bodyPost_ret (v := .tuple #[.agg #[.int .i64 0, .int .i64 0, .int .u64 0, .int .i64 0, .slice none 0 0, .slice none 0 0], .int .u64 0, .int .i64 10]) ?_ rfl ?_
    · rw [results_cell_tmp2 rfl]
      go_simp
    · have hf := bg_none (B := B) HC.out.1 HC.out.2.2 (HM1.out.trans (HM4.out.widen (by simp))) (by rw [HB.out]; first | exact HO4.out | exact HS2 ▸ HO4.out) HY4.out HC4.out (by rw [HB.out]; exact HKD) (by rw [HB.out])
      rw [HB.out] at hf ⊢
      exact hf
  · rw [if_neg hnw] at hB HWf
    clear hWn hnw
    by_cases hwk : wk = 0
    · subst hwk
      rw [if_pos rfl] at hB
      have HB : Hid (B = ⟨0, key, wsl, (oldM S2 key e last).1, (oldM S2 key e last).2⟩) := hB
      clear hB
      go_enter Tryz.func26, Tryz.ntmps26
      go_upto_region 1 with fail
      rw [← HW1.out]
      go_wp2_with (first
        | (go_at_call 53; go_must (refine HKey.mono ?_; rintro r w2 ⟨rfl, o2, hO2, hM2⟩; obtain ⟨y1, y0, _⟩ := HSt.out w2 o2 hM2; have q0 := y0.cell 0 _ rfl; have q1 := y0.cell 1 _ rfl; have HO2 : Hid (OrcAt w2 o2 ob S1) := hO2; have HM2 : Hid (Mv [1] w1 o1 w2 o2) := hM2; clear hO2 hM2 y1 y0))
        | (go_at_call 55; go_must (refine (HNow.out w2 o2 HM2.out).mono ?_; rintro r w3 ⟨v3, rfl, hK3, hb3⟩; obtain ⟨a3, c3, hv3⟩ := hK3.1.len; subst hv3; have HO3 : Hid (OrcAt w3 (newTo o2 w2 0) ob S1) := (show OrcAt _ _ _ _ from HO2.out.below hb3); have HK3 : Hid (KpF mc w3 (newTo o2 w2 0) (.slice a3 (nowM l).length c3) (nowM l)) := hK3; have HM3 : Hid (Mv [1] w1 o1 w3 (newTo o2 w2 0)) := (show Mv _ _ _ _ _ from HM2.out.trans (Mv.of_below 0 hb3)); clear hK3 hb3))
        | (go_at_call 54; go_must (refine (HWf.out w3 (newTo o2 w2 0) _ HO3.out HK3.out).mono ?_; rintro r w4 ⟨v4, rfl, o4, qs4, hO4, hK4, hq4, hm4, hM4⟩; obtain ⟨a4, c4, hv4⟩ := hK4.1.len; subst hv4; have HM4 : Hid (Mv [1] w1 o1 w4 o4) := (show Mv _ _ _ _ _ from HM3.out.trans hM4); obtain ⟨y1, y0, yc⟩ := HSt.out w4 o4 HM4.out; have j0 := y1.cell 0 _ rfl; have i0 := y1.frozen 0; have j1 := y1.cell 1 _ rfl; have i1 := y1.frozen 1; have j2 := y1.cell 2 _ rfl; have i2 := y1.frozen 2; have j3 := y1.cell 3 _ rfl; have i3 := y1.frozen 3; have j4 := y1.cell 4 _ rfl; have i4 := y1.frozen 4; have j5 := y1.cell 5 _ rfl; have i5 := y1.frozen 5; have q2 := y0.cell 1 _ rfl; have HY4 : Hid (Blk w4 (w.heap.size + 1) 75 [.int .i64 0, .int .i64 0, .int .u64 0, .int .i64 0, .slice none 0 0, .slice none 0 0]) := y1; have HO4 : Hid (OrcAt w4 o4 ob S2) := hO4; have HK4 : Hid (KpF wq w4 o4 (.slice a4 qs4.length c4) qs4) := hK4; have HQ4 : Hid (∀ q ∈ qs4, Kp0 w4 o4 q.2 q.1.b) := hq4; have HW4 : Hid (qs4.map (·.1) = wsl) := hm4; have HC4 : Hid (o4 (w.heap.size + 1) = c) := yc; clear hO4 hK4 hq4 hm4 hM4 y1 y0 yc))
        | (go_at_call 56; go_must (refine (HOf.out w4 o4 HO4.out).mono ?_; rintro r w5 ⟨v5, rfl, o5, hO5, hK5, hM5⟩; obtain ⟨a5, c5, hv5⟩ := hK5.1.len; subst hv5; have HM5 : Hid (Mv [1] w1 o1 w5 o5) := (show Mv _ _ _ _ _ from HM4.out.trans hM5); obtain ⟨y1, y0, yc⟩ := HSt.out w5 o5 HM5.out; have m0 := y1.cell 0 _ rfl; have n0 := y1.frozen 0; have m1 := y1.cell 1 _ rfl; have n1 := y1.frozen 1; have m2 := y1.cell 2 _ rfl; have n2 := y1.frozen 2; have m3 := y1.cell 3 _ rfl; have n3 := y1.frozen 3; have m4 := y1.cell 4 _ rfl; have n4 := y1.frozen 4; have m5 := y1.cell 5 _ rfl; have n5 := y1.frozen 5; have HY5 : Hid (Blk w5 (w.heap.size + 1) 75 [.int .i64 0, .int .i64 0, .int .u64 0, .int .i64 0, .slice none 0 0, .slice none 0 0]) := y1; have HK45 : Hid (KpF wq w5 o5 (.slice a4 qs4.length c4) qs4) := (show KpF _ _ _ _ _ from HK4.out.mv hM5 (by simp)); have HQ45 : Hid (∀ q ∈ qs4, Kp0 w5 o5 q.2 q.1.b) := (fun q hq => (HQ4.out q hq).mv hM5 (by simp)); have HC5 : Hid (o5 (w.heap.size + 1) = c) := yc; have HO5 : Hid (OrcAt w5 o5 ob B.S) := (by rw [HB.out]; exact hO5); have HK5 : Hid (Kp0 w5 o5 (.slice a5 (oldM S2 key e last).1.length c5) B.o) := (by rw [HB.out]; exact hK5); clear hO5 hK5 hM5 y1 y0 yc j0 j1 j2 j3 j4 j5 i0 i1 i2 i3 i4 i5)))
      refine bodyPost_ret (v := .tuple #[.agg #[.int .i64 3, .int .i64 0, .int .u64 0, .int .i64 0, .slice a4 qs4.length c4, .slice a5 (oldM S2 key e last).1.length c5], .int .u64 key, .int .i64 0]) ?_ rfl ?_
      · rw [results_cell_tmp2 rfl]
        go_simp
      · have hk0 : B.k = 0 := by rw [HB.out]
        have hcy := bgc_yes hk0
        have hf := bg_end (B := B) (a := .slice a4 qs4.length c4) (b := .slice a5 (oldM S2 key e last).1.length c5) (qs := qs4) HC.out.1 HC.out.2.2 (HM1.out.trans (HM5.out.widen (by simp))) HO5.out HY5.out HC5.out HK45.out HQ45.out (HIw.out qs4 HW4.out) (by rw [hcy, HB.out]; exact HW4.out) (by rw [hcy]; exact HK5.out) (by rw [hcy, if_pos hk0]; exact ⟨rfl, rfl, rfl, rfl⟩)
        rw [hcy] at hf
        have hkey : B.key = key := by rw [HB.out]
        rw [hk0, hkey] at hf
        exact hf
    · rw [if_neg hwk] at hB
      have HB : Hid (B = ⟨wk, 0, [], [], S2⟩) := hB
      have HS2 : S2 = S2 := rfl
      have HKD : wk ≠ 0 := hwk
      have hwk2 : (wk != 0) = true := by simpa using hwk
      clear hB hwk HOf
      go_enter Tryz.func26, Tryz.ntmps26
      go_upto_region 1 with fail
      rw [← HW1.out]
      go_wp2_with (first
        | (go_at_call 53; go_must (refine HKey.mono ?_; rintro r w2 ⟨rfl, o2, hO2, hM2⟩; obtain ⟨y1, y0, _⟩ := HSt.out w2 o2 hM2; have q0 := y0.cell 0 _ rfl; have q1 := y0.cell 1 _ rfl; have HO2 : Hid (OrcAt w2 o2 ob S1) := hO2; have HM2 : Hid (Mv [1] w1 o1 w2 o2) := hM2; clear hO2 hM2 y1 y0))
        | (go_at_call 55; go_must (refine (HNow.out w2 o2 HM2.out).mono ?_; rintro r w3 ⟨v3, rfl, hK3, hb3⟩; obtain ⟨a3, c3, hv3⟩ := hK3.1.len; subst hv3; have HO3 : Hid (OrcAt w3 (newTo o2 w2 0) ob S1) := (show OrcAt _ _ _ _ from HO2.out.below hb3); have HK3 : Hid (KpF mc w3 (newTo o2 w2 0) (.slice a3 (nowM l).length c3) (nowM l)) := hK3; have HM3 : Hid (Mv [1] w1 o1 w3 (newTo o2 w2 0)) := (show Mv _ _ _ _ _ from HM2.out.trans (Mv.of_below 0 hb3)); clear hK3 hb3))
        | (go_at_call 54; go_must (refine (HWf.out w3 (newTo o2 w2 0) _ HO3.out HK3.out).mono ?_; rintro r w4 ⟨v4, rfl, o4, qs4, hO4, hK4, hq4, hm4, hM4⟩; obtain ⟨a4, c4, hv4⟩ := hK4.1.len; subst hv4; have HM4 : Hid (Mv [1] w1 o1 w4 o4) := (show Mv _ _ _ _ _ from HM3.out.trans hM4); obtain ⟨y1, y0, yc⟩ := HSt.out w4 o4 HM4.out; have j0 := y1.cell 0 _ rfl; have i0 := y1.frozen 0; have j1 := y1.cell 1 _ rfl; have i1 := y1.frozen 1; have j2 := y1.cell 2 _ rfl; have i2 := y1.frozen 2; have j3 := y1.cell 3 _ rfl; have i3 := y1.frozen 3; have j4 := y1.cell 4 _ rfl; have i4 := y1.frozen 4; have j5 := y1.cell 5 _ rfl; have i5 := y1.frozen 5; have q2 := y0.cell 1 _ rfl; have HY4 : Hid (Blk w4 (w.heap.size + 1) 75 [.int .i64 0, .int .i64 0, .int .u64 0, .int .i64 0, .slice none 0 0, .slice none 0 0]) := y1; have HO4 : Hid (OrcAt w4 o4 ob S2) := hO4; have HK4 : Hid (KpF wq w4 o4 (.slice a4 qs4.length c4) qs4) := hK4; have HQ4 : Hid (∀ q ∈ qs4, Kp0 w4 o4 q.2 q.1.b) := hq4; have HW4 : Hid (qs4.map (·.1) = wsl) := hm4; have HC4 : Hid (o4 (w.heap.size + 1) = c) := yc; clear hO4 hK4 hq4 hm4 hM4 y1 y0 yc)))
      refine bodyPost_ret (v := .tuple #[.agg #[.int .i64 0, .int .i64 0, .int .u64 0, .int .i64 0, .slice none 0 0, .slice none 0 0], .int .u64 0, .int .i64 wk]) ?_ rfl ?_
      · rw [results_cell_tmp2 rfl]
        go_simp
      · have hf := bg_none (B := B) HC.out.1 HC.out.2.2 (HM1.out.trans (HM4.out.widen (by simp))) (by rw [HB.out]; first | exact HO4.out | exact HS2 ▸ HO4.out) HY4.out HC4.out (by rw [HB.out]; exact HKD) (by rw [HB.out])
        rw [HB.out] at hf ⊢
        exact hf
end Go.Proofs.YtjbpfhnagiacmaaGreat
