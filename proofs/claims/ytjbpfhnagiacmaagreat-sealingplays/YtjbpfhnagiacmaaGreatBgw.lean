/-
  Begin's wraps (wrapFor): a wrap of the key for each member, in order. Rows that stay (KpF); a row that is grown under an owner of its own.
-/
import Derived.Test.YtjbpfhnagiacmaaGreatRLr
namespace Go.Proofs.YtjbpfhnagiacmaaGreat
set_option linter.unusedVariables false
set_option linter.unusedSimpArgs false
set_option synthInstance.maxSize 20000
set_option maxHeartbeats 2000000
set_option maxRecDepth 20000
open Go.RowKit Go.Maps
def KpF {α : Type} (f : α → List Value) (w : World) (o : Nat → Nat) (v : Value) (l : List α) : Prop := RowF f w v l ∧ (l ≠ [] → ∀ k, v.ownBlock = some k → k < w.heap.size ∧ o k = 0)
theorem KpF.mv {α : Type} {f : α → List Value} {I : List Nat} {w w' : World} {o o' : Nat → Nat} {v : Value} {l : List α} (h : KpF f w o v l) (m : Mv I w o w' o') (h0 : 0 ∉ I) : KpF f w' o' v l := by
  by_cases hl : l = []
  · subst hl
    obtain ⟨⟨a, cap, rfl, h1, h2, h3, h4⟩, _⟩ := h
    exact ⟨⟨a, cap, rfl, h1, h2, h3, fun hp => by simp at hp⟩, fun hl => absurd rfl hl⟩
  · exact ⟨h.1.blocks (fun k hk hlt => m.block k hlt (by rw [(h.2 hl k hk).2]; exact h0)), fun _ k hk => ⟨Nat.lt_of_lt_of_le (h.2 hl k hk).1 m.size, by rw [m.ext k (h.2 hl k hk).1]; exact (h.2 hl k hk).2⟩⟩
theorem rowF_lt {α : Type} {f : α → List Value} {w : World} {v : Value} {l : List α} (hf : ∀ x, 0 < (f x).length) (h : RowF f w v l) (hl : l ≠ []) : ∀ k, v.ownBlock = some k → k < w.heap.size := by
  obtain ⟨a, cap, rfl, h1, h2, h3, h4⟩ := h
  intro k hk
  have hp : 0 < l.length := by
    cases l with
    | nil => exact absurd rfl hl
    | cons x l => simp
  obtain ⟨b, off, rfl, hc⟩ := h4 hp
  simp [Value.ownBlock] at hk
  subst hk
  cases l with
  | nil => exact absurd rfl hl
  | cons x l =>
    have hx := hf x
    have : (flat f (x :: l))[0]? = some ((f x)[0]'hx) := by
      rw [flat, List.flatMap_cons, List.getElem?_append_left hx, List.getElem?_eq_getElem hx]
    exact World.block_lt_of_cell? w _ (hc 0 _ this)
theorem mc_pos (m : Mb) : 0 < (mc m).length := by rw [mc_len]; omega
theorem KpF.of_new {α : Type} {f : α → List Value} {w w' : World} {o : Nat → Nat} {v : Value} {l : List α} (hf : ∀ x, 0 < (f x).length) (h : RowF f w' v l) (hn : ∀ k, v.ownBlock = some k → w.heap.size ≤ k) : KpF f w' (newTo o w 0) v l := ⟨h, fun hl k hk => ⟨rowF_lt hf h hl k hk, newTo_new (hn k hk)⟩⟩
theorem grow_owner {w3 w4 : World} {ob : Obj} {o3 : Nat → Nat} {c n : Nat} {e : TypeId} {k : Nat} {v v' : Value} {xs : List Value} (h : w3.ownsRow 0 e k v n xs) (hv : ∀ j, v.ownBlock = some j → o3 j = c) (hg : (w3.alloc ob).grownBy w4 v.ownBlock) (hn : ∀ j, v'.ownBlock = some j → v.ownBlock = some j ∨ (w3.alloc ob).heap.size ≤ j) :
    ∃ o5, Mv [c] w3 o3 w4 o5 ∧ ∀ j, v'.ownBlock = some j → o5 j = c := by
  have m4 : Mv [] w3 o3 (w3.alloc ob) (newTo o3 w3 0) := Mv.of_below 0 (balloc (Below.refl _ _) _)
  have m5 : Mv [c] (w3.alloc ob) (newTo o3 w3 0) w4 (newTo (newTo o3 w3 0) (w3.alloc ob) c) := Mv.of_turn c (turn_grown hg) (fun j hj _ => by
    have hj' : v.ownBlock = some j := by simpa using hj
    rw [newTo_old (h.lt j hj').2, hv j hj']; simp)
  refine ⟨_, (m4.widen (by simp)).trans m5, fun j hj => ?_⟩
  rcases hn j hj with r | r
  · have hlt := (h.lt j r).2
    rw [newTo_old (Nat.lt_of_lt_of_le hlt m4.size), newTo_old hlt]
    exact hv j r
  · exact newTo_new r
def reown (c : Nat) (o : Nat → Nat) : Nat → Nat := fun k => if o k = c then 0 else o k
theorem reown_at {c k : Nat} {o : Nat → Nat} (h : o k = c) : reown c o k = 0 := if_pos h
theorem reown_not {c k : Nat} {o : Nat → Nat} (h : o k ≠ c) : reown c o k = o k := if_neg h
theorem reown_zero {c k : Nat} {o : Nat → Nat} (h : o k = 0) : reown c o k = 0 := by
  unfold reown
  split
  · rfl
  · exact h
theorem Mv.reown {I : List Nat} {w w' : World} {o o' : Nat → Nat} {c : Nat} (h : Mv I w o w' o') (hc : ∀ k, k < w.heap.size → o k ≠ c) : Mv I w o w' (reown c o') :=
  ⟨h.os, h.tape, h.output, h.size, fun k hk => by rw [reown_not (by rw [h.ext k hk]; exact hc k hk)]; exact h.ext k hk, h.block⟩
theorem Kp0.reown {w : World} {o : Nat → Nat} {v : Value} {l : List Int} (h : Kp0 w o v l) (c : Nat) : Kp0 w (reown c o) v l := ⟨h.1, fun hl k hk => reown_zero (h.2 hl k hk)⟩
theorem OrcAt.reown {w : World} {o : Nat → Nat} {b : Nat} {S : St} (h : OrcAt w o b S) {c : Nat} (hc : c ≠ 1) : OrcAt w (reown c o) b S := by
  obtain ⟨ft, hr, ho⟩ := h
  exact ⟨ft, hr, fun k hk => by rw [reown_not (by rw [ho k hk]; exact fun e => hc e.symm)]; exact ho k hk⟩
theorem wrapF_take {key : Int} {l : List Mb} {k : Nat} {m : Mb} {S S1 : St} {ws : List Wp} (hm : l[k]? = some m) (h : wrapF key (l.take k) S = (S1, ws, 0)) :
    ((S1.wrap m.p key).1.2 = 0 → wrapF key (l.take (k + 1)) S = ((S1.wrap m.p key).2, ws ++ [⟨m.w, (S1.wrap m.p key).1.1⟩], 0)) ∧ ((S1.wrap m.p key).1.2 ≠ 0 → wrapF key l S = ((S1.wrap m.p key).2, [], (S1.wrap m.p key).1.2)) := by
  have hk := List.getElem?_eq_some_iff.1 hm
  have e : l.take (k + 1) = l.take k ++ [m] := by rw [List.take_succ_eq_append_getElem hk.1, hk.2]
  have hs := wrapF_snoc (key := key) (m := m) (l.take k) S
  rw [h, ← e] at hs
  dsimp only at hs
  refine ⟨fun h0 => by rw [hs]; simp [h0], fun h0 => ?_⟩
  have hs2 : wrapF key (l.take (k + 1)) S = ((S1.wrap m.p key).2, [], (S1.wrap m.p key).1.2) := by rw [hs]; simp [h0]
  have := wrapF_stop (key := key) (S := S) (l.drop (k + 1)) (l.take (k + 1)) (by rw [hs2]; exact h0)
  rw [List.take_append_drop] at this
  rw [this, hs2]
theorem wrapFor34 {w : World} {o : Nat → Nat} {ob N : Nat} {S : St} (hO : OrcAt w o ob S) (hS : Ora S N) {v : Value} {l : List Mb} (hv : KpF mc w o v l) (hN : N + l.length ≤ 80000) (hll : l.length ≤ 1000) {key : Int} (hk : U64 key) (hp : ∀ m ∈ l, U64 m.p) :
    Calls Tryz.prog 54 #[ptr ob, v, .int .u64 key] w fun x w' => ∃ v', x = .returned (.tuple #[v', .int .i64 (if l = [] then 10 else (wrapF key l S).2.2)]) ∧ ∃ o' qs, OrcAt w' o' ob (wrapF key l S).1 ∧ KpF wq w' o' v' qs ∧ (∀ q ∈ qs, Kp0 w' o' q.2 q.1.b) ∧ qs.map (·.1) = (wrapF key l S).2.1 ∧ Mv [1] w o w' o' := by
  obtain ⟨av, cap, rfl⟩ := hv.1.len
  have hcap := hv.1.caps
  have hc1 : l.length ≤ cap := hcap.2.1
  have hc2 : cap ≤ 9223372036854775807 := hcap.2.2
  have HO : Hid (OrcAt w o ob S) := hO
  have HS : Hid (Ora S N) := hS
  by_cases hl : l = []
  · subst hl
    rw [if_pos rfl]
    clear hv hcap
    go_enter Tryz.func54, Tryz.ntmps54
    go_wp2
    go_ret2
    exact ⟨_, rfl, o, [], HO.out, ⟨rowF_nil _, fun h => absurd rfl h⟩, (fun q hq => by cases hq), rfl, Mv.refl _ _ _⟩
  · rw [if_neg hl]
    obtain ⟨c, hc3, hc4, hc5⟩ := fresh_owner w o 8
    have HC : Hid (1 < c ∧ 8 < c ∧ ∀ k, k < w.heap.size → o k ≠ c) := ⟨hc3, hc4, hc5⟩
    obtain ⟨n, hn⟩ : ∃ n, n = l.length := ⟨_, rfl⟩
    have hn0 : 0 < n := by
      rw [hn]
      cases l with
      | nil => exact absurd rfl hl
      | cons x l => simp
    have HN : Hid (n = l.length ∧ N + n ≤ 80000 ∧ n ≤ 1000) := ⟨hn, by omega, by omega⟩
    have HV : Hid (KpF mc w o (.slice av n cap) l) := (by rw [hn]; exact hv)
    have HP : Hid (∀ m ∈ l, U64 m.p) := hp
    have HK : Hid (U64 key) := hk
    obtain ⟨WF, hWF⟩ : ∃ WF, WF = wrapF key l S := ⟨_, rfl⟩
    have HWF : Hid (WF = wrapF key l S) := hWF
    have hnz : ((n : Int) == 0) = false := by simp; omega
    rw [← hWF]
    rw [← hn] at hc1 ⊢
    clear hv hcap hO hS hn hp hk hWF hl hc3 hc4 hc5 hN hll
    go_enter Tryz.func54, Tryz.ntmps54
    go_wp2
    go_loopw [8, 18] (fun vo i wr => ∃ (k : Nat), i = .int .i64 k ∧ k ≤ n ∧ ∃ (o1 : Nat → Nat) (qs1 : List Wq) (S1 : St), Hid (OrcAt wr o1 ob S1) ∧ Hid (wrapF key (l.take k) S = (S1, qs1.map (·.1), 0)) ∧ Hid (Mv [c, 1] w o wr o1) ∧ Hid (wr.ownsRow 0 158 2 vo qs1.length (flat wq qs1)) ∧ Hid (∀ j, vo.ownBlock = some j → o1 j = c) ∧ Hid (∀ q ∈ qs1, Kp0 wr o1 q.2 q.1.b) ∧ Hid (qs1.length = k)) (fun _ i _ => n - (intOf i).toNat)
    case atStart => exact ⟨0, rfl, by omega, o, [], S, HO.out, (by rw [List.take_zero]; rfl), Mv.refl _ _ _, World.ownsRow_nil _ _ _ _, (fun j hj => by cases hj), (fun q hq => by cases hq), rfl⟩
    case round =>
      obtain ⟨k, rfl, hk, o1, qs1, S1, HO1, HW1, HM1, HR1, HRo, HKq, HQL⟩ := hrel
      by_cases hki : k < n
      · obtain ⟨m, hm⟩ : ∃ m, l[k]? = some m := ⟨_, List.getElem?_eq_getElem (by have := HN.out; omega)⟩
        obtain ⟨ht1, ht2⟩ := wrapF_take hm HW1.out
        have HT1 : Hid ((S1.wrap m.p key).1.2 = 0 → wrapF key (l.take (k + 1)) S = ((S1.wrap m.p key).2, qs1.map (·.1) ++ [⟨m.w, (S1.wrap m.p key).1.1⟩], 0)) := ht1
        have HT2 : Hid ((S1.wrap m.p key).1.2 ≠ 0 → wrapF key l S = ((S1.wrap m.p key).2, [], (S1.wrap m.p key).1.2)) := ht2
        have hv1 := HV.out.mv HM1.out (by simp; have := HC.out; omega)
        obtain ⟨b, off, ea, hc⟩ := hv1.1.at mc_len hm
        subst ea
        have hora : Ora S1 (N + k) := by
          have h1 := (wrapF_ora (key := key) (l.take k) HS.out (by rw [List.length_take]; have := HN.out; omega)).1
          rw [HW1.out] at h1
          exact h1.le (by rw [List.length_take]; omega)
        have HMp : Hid (U64 m.p) := HP.out m (List.mem_of_getElem? hm)
        obtain ⟨av2, cp2, hvo, hcp1, hcp2⟩ := slice_of_own HR1.out
        have hqk := HQL.out
        rw [hqk] at hvo hcp1
        subst hvo
        rw [hqk] at HR1
        obtain ⟨x0, x1, x2, x3, x4⟩ := m
        dsimp only at HT1 HT2 HMp
        have c0 := hc 0 _ rfl; have c1 := hc 1 _ rfl; have c2 := hc 2 _ rfl; have c3 := hc 3 _ rfl; have c4 := hc 4 _ rfl
        simp only [Nat.add_zero] at c0
        obtain ⟨w2, hw2⟩ : ∃ w2, w2 = wr.alloc (.cells #[.int .i64 x0, .int .u64 x1, .int .i64 x2, .int .i64 x3, .int .i64 x4] 116) := ⟨_, rfl⟩
        have HW2 : Hid (w2 = wr.alloc (.cells #[.int .i64 x0, .int .u64 x1, .int .i64 x2, .int .i64 x3, .int .i64 x4] 116)) := hw2
        have HB2 : Hid (Below wr.heap.size wr w2) := (by show Below _ _ _; rw [hw2]; exact balloc (Below.refl _ _) _)
        have X2 : Hid (Blk w2 wr.heap.size 116 [.int .i64 x0, .int .u64 x1, .int .i64 x2, .int .i64 x3, .int .i64 x4]) := (by show Blk _ _ _ _; rw [hw2]; exact blk_new wr _ 116)
        have HWr := orc_wrap (HO1.out.below HB2.out) hora (by have := HN.out; omega) HMp.out HK.out
        have k1 := X2.out.cell 1 _ rfl
        generalize hWW : S1.wrap x1 key = WW at *
        obtain ⟨⟨wb, wk⟩, S2⟩ := WW
        dsimp only at HT1 HT2 HWr
        clear hm ht1 ht2 hv1 hc hw2 hora hqk hWW HO1 HW1
        go_upto_region 7 with fail
        rw [← HW2.out]
        by_cases hwk : wk = 0
        · subst hwk
          go_upto_region 10 with (go_at_call 94; go_must (refine HWr.mono ?_; rintro r w3 ⟨v3, rfl, o3, hO3, hK3, hM3⟩; obtain ⟨a3, c3', hv3⟩ := hK3.1.len; subst hv3))
          have X3 : Blk w3 wr.heap.size 116 [.int .i64 x0, .int .u64 x1, .int .i64 x2, .int .i64 x3, .int .i64 x4] := X2.out.block (hM3.block _ X2.out.lt (by rw [newTo_new (Nat.le_refl _)]; simp))
          have hM23 : Mv [c, 1] wr o1 w3 o3 := (Mv.of_below (I := [c, 1]) 0 HB2.out).trans (hM3.widen (by simp))
          have hR3 : w3.ownsRow 0 158 2 (.slice av2 k cp2) k (flat wq qs1) := ownsRow_block HR1.out (fun jj hjj => by
            have hlt := (HR1.out.lt jj hjj).2
            rw [hM3.block jj (Nat.lt_of_lt_of_le hlt HB2.out.size) (by rw [newTo_old hlt, HRo.out jj hjj]; simp; have := HC.out; omega)]
            exact HB2.out.block jj hlt)
          have hRo3 : ∀ jj, (Value.slice av2 k cp2).ownBlock = some jj → o3 jj = c := fun jj hjj => by
            have hlt := (HR1.out.lt jj hjj).2
            rw [hM23.ext jj hlt]
            exact HRo.out jj hjj
          have HR3 : Hid ((w3.alloc (.cells #[.int .i64 x0, .slice a3 wb.length c3'] 158)).ownsRow 0 158 2 (.slice av2 k cp2) qs1.length (flat wq qs1)) := (by rw [HQL.out]; exact hR3.alloc _)
          have HRn : Hid (RowF wq (w3.alloc (.cells #[.int .i64 x0, .slice a3 wb.length c3'] 158)) (.slice (some ⟨w3.heap.size, 0, none⟩) 1 1) [((⟨x0, wb⟩ : Wp), (Value.slice a3 wb.length c3'))]) := rowF_one w3 ((⟨x0, wb⟩ : Wp), (Value.slice a3 wb.length c3')) 158
          have j0 := X3.cell 0 _ rfl
          have HO3 : Hid (OrcAt w3 o3 ob S2) := hO3
          have HK3 : Hid (Kp0 w3 o3 (.slice a3 wb.length c3') wb) := hK3
          have HM23 : Hid (Mv [c, 1] wr o1 w3 o3) := hM23
          have HRr3 : Hid (w3.ownsRow 0 158 2 (.slice av2 k cp2) k (flat wq qs1)) := hR3
          have HRo3 : Hid (∀ jj, (Value.slice av2 k cp2).ownBlock = some jj → o3 jj = c) := hRo3
          clear hO3 hK3 hM3 hM23 hR3 hRo3 X3 k1
          have HL5 : Hid ((qs1 ++ [((⟨x0, wb⟩ : Wp), (Value.slice a3 wb.length c3'))]).length = k + 1) := (show _ = _ by rw [List.length_append, HQL.out]; rfl)
          go_wp2_with (at_builtin; go_must (refine wpList_append_rows ty35 wq_len (by omega) rfl (.tmp 33) (.tmp 38) rfl _ qs1 rfl HR3.out _ [((⟨x0, wb⟩ : Wp), (Value.slice a3 wb.length c3'))] rfl HRn.out (flat_one fun q hq u hu => by simp at hq; subst hq; simp [wq] at hu; rcases hu with rfl | rfl <;> rfl) (by have := HN.out; have := HQL.out; simp; omega) ?_; intro v5 w5 hr5 hg5 hn5; obtain ⟨a5, q5, hv5, hq5⟩ := slice_of_own hr5; rw [HL5.out] at hv5; subst hv5))
          obtain ⟨o5, m5, r5⟩ := grow_owner HRr3.out HRo3.out hg5 hn5
          go_roundw
          case rel =>
            refine ⟨k + 1, by go_num, by omega, o5, qs1 ++ [((⟨x0, wb⟩ : Wp), (Value.slice a3 wb.length c3'))], S2, HO3.out.mv m5 (by simp; have := HC.out; omega), ?_, ?_, hr5, r5, ?_, HL5.out⟩
            · show wrapF _ _ _ = _
              rw [HT1.out (by first | rfl | trivial), List.map_append]
              rfl
            · exact (HM1.out.trans HM23.out).trans (m5.widen (by simp))
            · intro q hq
              rcases List.mem_append.1 hq with e | e
              · exact ((HKq.out q e).mv HM23.out (by simp; have := HC.out; omega)).mv m5 (by simp; have := HC.out; omega)
              · simp at e
                subst e
                exact HK3.out.mv m5 (by simp; have := HC.out; omega)
          case measure => simp [intOf]; omega
        · have hwk2 : (wk != 0) = true := by simpa using hwk
          have HE : Hid (WF = (S2, [], wk)) := (show _ = _ by rw [HWF.out]; exact HT2.out hwk)
          clear hwk HT1 HT2
          go_wp2_with (go_at_call 94; go_must (refine HWr.mono ?_; rintro r w3 ⟨v3, rfl, o3, hO3, hK3, hM3⟩; obtain ⟨a3, c3', hv3⟩ := hK3.1.len; subst hv3))
          go_ret2
          have hMM : Mv [c, 1] w o w3 o3 := HM1.out.trans ((Mv.of_below (I := [c, 1]) 0 HB2.out).trans (hM3.widen (by simp)))
          refine ⟨_, by first | (rw [HE.out]; done) | (rw [HE.out]; rfl), o3, [], by rw [HE.out]; exact hO3, ⟨rowF_nil _, fun h => absurd rfl h⟩, (fun q hq => by cases hq), by first | (rw [HE.out]; done) | (rw [HE.out]; rfl), hMM.restrict HC.out.2.2⟩
      · have hkn : n = k := by omega
        subst hkn
        have htk : l.take n = l := List.take_of_length_le (by have := HN.out; omega)
        have hw := HW1.out
        rw [htk] at hw
        have HE : Hid (WF = (S1, qs1.map (·.1), 0)) := (show _ = _ by rw [HWF.out]; exact hw)
        obtain ⟨av2, cp2, hvo, hcp1, hcp2⟩ := slice_of_own HR1.out
        subst hvo
        clear htk hw
        go_wp2
        go_ret2
        have hMM : Mv [1] w o wr (reown c o1) := (HM1.out.restrict HC.out.2.2).reown HC.out.2.2
        refine ⟨_, by first | (rw [HE.out]; done) | (rw [HE.out]; rfl), reown c o1, qs1, by rw [HE.out]; exact HO1.out.reown (by have := HC.out; omega), ⟨rowF_own wq_len HR1.out, fun _ jj hjj => ⟨(HR1.out.lt jj hjj).2, reown_at (HRo.out jj hjj)⟩⟩, (fun q hq => (HKq.out q hq).reown c), by first | (rw [HE.out]; done) | (rw [HE.out]; rfl), hMM⟩
end Go.Proofs.YtjbpfhnagiacmaaGreat
