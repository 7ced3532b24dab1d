/-
  The reference's Run and Drop.
-/
import Derived.Test.YtigfklcclfpcjaaRBuf3
namespace Go.Proofs.Ytigfklcclfpcjaa
set_option linter.unusedVariables false
set_option linter.unusedSimpArgs false
set_option synthInstance.maxSize 20000
set_option maxHeartbeats 400000
set_option maxRecDepth 20000
open Go.RowKit Go.Maps

structure RRunP (w : World) (o : Nat → Nat) (j b : Nat) (most : Int) (M : List Ent) (a i : Int) (c : Nat) (v7 : Value) (k : Int) (wr : World) (o' : Nat → Nat) (rs : List (Ent × Value)) (M' : List Ent) : Prop where
  buf : RBufIs wr o' j b most M'
  out : OutAt wr o' c w.heap.size v7 rs
  mv : Mv [j, c] w o wr o'
  r1 : (runM M.length M a i).1 = rs.map (·.1) ++ (runM M'.length M' a k).1
  r2 : (runM M.length M a i).2 = (runM M'.length M' a k).2
  srt : Srt M'
  right : ∀ e ∈ M', rightE e
  cnt : rs.length + M'.length = M.length

theorem rrun_any {w : World} {o : Nat → Nat} {j b : Nat} {most : Int} {M : List Ent} {a i : Int} (h : RBufIs w o j b most M) (hs : Srt M) (hr : ∀ e ∈ M, rightE e) (hj0 : j ≠ 0) (hfew : M.length ≤ 16) :
    Calls Try.prog 17 #[ptr b, .int .i64 a, .int .i64 i] w fun r w' => ∃ v', r = .returned v' ∧ ∃ o' rs, rs.map (·.1) = (runM M.length M a i).1 ∧ RBufIs w' o' j b most (runM M.length M a i).2 ∧ OutAt w' o' 0 w.heap.size v' rs ∧ Mv [j] w o w' o' := by
  obtain ⟨c, hc1, hcj, hcf⟩ := fresh_owner w o j
  have HS : Hid (∃ o' rs M', RRunP w o j b most M a i c (.slice none 0 0) i w o' rs M') := ⟨o, [], M, h, out_nil _ _ _ _, Mv.refl _ _ _, by simp, rfl, hs, hr, by simp⟩
  have HEN : Hid (∀ (wr w2 : World) (v7 : Value) (k : Int) (o' : Nat → Nat) (rs : List (Ent × Value)) (M' : List Ent), RRunP w o j b most M a i c v7 k wr o' rs M' → findM M' a k = none → Below wr.heap.size wr w2 → ∃ o' rs, rs.map (·.1) = (runM M.length M a i).1 ∧ RBufIs w2 o' j b most (runM M.length M a i).2 ∧ OutAt w2 o' 0 w.heap.size v7 rs ∧ Mv [j] w o w2 o') := fun wr w2 v7 k o1 rs M' p hf hb => by
    have m2 : Mv [] wr o1 w2 (newTo o1 wr 0) := Mv.of_below 0 hb
    have hB2 := p.buf.mv m2 (by simp) (by simp)
    have hO2 := p.out.mv m2 (by simp) (by simp)
    have hM2 := p.mv.trans (m2.widen (by simp))
    generalize newTo o1 wr 0 = o' at *
    have hkp : ∀ {y : Value} {l : List Int}, Kp0 w2 o' y l → Kp0 w2 (fun k => if o' k = c then 0 else o' k) y l := fun hy => ⟨hy.1, fun hl k hk => by
      have h0 := hy.2 hl k hk
      show (if o' k = c then 0 else o' k) = 0
      rw [h0, if_neg (by omega)]⟩
    refine ⟨fun k => if o' k = c then 0 else o' k, rs, ?_, ?_, ⟨hO2.row, fun k hk => ⟨?_, (hO2.own k hk).2⟩, fun q hq => ⟨(hO2.ents q hq).1, hkp (hO2.ents q hq).2⟩⟩, ?_⟩
    · rw [p.r1, runM_no hf]; simp
    · rw [p.r2, runM_no hf]
      obtain ⟨v, ps, hB⟩ := hB2
      refine ⟨v, ps, hB.blk, ?_, ⟨hB.out.row, fun k hk => ⟨?_, Nat.zero_le _⟩, fun q hq => ⟨(hB.out.ents q hq).1, hkp (hB.out.ents q hq).2⟩⟩, hB.map⟩
      · show (if o' b = c then 0 else o' b) = j
        rw [hB.ob, if_neg (by omega)]
      · show (if o' k = c then 0 else o' k) = 0
        rw [(hB.out.own k hk).1, if_neg (by omega)]
    · show (if o' k = c then 0 else o' k) = 0
      rw [if_pos (hO2.own k hk).1]
    · refine ⟨hM2.os, hM2.tape, hM2.output, hM2.size, fun k hk => ?_, fun k hk hn => hM2.block k hk ?_⟩
      · show (if o' k = c then 0 else o' k) = o k
        rw [hM2.ext k hk, if_neg (hcf k hk)]
      · have h1 := hcf k hk
        simp at hn ⊢
        exact ⟨hn, h1⟩
  clear h hs hr hcf
  go_enter Try.func17, Try.ntmps17
  go_wp2
  go_loopw [7, 8] (fun v7 v8 wr => ∃ (a7 : Option Addr) (n7 c7 : Nat) (k : Int), v7 = .slice a7 n7 c7 ∧ v8 = .int .i64 k ∧ n7 ≤ 16 ∧ Hid (∃ o' rs M', RRunP w o j b most M a i c (.slice a7 n7 c7) k wr o' rs M')) (fun v7 _ _ => 17 - slLen v7)
  case atStart => exact ⟨_, _, _, _, rfl, rfl, by omega, HS⟩
  case round =>
    obtain ⟨a7, n7, c7, k, rfl, rfl, hn7, HI⟩ := hrel
    obtain ⟨o', rs, M', p⟩ := HI.out
    have hcnt := p.cnt
    have hrl : n7 = rs.length := p.out.rowE.cap.1
    cases hf : findM M' a k with
    | none =>
      have TK := rtake_none p.buf hf
      have HE : Hid (∀ w2, Below wr.heap.size wr w2 → ∃ o' rs, rs.map (·.1) = (runM M.length M a i).1 ∧ RBufIs w2 o' j b most (runM M.length M a i).2 ∧ OutAt w2 o' 0 w.heap.size (.slice a7 n7 c7) rs ∧ Mv [j] w o w2 o') := fun w2 hb => HEN.out wr w2 _ k o' rs M' p hf hb
      unfold ev zeroE at TK
      dsimp only at TK
      have HTK : Hid (Calls _ _ _ _ _) := TK
      clear TK HI p hcnt hrl hf HS HEN
      go_wp2_with (go_at_call 13; go_must (refine HTK.out.mono ?_; rintro r w2 ⟨rfl, hb2⟩))
      go_ret
      exact ⟨_, rfl, HE.out _ (balloc hb2 _)⟩
    | some e =>
      obtain ⟨he1, he2, he3⟩ := findM_some hf
      have hri := (p.right e he1).2.1
      rw [he3] at hri
      have hll := lessM_length p.srt he1
      rw [he2, he3] at hll
      obtain ⟨x, hkp, heok, TK⟩ := rtake_hit p.buf p.srt hj0 (by omega) hf
      have hry := runM_yes p.srt hf
      rw [he3] at hry
      have HRow : Hid (∀ w2 o2, Mv [j] wr o' w2 o2 → w2.ownsRow 0 38 8 (.slice a7 n7 c7) rs.length (flatE rs)) := fun w2 o2 m => (p.out.mv m (by simp; omega) (by simp; omega)).row
      have HNX : Hid (∀ (w2 : World) (o2 : Nat → Nat) (ob1 ob2 : Obj) (w5 : World) (v5 : Value), RBufIs w2 o2 j b most (lessM M' a k) → Mv [j] wr o' w2 o2 → ((w2.alloc ob1).alloc ob2).grownBy w5 (Value.slice a7 n7 c7).ownBlock → w5.ownsRow 0 38 8 v5 (rs ++ [(e, x)]).length (flatE (rs ++ [(e, x)])) → (∀ i, v5.ownBlock = some i → (Value.slice a7 n7 c7).ownBlock = some i ∨ ((w2.alloc ob1).alloc ob2).heap.size ≤ i) → ∃ oz rz Mz, RRunP w o j b most M a i c v5 (k + 1) w5 oz rz Mz) := fun w2 o2 ob1 ob2 w5 v5 hB2 m2 hg hrow hwh => by
        have m3 : Mv [] w2 o2 (w2.alloc ob1) (newTo o2 w2 0) := Mv.of_below 0 (balloc (Below.refl _ _) _)
        have hO3 := (p.out.mv m2 (by simp; omega) (by simp; omega)).mv m3 (by simp) (by simp)
        have hsz : w.heap.size ≤ (w2.alloc ob1).heap.size := Nat.le_trans p.mv.size (Nat.le_trans m2.size m3.size)
        obtain ⟨o5, h5, m5⟩ := hO3.add (by omega) hsz heok ((hkp.mv m2 (by simp; omega)).mv m3 (by simp)) ob2 hg hrow hwh
        refine ⟨o5, rs ++ [(e, x)], lessM M' a k, (hB2.mv m3 (by simp) (by simp)).mv m5 (by simp; omega) (by simp; omega), h5, ((p.mv.trans (m2.widen (by simp))).trans (m3.widen (by simp))).trans (m5.widen (by simp)), ?_, ?_, lessM_srt p.srt a k, fun f hf' => p.right f (List.mem_filter.1 hf').1, ?_⟩
        · rw [p.r1, hry]; simp
        · rw [p.r2, hry]
        · simp; omega
      have O1 : ∀ u ∈ flatE [(e, x)], u.oneCell' = true := (ents_one heok hkp).one
      have R1 := fun (w' : World) => rowE_one w' e x
      have HL : Hid (n7 = rs.length) := hrl
      have hn15 : n7 ≤ 15 := by omega
      obtain ⟨ax, cx, hxx⟩ := hkp.1.len
      subst hxx
      clear HI p hcnt hrl hf HS HEN he1 he2 he3 hll hry hkp heok
      generalize lessM M' a k = ML at *
      obtain ⟨ew, ei, ep, et, eu, en, eb, eg⟩ := e
      unfold ev at TK
      dsimp only at *
      have HTK : Hid (Calls _ _ _ _ _) := TK
      have HO1 : Hid (_) := O1
      have HR1 : Hid (_) := R1
      clear TK O1 R1
      go_wp2_with (first
        | (go_at_call 13; go_must (refine HTK.out.mono ?_; rintro r w2 ⟨rfl, o2, g1, g2⟩; have HG1 : Hid (RBufIs w2 o2 j b most ML) := g1; have HG2 : Hid (Mv [j] wr o' w2 o2) := g2; have HRw2 : Hid (w2.ownsRow 0 38 8 (.slice a7 n7 c7) rs.length (flatE rs)) := HRow.out w2 o2 g2; have X2 := blk_new w2 [.int .i64 ew, .int .i64 ei, .int .u64 ep, .int .i64 et, .int .i64 eu, .int .i64 en, .slice ax eb.length cx, .int .u64 eg] 38; have y0 := X2.cell 0 _ rfl; have y1 := X2.cell 1 _ rfl; have y2 := X2.cell 2 _ rfl; have y3 := X2.cell 3 _ rfl; have y4 := X2.cell 4 _ rfl; have y5 := X2.cell 5 _ rfl; have y6 := X2.cell 6 _ rfl; have y7 := X2.cell 7 _ rfl; have RB0 := HR1.out (w2.alloc (.cells #[.int .i64 ew, .int .i64 ei, .int .u64 ep, .int .i64 et, .int .i64 eu, .int .i64 en, .slice ax eb.length cx, .int .u64 eg] 38)); rw [show (w2.alloc (.cells #[.int .i64 ew, .int .i64 ei, .int .u64 ep, .int .i64 et, .int .i64 eu, .int .i64 en, .slice ax eb.length cx, .int .u64 eg] 38)).heap.size = w2.heap.size + 1 by simp] at RB0; have HRB : Hid (RowE _ _ _) := RB0; clear g1 g2 X2 RB0))
        | (at_builtin; go_must (refine wpList_append_ents rfl (.tmp 24) (.tmp 26) rfl _ rs rfl ((HRw2.out.alloc _).alloc _) _ _ rfl HRB.out HO1.out (by have := HL.out; simp; omega) ?_; intro v5 w5 hr5 hg5 hw5; have HE5 := HNX.out w2 o2 _ _ w5 v5 HG1.out HG2.out hg5 hr5 hw5; obtain ⟨a5, c5, hv5, _⟩ := slice_of_own hr5; have HN5 : Hid ((rs ++ [((⟨ew, ei, ep, et, eu, en, eb, eg⟩ : Ent), (.slice ax eb.length cx : Value))]).length = n7 + 1) := (show _ = _ from by have := HL.out; simp; omega); rw [HN5.out] at hv5; subst hv5; have HP5 : Hid (∃ oz rz Mz, RRunP w o j b most M a i c (.slice a5 (n7 + 1) c5) (k + 1) w5 oz rz Mz) := HE5; clear hr5 hg5 hw5 HE5)))
      go_roundw
      case rel => exact ⟨_, _, _, k + 1, rfl, by go_num, by omega, HP5⟩
      case measure => simp [slLen]; omega

structure RDropP (w : World) (o : Nat → Nat) (c : Nat) (a n : Int) (ps : List (Ent × Value)) (v7 : Value) (k : Nat) (wr : World) (o' : Nat → Nat) (rs : List (Ent × Value)) : Prop where
  out : OutAt wr o' c w.heap.size v7 rs
  mv : Mv [c] w o wr o'
  map : rs.map (·.1) = ((ps.take k).map (·.1)).filter (fun f => !earlyB a n f)

theorem rdrop_any {w : World} {o : Nat → Nat} {j b : Nat} {most : Int} {M : List Ent} {a n : Int} (h : RBufIs w o j b most M) (hj0 : j ≠ 0) (hfew : M.length ≤ 16) :
    Calls Try.prog 19 #[ptr b, .int .i64 a, .int .i64 n] w fun r w' => r = .returned (.int .i64 ((M.filter (earlyB a n)).length : Int)) ∧ ∃ o', RBufIs w' o' j b most (dropM M a n) ∧ Mv [j] w o w' o' := by
  obtain ⟨v, ps, h⟩ := h
  obtain ⟨c, hc1, hcj, hcf⟩ := fresh_owner w o j
  have hlen := h.len
  have hcnt := drop_count M a n
  have HRw : Hid (∀ w' o', Mv [c] w o w' o' → RBufAt w' o' j b most v ps M) := fun w' o' m => h.mv m (by simp; omega) (by simp; omega)
  obtain ⟨av, cv, hvv⟩ := h.out.rowE.len
  have hcv := h.out.rowE
  rw [hvv] at hcv
  have hcap := hcv.cap.2
  subst hvv
  have HS : Hid (∃ o' rs, RDropP w o c a n ps (.slice none 0 0) 0 w o' rs ∧ rs.length = 0) := ⟨o, [], ⟨out_nil _ _ _ _, Mv.refl _ _ _, by simp⟩, rfl⟩
  have HEN : Hid (∀ (wr : World) (v7 : Value) (o' : Nat → Nat) (rs : List (Ent × Value)), RDropP w o c a n ps v7 ps.length wr o' rs → ∃ o', RBufIs (wr.setCell ⟨b, 1, none⟩ v7) o' j b most (dropM M a n) ∧ Mv [j] w o (wr.setCell ⟨b, 1, none⟩ v7) o') := fun wr v7 o' rs p => by
    have hb : Below w.heap.size w wr := p.mv.below (Nat.le_refl _) (fun k hk => by have := hcf k hk; simp; omega)
    have h5 := h.below hb
    have G := grown_setCell wr b 1 v7
    have hblt := h.blk.lt
    have M1 : Mv [j] wr (newTo o w 0) (wr.setCell ⟨b, 1, none⟩ v7) (newTo (newTo o w 0) wr 0) := Mv.of_grown G (fun i hi _ => by cases hi; rw [h5.ob]; simp)
    have hre : Ents wr (newTo o w 0) rs := fun q hq => ⟨(p.out.ents q hq).1, (p.out.ents q hq).2.reown p.mv⟩
    refine ⟨_, ⟨v7, rs, h5.blk.set 1 v7, ?_, ⟨?_, fun i hi' => ⟨?_, Nat.zero_le _⟩, hre.mv M1 (by simp; omega)⟩, ?_⟩, (Mv.of_below 0 hb).trans M1⟩
    · rw [newTo_old h5.blk.lt]; exact h5.ob
    · exact ownsRow_block p.out.row (fun i hi' => G.block i (p.out.row.lt i hi').2 (fun e' => by have := Option.some.inj e'; have := (p.out.own i hi').2; omega))
    · rw [newTo_old (p.out.row.lt i hi').2]
      exact newTo_new (p.out.own i hi').2
    · rw [p.map, List.take_length, h.map]
      rfl
  have HMp : Hid (ps.map (·.1) = M) := h.map
  have hps : ps.length ≤ 16 := by omega
  have HCn : Hid ((M.filter (earlyB a n)).length + (dropM M a n).length = ps.length) := (show _ = _ from by omega)
  clear h hcv hcf hlen hcnt
  go_enter Try.func19, Try.ntmps19
  go_wp2
  go_loopw [7, 8] (fun v7 v8 wr => ∃ (a7 : Option Addr) (n7 c7 k : Nat), v7 = .slice a7 n7 c7 ∧ v8 = .int .i64 k ∧ k ≤ ps.length ∧ n7 ≤ k ∧ Hid (∃ o' rs, RDropP w o c a n ps (.slice a7 n7 c7) k wr o' rs ∧ rs.length = n7)) (fun _ v8 _ => ps.length - (intOf v8).toNat)
  case atStart => exact ⟨_, _, _, 0, rfl, rfl, by omega, by omega, HS⟩
  case round =>
    obtain ⟨a7, n7, c7, k, rfl, rfl, hk, hn7, HI⟩ := hrel
    obtain ⟨o', rs, p, hln⟩ := HI.out
    have hR := HRw.out wr o' p.mv
    have l1 := hR.blk.cell 1 _ rfl
    have g1 := hR.blk.frozen 1
    by_cases hkl : k < ps.length
    · obtain ⟨q, hq⟩ : ∃ q, ps[k]? = some q := ⟨_, List.getElem?_eq_getElem hkl⟩
      obtain ⟨g, off, ea, hc⟩ := hR.out.rowE.at hq
      subst ea
      have hEq := hR.out.ents q (List.mem_of_getElem? hq)
      have htk : ((ps.take (k + 1)).map (·.1)).filter (fun f => !earlyB a n f) = ((ps.take k).map (·.1)).filter (fun f => !earlyB a n f) ++ (if earlyB a n q.1 = true then [] else [q.1]) := by
        rw [List.take_add_one, hq, List.map_append, List.filter_append]
        congr 1
        cases hb : earlyB a n q.1 <;> simp [hb]
      by_cases he : earlyB a n q.1 = true
      · have heq := (earlyB_iff _ _ _).1 he
        have HNx : Hid (∃ o' rs, RDropP w o c a n ps (.slice a7 n7 c7) (k + 1) wr o' rs ∧ rs.length = n7) := ⟨o', rs, ⟨p.out, p.mv, by rw [htk, if_pos he, List.append_nil]; exact p.map⟩, hln⟩
        have d0 := hc 0 _ rfl
        have d1 := hc 1 _ rfl
        simp only [Nat.add_zero] at d0
        rw [heq.1] at d0
        have hlt := heq.2
        generalize q.1.i = qi at *
        clear HI p hln hR hc hEq htk he heq HS hq HEN
        go_wp2
        go_roundw
        case rel => exact ⟨_, _, _, k + 1, rfl, by go_num, by omega, by omega, HNx⟩
        case measure => simp [intOf]; omega
      · have hne : ¬ (q.1.w = a ∧ q.1.i < n) := fun h' => he ((earlyB_iff _ _ _).2 h')
        have AD := fun (w5 : World) (v' : Value) ob h5 h6 h7 => p.out.add (w5 := w5) (v' := v') (by omega) p.mv.size hEq.1 hEq.2 ob h5 h6 h7
        have HNX : Hid (∀ (w5 : World) (v5 : Value), (∃ o5, OutAt w5 o5 c w.heap.size v5 (rs ++ [(q.1, q.2)]) ∧ Mv [c] wr o' w5 o5) → ∃ o' rs, RDropP w o c a n ps v5 (k + 1) w5 o' rs ∧ rs.length = n7 + 1) := fun w5 v5 h5 => by
          obtain ⟨o5, h1, m5⟩ := h5
          refine ⟨o5, rs ++ [(q.1, q.2)], ⟨h1, p.mv.trans m5, ?_⟩, by simp [hln]⟩
          rw [htk, if_neg he, List.map_append, p.map]
          rfl
        have O1 : ∀ u ∈ flatE [(q.1, q.2)], u.oneCell' = true := (ents_one hEq.1 hEq.2).one
        have R1 := fun (w' : World) => rowE_one w' q.1 q.2
        have HRow : Hid (wr.ownsRow 0 38 8 (.slice a7 n7 c7) rs.length (flatE rs)) := p.out.row
        have HL : Hid (rs.length = n7) := hln
        obtain ⟨ax, cx, hxx⟩ := hEq.2.1.len
        obtain ⟨e, x⟩ := q
        dsimp only at *
        subst hxx
        obtain ⟨ew, ei, ep, et, eu, en, eb, eg⟩ := e
        unfold ec at hc
        dsimp only at *
        have HAD : Hid (_) := AD
        have HO1 : Hid (_) := O1
        have HR1 : Hid (_) := R1
        have d0 := hc 0 _ rfl; have d1 := hc 1 _ rfl; have d2 := hc 2 _ rfl; have d3 := hc 3 _ rfl; have d4 := hc 4 _ rfl; have d5 := hc 5 _ rfl; have d6 := hc 6 _ rfl; have d7 := hc 7 _ rfl
        simp only [Nat.add_zero] at d0
        clear HI p hln hR hc hEq htk he HS hq HEN AD O1 R1
        by_cases hw : ew = a
        · subst hw
          have hlt : ¬ ei < n := fun h' => hne ⟨rfl, h'⟩
          clear hne
          go_wp2_with (at_builtin; go_must (refine wpList_append_ents rfl (.tmp 41) (.tmp 49) rfl _ rs rfl (HRow.out.alloc _) _ _ rfl (HR1.out wr) HO1.out (by have := HL.out; simp; omega) ?_; intro v5 w5 hr5 hg5 hw5; have HE5 := HNX.out w5 v5 (HAD.out w5 v5 _ hg5 hr5 hw5); obtain ⟨a5, c5, hv5, _⟩ := slice_of_own hr5; have HN5 : Hid ((rs ++ [((⟨ew, ei, ep, et, eu, en, eb, eg⟩ : Ent), (.slice ax eb.length cx : Value))]).length = n7 + 1) := (show _ = _ from by have := HL.out; simp; omega); rw [HN5.out] at hv5; subst hv5; have HP5 : Hid (_) := HE5; clear hr5 hg5 hw5 HE5))
          go_roundw
          case rel => exact ⟨_, _, _, k + 1, rfl, by go_num, by omega, by omega, HP5⟩
          case measure => simp [intOf]; omega
        · have hw2 : (ew != a) = true := by simpa using hw
          clear hne hw
          go_wp2_with (at_builtin; go_must (refine wpList_append_ents rfl (.tmp 41) (.tmp 49) rfl _ rs rfl (HRow.out.alloc _) _ _ rfl (HR1.out wr) HO1.out (by have := HL.out; simp; omega) ?_; intro v5 w5 hr5 hg5 hw5; have HE5 := HNX.out w5 v5 (HAD.out w5 v5 _ hg5 hr5 hw5); obtain ⟨a5, c5, hv5, _⟩ := slice_of_own hr5; have HN5 : Hid ((rs ++ [((⟨ew, ei, ep, et, eu, en, eb, eg⟩ : Ent), (.slice ax eb.length cx : Value))]).length = n7 + 1) := (show _ = _ from by have := HL.out; simp; omega); rw [HN5.out] at hv5; subst hv5; have HP5 : Hid (_) := HE5; clear hr5 hg5 hw5 HE5))
          go_roundw
          case rel => exact ⟨_, _, _, k + 1, rfl, by go_num, by omega, by omega, HP5⟩
          case measure => simp [intOf]; omega
    · obtain rfl : k = ps.length := by omega
      have HE := HEN.out wr _ o' rs p
      have hn : n7 = (dropM M a n).length := by
        have h1 := congrArg List.length p.map
        rw [List.take_length, HMp.out, List.length_map, hln] at h1
        exact h1
      have hcc := HCn.out
      have HE' : Hid (_) := HE
      have HCC : Hid ((ps.length : Int) - n7 = ((M.filter (earlyB a n)).length : Int)) := (show _ = _ from by omega)
      clear HI p hln hR HS HEN hn hcc HE
      go_wp2
      go_ret
      refine ⟨?_, HE'.out⟩
      rw [← HCC.out]
      rfl
end Go.Proofs.Ytigfklcclfpcjaa
