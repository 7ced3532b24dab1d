/-
  Take in one piece; Run by the plain list.
-/
import Derived.Test.YtigfklcclfpcjaaBuf4
namespace Go.Proofs.Ytigfklcclfpcjaa
set_option linter.unusedVariables false
set_option linter.unusedSimpArgs false
set_option synthInstance.maxSize 20000
set_option maxHeartbeats 400000
set_option maxRecDepth 20000
open Go.RowKit Go.Maps

/-- What Take answers. -/
def tkE (M : List Ent) (a i : Int) : Ent := (findM M a i).getD zeroE
def tkB (M : List Ent) (a i : Int) : Bool := (findM M a i).isSome
theorem zero_ok : EOk zeroE := by
  unfold EOk zeroE I64 U64
  exact ⟨by simp, by simp, by simp, by simp, by simp, by simp, by simp, Oct.nil⟩

theorem btake_any {w : World} {o : Nat → Nat} {j b : Nat} {most : Int} {M : List Ent} {a i : Int} (h : BufIs w o j b most M) (hj0 : j ≠ 0) :
    EOk (tkE M a i) ∧ Calls Try.prog 12 #[ptr b, .int .i64 a, .int .i64 i] w fun r w' => ∃ x, r = .returned (.tuple #[ev (tkE M a i) x, .bool (tkB M a i)]) ∧ ∃ o', BufIs w' o' j b most (lessM M a i) ∧ Mv [j] w o w' o' ∧ Kp0 w' o' x (tkE M a i).b := by
  cases hf : findM M a i with
  | none =>
    have e1 : tkE M a i = zeroE := by unfold tkE; rw [hf]; rfl
    have e2 : tkB M a i = false := by unfold tkB; rw [hf]; rfl
    have e3 := lessM_none hf
    rw [e1, e2, e3]
    refine ⟨zero_ok, (btake_none h hf).mono ?_⟩
    rintro r w' ⟨rfl, hb⟩
    exact ⟨_, rfl, _, h.below hb, Mv.of_below 0 hb, kp0_nil _ _⟩
  | some e =>
    have e1 : tkE M a i = e := by unfold tkE; rw [hf]; rfl
    have e2 : tkB M a i = true := by unfold tkB; rw [hf]; rfl
    rw [e1, e2]
    obtain ⟨x, hk, he, C⟩ := btake_hit h hj0 hf
    refine ⟨he, C.mono ?_⟩
    rintro r w' ⟨rfl, o', g1, g2⟩
    exact ⟨x, rfl, o', g1, g2, hk.mv g2 (by simp; omega)⟩

theorem runM_no {n : Nat} {M : List Ent} {a i : Int} (h : findM M a i = none) : runM n M a i = ([], M) := by
  cases n with
  | zero => rfl
  | succ n => unfold runM; rw [h]
theorem runM_yes {M : List Ent} {a i : Int} {e : Ent} (hs : Srt M) (h : findM M a i = some e) : runM M.length M a i = (e :: (runM (lessM M a i).length (lessM M a i) a (e.i + 1)).1, (runM (lessM M a i).length (lessM M a i) a (e.i + 1)).2) := by
  obtain ⟨h1, h2, h3⟩ := findM_some h
  have hl := lessM_length hs h1
  rw [h2, h3] at hl
  rw [← hl]
  conv => lhs; unfold runM
  rw [h, h3]

/-- Where Run is: what is out, whether one is there still, what is left. -/
def RunS (M : List Ent) (a i : Int) (outs : List Ent) (is : Bool) (e : Ent) (M' : List Ent) : Prop :=
  if is = true then (runM M.length M a i).1 = outs ++ e :: (runM M'.length M' a (e.i + 1)).1 ∧ (runM M.length M a i).2 = (runM M'.length M' a (e.i + 1)).2 else (runM M.length M a i).1 = outs ∧ (runM M.length M a i).2 = M'
theorem run_start {M : List Ent} (hs : Srt M) (a i : Int) : RunS M a i [] (tkB M a i) (tkE M a i) (lessM M a i) := by
  unfold RunS tkB tkE
  cases hf : findM M a i with
  | none =>
    rw [if_neg (by simp), runM_no hf, lessM_none hf]
    exact ⟨rfl, rfl⟩
  | some e =>
    rw [if_pos (by simp), runM_yes hs hf]
    exact ⟨rfl, rfl⟩
theorem RunS.step {M M' : List Ent} {a i : Int} {outs : List Ent} {e : Ent} (h : RunS M a i outs true e M') (hs : Srt M') : RunS M a i (outs ++ [e]) (tkB M' a (e.i + 1)) (tkE M' a (e.i + 1)) (lessM M' a (e.i + 1)) := by
  unfold RunS at h
  rw [if_pos rfl] at h
  unfold RunS tkB tkE
  cases hf : findM M' a (e.i + 1) with
  | none =>
    rw [if_neg (by simp), lessM_none hf, h.1, h.2, runM_no hf]
    exact ⟨rfl, rfl⟩
  | some f =>
    rw [if_pos (by simp), h.1, h.2, runM_yes hs hf]
    simp
theorem tk_len {M : List Ent} (hs : Srt M) (a i : Int) : (lessM M a i).length + (tkB M a i).toNat = M.length := by
  unfold tkB
  cases hf : findM M a i with
  | none => rw [lessM_none hf]; rfl
  | some e =>
    obtain ⟨h1, h2, h3⟩ := findM_some hf
    have hl := lessM_length hs h1
    rw [h2, h3] at hl
    exact hl
theorem tk_right {M : List Ent} (hr : ∀ e ∈ M, rightE e) {a i : Int} (h : tkB M a i = true) : rightE (tkE M a i) := by
  unfold tkB at h
  unfold tkE
  cases hf : findM M a i with
  | none => rw [hf] at h; cases h
  | some e => exact hr e (findM_some hf).1

structure RunP (w : World) (o : Nat → Nat) (j b : Nat) (most : Int) (M : List Ent) (a i : Int) (c d : Nat) (v7 : Value) (zb : Nat) (is : Bool) (wr : World) (o' : Nat → Nat) (rs : List (Ent × Value)) (e : Ent) (x : Value) (M' : List Ent) : Prop where
  buf : BufIs wr o' j b most M'
  out : OutAt wr o' c w.heap.size v7 rs
  blk : Blk wr zb 38 (ec e x)
  ob : o' zb = d
  eok : EOk e
  kp : Kp0 wr o' x e.b
  mv : Mv [j, c, d] w o wr o'
  run : RunS M a i (rs.map (·.1)) is e M'
  cnt : rs.length + is.toNat + M'.length = M.length
  right : is = true → rightE e

theorem brun_nil (w : World) (a i : Int) : Calls Try.prog 16 #[.pointer none, .int .i64 a, .int .i64 i] w fun r w' => r = .returned (.slice none 0 0) ∧ Below w.heap.size w w' := by
  have TK := btake_nil w a i
  unfold ev zeroE at TK
  dsimp only at TK
  have HTK : Hid (Calls _ _ _ _ _) := TK
  clear TK
  go_enter Try.func16, Try.ntmps16
  go_wp2_with (go_at_call 12; go_must (refine HTK.out.mono ?_; rintro r w2 ⟨rfl, hb2⟩))
  go_loopw [7, 8, 9] (fun v7 v8 v9 wr => v7 = .slice none 0 0 ∧ (∃ zb, v8 = ptr zb) ∧ v9 = .bool false ∧ Hid (Below w.heap.size w wr)) (fun _ _ _ _ => 0)
  case atStart => exact ⟨rfl, ⟨_, rfl⟩, rfl, (show Below _ _ _ from balloc hb2 _)⟩
  case round =>
    obtain ⟨rfl, ⟨zb, rfl⟩, rfl, HB⟩ := hrel
    go_wp2
    go_ret
    exact ⟨rfl, HB.out⟩

theorem brun_any {w : World} {o : Nat → Nat} {j b : Nat} {most : Int} {M : List Ent} {a i : Int} (h : BufIs w o j b most M) (hj0 : j ≠ 0) :
    Calls Try.prog 16 #[ptr b, .int .i64 a, .int .i64 i] w fun r w' => ∃ v', r = .returned v' ∧ ∃ o' rs, rs.map (·.1) = (runM M.length M a i).1 ∧ BufIs w' o' j b most (runM M.length M a i).2 ∧ OutAt w' o' 0 w.heap.size v' rs ∧ Mv [j] w o w' o' := by
  obtain ⟨c, hc1, hcj, hcf⟩ := fresh_owner w o j
  obtain ⟨d, hd1, hdc, hdf⟩ := fresh_owner w o c
  have hml := h.len
  obtain ⟨he0, TK⟩ := btake_any (a := a) (i := i) h hj0
  have HST : Hid (∀ (w1 : World) (o1 : Nat → Nat) (x : Value), BufIs w1 o1 j b most (lessM M a i) → Mv [j] w o w1 o1 → Kp0 w1 o1 x (tkE M a i).b → ∃ o' rs e x' M', RunP w o j b most M a i c d (.slice none 0 0) w1.heap.size (tkB M a i) (w1.alloc (.cells (ec (tkE M a i) x).toArray 38)) o' rs e x' M') := fun w1 o1 x g1 g2 g3 => by
    have hb := balloc (Below.refl _ w1) (.cells (ec (tkE M a i) x).toArray 38)
    have m0 : Mv [] w1 o1 _ (newTo o1 w1 d) := Mv.of_below d hb
    refine ⟨newTo o1 w1 d, [], tkE M a i, x, lessM M a i, g1.mv m0 (by simp) (by simp), out_nil _ _ _ _, blk_new w1 _ 38, newTo_new (Nat.le_refl _), he0, g3.mv m0 (by simp), (g2.widen (by simp)).trans (Mv.of_below d hb), run_start h.srt a i, ?_, tk_right h.right⟩
    have := tk_len h.srt a i
    simp
    omega
  have HEN : Hid (∀ (wr : World) (v7 : Value) (zb : Nat), (∃ o' rs e x M', RunP w o j b most M a i c d v7 zb false wr o' rs e x M') → ∃ o' rs, rs.map (·.1) = (runM M.length M a i).1 ∧ BufIs wr o' j b most (runM M.length M a i).2 ∧ OutAt wr o' 0 w.heap.size v7 rs ∧ Mv [j] w o wr o') := fun wr v7 zb hp => by
    obtain ⟨o', rs, e, x, M', p⟩ := hp
    have hr := p.run
    unfold RunS at hr
    rw [if_neg (by simp)] at hr
    have hkp : ∀ {y : Value} {l : List Int}, Kp0 wr o' y l → Kp0 wr (fun k => if o' k = c then 0 else o' k) y l := fun hy => ⟨hy.1, fun hl k hk => by
      have h0 := hy.2 hl k hk
      show (if o' k = c then 0 else o' k) = 0
      rw [h0, if_neg (by omega)]⟩
    refine ⟨fun k => if o' k = c then 0 else o' k, rs, hr.1.symm, ?_, ⟨p.out.row, fun k hk => ⟨?_, (p.out.own k hk).2⟩, fun q hq => ⟨(p.out.ents q hq).1, hkp (p.out.ents q hq).2⟩⟩, ?_⟩
    · rw [hr.2]
      obtain ⟨v, ps, hB⟩ := p.buf
      refine ⟨v, ps, ⟨hB.q.blk, hB.q.row, ?_, fun k hk => ⟨?_, (hB.q.own k hk).2⟩, fun q hq => ⟨(hB.q.ents q hq).1, hkp (hB.q.ents q hq).2⟩⟩, hB.has, hB.right, hB.few, hB.top⟩
      · show (if o' b = c then 0 else o' b) = j
        rw [hB.q.ob, if_neg (by omega)]
      · show (if o' k = c then 0 else o' k) = j
        rw [(hB.q.own k hk).1, if_neg (by omega)]
    · show (if o' k = c then 0 else o' k) = 0
      rw [if_pos (p.out.own k hk).1]
    · refine ⟨p.mv.os, p.mv.tape, p.mv.output, p.mv.size, fun k hk => ?_, fun k hk hn => p.mv.block k hk ?_⟩
      · show (if o' k = c then 0 else o' k) = o k
        rw [p.mv.ext k hk, if_neg (hcf k hk)]
      · have h1 := hcf k hk
        have h2 := hdf k hk
        simp at hn ⊢
        exact ⟨hn, h1, h2⟩
  have HTK : Hid (Calls _ _ _ _ _) := TK
  clear h TK he0 hcf hdf
  generalize tkE M a i = e0 at *
  generalize tkB M a i = b0 at *
  generalize lessM M a i = M0 at *
  obtain ⟨zw, zi, zp, zt, zu, zn, zb0, zg⟩ := e0
  unfold ev at HTK
  unfold ec at HST
  dsimp only at *
  go_enter Try.func16, Try.ntmps16
  go_wp2_with (go_at_call 12; go_must (refine HTK.out.mono ?_; rintro r w1 ⟨x1, rfl, o1, g1, g2, g3⟩; obtain ⟨ax1, cx1, hxx⟩ := g3.1.len; subst hxx; have HS : Hid (∃ o' rs e x' M', RunP _ _ _ _ _ _ _ _ _ _ _ _ _ _ o' rs e x' M') := HST.out w1 o1 _ g1 g2 g3; clear g1 g2 g3))
  go_loopw [7, 8, 9] (fun v7 v8 v9 wr => ∃ (a7 : Option Addr) (n7 c7 zb : Nat) (is : Bool), v7 = .slice a7 n7 c7 ∧ v8 = ptr zb ∧ v9 = .bool is ∧ n7 ≤ 16 ∧ Hid (∃ o' rs e x M', RunP w o j b most M a i c d (.slice a7 n7 c7) zb is wr o' rs e x M')) (fun v7 _ _ _ => 17 - slLen v7)
  case atStart => exact ⟨_, _, _, _, _, rfl, rfl, rfl, by omega, HS⟩
  case round =>
    obtain ⟨a7, n7, c7, zb, is, rfl, rfl, rfl, hn7, HI⟩ := hrel
    cases is with
    | false =>
      go_wp2
      go_ret
      exact ⟨_, rfl, HEN.out _ _ _ HI.out⟩
    | true =>
      obtain ⟨o', rs, e, x, M', p⟩ := HI.out
      have hcnt := p.cnt
      have hrl : n7 = rs.length := p.out.rowE.cap.1
      have hright := p.right rfl
      have hei : 0 ≤ e.i ∧ e.i ≤ 199 := hright.2.1
      have hzlt := p.blk.lt
      have hne : EOk (tkE M' a (e.i + 1)) := (btake_any p.buf hj0).1
      -- behind the append
      have AD := fun (w5 : World) (v' : Value) ob h5 h6 h7 => p.out.add (w5 := w5) (v' := v') (by omega) p.mv.size p.eok p.kp ob h5 h6 h7
      have HBk : Hid (∀ (w5 : World) (o5 : Nat → Nat), Mv [c] wr o' w5 o5 → Blk w5 zb 38 (ec e x)) := fun w5 o5 m => p.blk.block (m.block zb p.blk.lt (by rw [p.ob]; simp; omega))
      have TK2 := fun (w5 : World) (o5 : Nat → Nat) (ob : Obj) (m : Mv [c] wr o' w5 o5) => (btake_any (a := a) (i := e.i + 1) ((p.buf.mv m (by simp; omega) (by simp; omega)).mv (Mv.of_below (I := []) d (balloc (Below.refl _ w5) ob)) (by simp) (by simp)) hj0).2
      have NX : ∀ (w5 : World) (o5 : Nat → Nat) (v5 : Value) (ob : Obj) (w7 : World) (o7 : Nat → Nat) (x7 : Value), OutAt w5 o5 c w.heap.size v5 (rs ++ [(e, x)]) → Mv [c] wr o' w5 o5 → BufIs w7 o7 j b most (lessM M' a (e.i + 1)) → Mv [j] (w5.alloc ob) (newTo o5 w5 d) w7 o7 → Kp0 w7 o7 x7 (tkE M' a (e.i + 1)).b → ∀ w8, w7.grownBy w8 (some w5.heap.size) → Blk w8 w5.heap.size 38 (ec (tkE M' a (e.i + 1)) x7) → ∃ oz rz ez xz Mz, RunP w o j b most M a i c d v5 w5.heap.size (tkB M' a (e.i + 1)) w8 oz rz ez xz Mz := fun w5 o5 v5 ob w7 o7 x7 hO m5 hB7 m7 hk7 w8 hg8 hb8 => by
        have hb6 := balloc (Below.refl _ w5) ob
        have m6 : Mv [] w5 o5 (w5.alloc ob) (newTo o5 w5 d) := Mv.of_below d hb6
        have hs6 : w5.heap.size < (w5.alloc ob).heap.size := by simp
        have ho7 : o7 w5.heap.size = d := by rw [m7.ext _ hs6]; exact newTo_new (Nat.le_refl _)
        have m8 : Mv [d] w7 o7 w8 (newTo o7 w7 0) := Mv.of_grown hg8 (fun k hk _ => by cases hk; rw [ho7]; simp)
        have hz7 : w5.heap.size < w7.heap.size := Nat.lt_of_lt_of_le hs6 m7.size
        refine ⟨newTo o7 w7 0, rs ++ [(e, x)], tkE M' a (e.i + 1), x7, lessM M' a (e.i + 1), hB7.mv m8 (by simp; omega) (by simp; omega), ((hO.mv m6 (by simp) (by simp)).mv m7 (by simp; omega) (by simp; omega)).mv m8 (by simp; omega) (by simp; omega), hb8, by rw [newTo_old hz7]; exact ho7, hne, hk7.mv m8 (by simp; omega), (((p.mv.trans (m5.widen (by simp))).trans (m6.widen (by simp))).trans (m7.widen (by simp))).trans (m8.widen (by simp)), ?_, ?_, tk_right p.buf.right⟩
        · have := p.run.step p.buf.srt
          rw [List.map_append]
          exact this
        · have := tk_len p.buf.srt a (e.i + 1)
          have := p.cnt
          simp at *
          omega
      have O1 : ∀ u ∈ flatE [(e, x)], u.oneCell' = true := (ents_one p.eok p.kp).one
      have R1 := fun (w' : World) => rowE_one w' e x
      have HRow : Hid (wr.ownsRow 0 38 8 (.slice a7 n7 c7) rs.length (flatE rs)) := p.out.row
      have hX := p.blk
      have HL : Hid (n7 = rs.length) := hrl
      have hn15 : n7 ≤ 15 := by simp at hcnt; omega
      obtain ⟨ax, cx, hxx⟩ := p.kp.1.len
      subst hxx
      clear p HI hright hcnt hrl hne HS HEN HST HTK
      generalize hEE : tkE M' a (e.i + 1) = e' at *
      generalize tkB M' a (e.i + 1) = b' at *
      generalize lessM M' a (e.i + 1) = M'' at *
      clear hEE
      obtain ⟨ew, ei, ep, et, eu, en, eb, eg⟩ := e
      obtain ⟨fw, fi, fp, ft, fu, fn, fb, fg⟩ := e'
      unfold ev at TK2
      unfold ec at HBk NX hX
      dsimp only at *
      have HTK2 : Hid (_) := TK2
      have HNX : Hid (_) := NX
      have HAD : Hid (_) := AD
      have HR1 : Hid (_) := R1
      have HO1 : Hid (_) := O1
      have c0 := hX.cell 0 _ rfl; have c1 := hX.cell 1 _ rfl; have c2 := hX.cell 2 _ rfl; have c3 := hX.cell 3 _ rfl; have c4 := hX.cell 4 _ rfl; have c5 := hX.cell 5 _ rfl; have c6 := hX.cell 6 _ rfl; have c7 := hX.cell 7 _ rfl
      have HXa : Hid (∀ ob, Blk (wr.alloc ob) zb 38 [.int .i64 ew, .int .i64 ei, .int .u64 ep, .int .i64 et, .int .i64 eu, .int .i64 en, .slice ax eb.length cx, .int .u64 eg]) := fun ob => hX.alloc ob
      clear TK2 NX AD R1 O1 hX
      go_wp2_with (first
        | (at_builtin; go_must (refine wpList_append_ents rfl (.tmp 27) (.tmp 29) rfl _ rs rfl (HRow.out.alloc _) _ _ rfl (HR1.out wr) HO1.out (by have := HL.out; simp; omega) ?_; intro v5 w5 hr5 hg5 hw5; obtain ⟨o5, hO5, m5⟩ := HAD.out w5 v5 _ hg5 hr5 hw5; obtain ⟨a5, c5, hv5, _⟩ := slice_of_own hr5; have HN5 : Hid ((rs ++ [((⟨ew, ei, ep, et, eu, en, eb, eg⟩ : Ent), (.slice ax eb.length cx : Value))]).length = n7 + 1) := (show _ = _ from by have := HL.out; simp; omega); rw [HN5.out] at hv5; subst hv5; have X5 := HBk.out w5 o5 m5; have k0 := X5.cell 0 _ rfl; have k1 := X5.cell 1 _ rfl; have k2 := X5.cell 2 _ rfl; have k3 := X5.cell 3 _ rfl; have k4 := X5.cell 4 _ rfl; have k5 := X5.cell 5 _ rfl; have k6 := X5.cell 6 _ rfl; have k7 := X5.cell 7 _ rfl; have HO5 : Hid (OutAt w5 o5 c w.heap.size (.slice a5 (n7 + 1) c5) _) := hO5; have HM5 : Hid (Mv [c] wr o' w5 o5) := m5; clear hr5 hg5 hw5 hO5 m5 X5))
        | (go_at_call 12; go_must (refine (HTK2.out w5 o5 _ HM5.out).mono ?_; rintro r w7 ⟨x7, rfl, o7, g1, g2, g3⟩; obtain ⟨ax7, cx7, hxx⟩ := g3.1.len; subst hxx; have X6 := blk_new w5 [.int .i64 ew, .int .i64 ei, .int .u64 ep, .int .i64 et, .int .i64 eu, .int .i64 en, .slice ax eb.length cx, .int .u64 eg] 38; have X7 : Blk w7 w5.heap.size 38 [.int .i64 ew, .int .i64 ei, .int .u64 ep, .int .i64 et, .int .i64 eu, .int .i64 en, .slice ax eb.length cx, .int .u64 eg] := X6.block (g2.block _ X6.lt (by rw [newTo_new (Nat.le_refl _)]; simp; omega)); have HNx := HNX.out w5 o5 _ _ w7 o7 _ HO5.out HM5.out g1 g2 g3; have HNy : Hid (_) := HNx _ (grown_set8 w7 w5.heap.size (.int .i64 fw) (.int .i64 fi) (.int .u64 fp) (.int .i64 ft) (.int .i64 fu) (.int .i64 fn) (.slice ax7 fb.length cx7) (.int .u64 fg)) (X7.set8 _ _ _ _ _ _ _ _); have y0 := X7.cell 0 _ rfl; have y1 := X7.cell 1 _ rfl; have y2 := X7.cell 2 _ rfl; have y3 := X7.cell 3 _ rfl; have y4 := X7.cell 4 _ rfl; have y5 := X7.cell 5 _ rfl; have y6 := X7.cell 6 _ rfl; have y7 := X7.cell 7 _ rfl; have f0 := X7.frozen 0; have f1 := X7.frozen 1; have f2 := X7.frozen 2; have f3 := X7.frozen 3; have f4 := X7.frozen 4; have f5 := X7.frozen 5; have f6 := X7.frozen 6; have f7 := X7.frozen 7; clear X6 X7 HNx g1 g2 g3)))
      go_roundw
      case rel => exact ⟨_, _, _, _, _, rfl, rfl, rfl, by omega, HNy⟩
      case measure => simp [slLen]; omega
end Go.Proofs.Ytigfklcclfpcjaa
