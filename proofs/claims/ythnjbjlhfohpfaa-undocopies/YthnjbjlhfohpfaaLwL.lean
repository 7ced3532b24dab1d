/-
  An operation done and gone again, the last one: the law walked.
-/
import Derived.Test.YthnjbjlhfohpfaaUdE
import Derived.Test.YthnjbjlhfohpfaaTsH
import Derived.Test.YthnjbjlhfohpfaaUdH
import Derived.Test.YthnjbjlhfohpfaaUdV
import Derived.Test.YthnjbjlhfohpfaaRfS
import Derived.Test.YthnjbjlhfohpfaaAll
import Derived.Test.YthnjbjlhfohpfaaRfB
namespace Go.Proofs.Ythnjbjlhfohpfaa
set_option linter.unusedVariables false
set_option linter.unusedSimpArgs false
set_option synthInstance.maxSize 20000
set_option maxHeartbeats 2000000
set_option maxRecDepth 20000
open Go.RowKit Go.Maps

theorem lo_full {O : List OpT} {a : S} (h1 : hasO a O = false) (h2 : hiO a O = []) : loO a O = O := List.filter_eq_self.2 fun x hx => by
  refine decide_eq_true (Classical.byContradiction fun h3 => ?_)
  have h4 : ltP a x.a := Classical.byContradiction fun h4 => hasO_no h1 x hx (ltP_total h3 h4)
  have : x ∈ hiO a O := List.mem_filter.2 ⟨hx, decide_eq_true h4⟩
  rw [h2] at this
  cases this
theorem hi_again (a : S) (O : List OpT) (q : OpT) (e : q.a = a) : hiO a (loO a O ++ q :: hiO a O) = hiO a O := by
  have h1 : hiO a (loO a O) = [] := List.filter_eq_nil_iff.2 fun x hx => by
    have := of_decide_eq_true (List.mem_filter.1 hx).2
    exact fun h => ltP_asymm this (of_decide_eq_true h)
  have h2 : hiO a (hiO a O) = hiO a O := List.filter_eq_self.2 fun x hx => (List.mem_filter.1 hx).2
  have h3 : hiO a [q] = [] := List.filter_eq_nil_iff.2 fun x hx => by
    rw [List.mem_singleton.1 hx, e]
    exact fun h => ltP_irrefl a (of_decide_eq_true h)
  rw [hi_append, h1, show q :: hiO a O = [q] ++ hiO a O from rfl, hi_append, h2, h3]
  rfl
theorem InsB.kind {U T : List ST} {q : OpT} {n k : Int} (h : InsB U q T n k) (hk : ¬ k = 0) : n = 0 ∧ T = U := by
  rcases h with ⟨_, h1, _, h2⟩ | ⟨_, ⟨_, h1, _, h2⟩ | ⟨_, h0, _⟩⟩
  · exact ⟨h1, h2⟩
  · exact ⟨h1, h2⟩
  · exact absurd h0 hk
theorem InsB.zero {U T : List ST} {q : OpT} {n : Int} (h : InsB U q T n 0) : rightO q = true ∧ hasO q.a (Ob U) = false ∧ Ob T = loO q.a (Ob U) ++ bare q :: hiO q.a (Ob U) ∧ n = ((hiO q.a (Ob U)).length : Int) := by
  rcases h with ⟨_, _, h0, _⟩ | ⟨hr, ⟨_, _, h0, _⟩ | ⟨h1, _, h2, h3⟩⟩
  · cases h0
  · cases h0
  · exact ⟨hr, h1, h2, h3⟩
/-- What came and goes again. -/
theorem back_again {U T T2 : List ST} {q : OpT} {n n2 k2 : Int} (hi : InsB U q T n 0) (hr : RemB T q.a T2 n2 k2) (hU : StrS U) (h2 : StrS T2) : n2 = n ∧ k2 = 0 ∧ Ob T2 = Ob U := by
  obtain ⟨_, z1, z2, z3⟩ := hi.zero
  have hin : hasO q.a (Ob T) = true := hasO_iff.2 ⟨bare q, by rw [z2]; exact List.mem_append_right _ List.mem_cons_self, rfl⟩
  rcases id hr with ⟨r0, _⟩ | ⟨_, r1, _, r3⟩
  · rw [hin] at r0; cases r0
  refine ⟨?_, r1, ob_uniq h2 hU fun x => (hr.mem x).trans ?_⟩
  · rw [r3, z3, z2, hi_again q.a (Ob U) (bare q) rfl]
  · rcases hi.mem with ⟨_, _⟩ | ⟨_, e, _⟩ | ⟨_, _, h3⟩
    · rename_i h _
      obtain ⟨h0, _⟩ := hi.zero
      rw [h] at h0; cases h0
    · rw [z1] at e; cases e
    · rw [h3 x]
      constructor
      · rintro ⟨rfl | h, h4⟩
        · exact absurd rfl h4
        · exact h
      · intro h
        exact ⟨.inr h, hasO_no z1 x h⟩
/-- The last one: the tree is the one that it does. -/
theorem last_tree {w : World} {lb tb : Nat} {v : Value} {mo : Option Nat} {L : List IT} {U T : List ST} {q : OpT} (hi : InsB U q T 0 0) (h : LogAt w lb v tb mo L T) (hU : ∀ r ∈ opsS U, Okv r) (hq : Okv q) : L.map IT.m = doM (buildM [] (opsS U)) q := by
  obtain ⟨_, z1, z2, z3⟩ := hi.zero
  have h0 : hiO q.a (Ob U) = [] := List.eq_nil_of_length_eq_zero (by omega)
  have e : (opsS U ++ [q]).map bare = Ob T := by
    rw [z2, h0, lo_full z1 h0, List.map_append]
    rfl
  rw [h.lstB e (fun r hr => by
    rcases List.mem_append.1 hr with hr | hr
    · exact hU r hr
    · rw [List.mem_singleton.1 hr]; exact hq), build_snoc]
/-- What Build makes of a log's operations. -/
theorem build_ops {w : World} {lb tb : Nat} {v : Value} {mo : Option Nat} {L : List IT} {U : List ST} {O O2 : List OpT} (h : LogAt w lb v tb mo L U) (e : O.map bare = Ob U) (ho : ∀ q ∈ O, Okv q) (hf : FirstOf O2 O) : buildM [] O2 = buildM [] (opsS U) := by
  rw [firstOf_eq hf (bare_str e h.str)]
  exact (h.lstB e ho).symm.trans h.lst
/-- What lies beside a log: a row of operations and a tree. -/
structure Beside (w : World) (v : Value) (O : List OpT) (t : Nat) (m : Option Nat) (L : List IT) (tb : Nat) (mo : Option Nat) : Prop where
  row : w.ownsRow 0 36 10 v O.length (flat oc O)
  rd : ∀ q ∈ O, Rd w q.v q.b
  tree : PTr w t m L
  nt : t ≠ tb
  nm : ∀ k, m = some k → mo ≠ some k
section
variable {w w' : World} {v u u' : Value} {O : List OpT} {t tb lb : Nat} {m mo mo' : Option Nat} {L K : List IT} {U : List ST}
theorem Beside.below (h : Beside w v O t m L tb mo) (hb : Below w.heap.size w w') : Beside w' v O t m L tb mo := ⟨own_below h.row hb, fun q hq => (h.rd q hq).below hb, h.tree.below hb, h.nt, h.nm⟩
theorem Beside.step (h : Beside w v O t m L tb mo) (hw : Lw lb tb mo u w w' mo' u') (ha : LogAt w lb u tb mo K U) : Beside w' v O t m L tb mo' := by
  refine ⟨own36_lw h.row hw ha, fun q hq => hw.rd ha (h.rd q hq), h.tree.keepL hw ha h.nt h.nm, h.nt, fun k hk e => ?_⟩
  rcases hw.newm with e1 | ⟨x, e1, h1⟩
  · exact h.nm k hk (e1 ▸ e)
  · rw [e1] at e; cases e
    rcases h.tree.mp with ⟨e2, _⟩ | ⟨m', e2, hq⟩
    · rw [e2] at hk; cases hk
    · rw [e2] at hk; cases hk
      have := hq.lt; omega
end
theorem StepB.len {U T : List ST} {s : SpT} {n k : Int} (h : StepB U s T n k) : T.length ≤ U.length + 1 := by
  rcases h with ⟨_, h⟩ | ⟨_, h⟩
  · have := h.len; omega
  · exact h.len
theorem light_ofB1 {l : List OpT} {n : Int} (h : lightB l n = true) {W : World} (en : ∀ q ∈ l, Rd W q.v q.b) : (l.length : Int) ≤ n ∧ ∀ q ∈ l, Rd W q.v q.b ∧ q.b.length ≤ 1000 := by
  unfold lightB at h
  rw [Bool.and_eq_true] at h
  refine ⟨of_decide_eq_true h.1, fun q hq => ⟨en q hq, ?_⟩⟩
  have h1 := of_decide_eq_true (List.all_eq_true.1 h.2 q hq)
  have h2 := okv_of (en q hq)
  unfold Okv at h2
  omega
theorem light_oneB {q : OpT} (h : lightB [q] 1 = true) {W : World} (hq : Rd W q.v q.b) : q.b.length ≤ 1000 :=
  ((light_ofB1 h (W := W) (fun r hr => by rw [List.mem_singleton.1 hr]; exact hq)).2 q (by simp)).2
theorem light_len {w : World} {lb tb : Nat} {v : Value} {mo : Option Nat} {L : List IT} {U : List ST} {O : List OpT} (h : LogAt w lb v tb mo L U) (e : O.map bare = Ob U) : ∀ q ∈ O, q.b.length ≤ 1000 := fun q hq => by
  obtain ⟨r, hr, e2⟩ := bare_mem (l' := opsS U) e hq
  obtain ⟨s, hs, rfl⟩ := List.mem_map.1 hr
  have := (h.ok s hs).lq
  have e3 : q.b = s.q.b := (show (bare q).b = (bare s.q).b from by rw [e2])
  rw [e3]
  exact this
set_option maxHeartbeats 16000000 in
theorem last5 (v0 : Value) (l : List SpT) (q : OpT) (W : World) (rd0 : RowF spc W v0 l) (en0 : ∀ s ∈ l, QIn W s.q) (hsz : l.length * 104 ≤ 140737488355328) (ok : QIn W q) : Calls Try.prog 5 #[v0, ov q] W fun e W' => e = .returned (.bool true) ∧ Below W.heap.size W W' := by
  obtain ⟨a0, c0, rfl⟩ := rd0.len
  have hcap := rd0.caps
  have HRD : Hid (RowF spc W (.slice a0 l.length c0) l) := rd0
  have HEN : Hid (∀ r ∈ l.map SpT.q, Rd W r.v r.b) := fun r hr => by
    obtain ⟨x, hx, rfl⟩ := List.mem_map.1 hr
    exact (en0 x hx).rd
  have HRq : Hid (Rd W q.v q.b) := ok.rd
  have HAl : Hid (∀ w', Calls Try.prog 7 #[] w' fun e w'' => e = .returned (.bool true) ∧ Below w'.heap.size w' w'') := alive7
  obtain ⟨w1, hw1⟩ : ∃ w1, w1 = W.alloc (.cells (oc q).toArray 36) := ⟨_, rfl⟩
  obtain ⟨B0, hB0⟩ : ∃ B0, B0 = W.heap.size := ⟨_, rfl⟩
  obtain ⟨i1, i2⟩ := box_op hw1 hB0
  have HB1 : Hid (Below W.heap.size W w1) := i1
  have HQ1 : Hid (Opb w1 B0 q) := i2
  have HLt : Hid (Calls Try.prog 18 #[.slice a0 l.length c0, .int .i64 20] w1 fun e w' => e = .returned (.bool (lightB (l.map SpT.q) 20)) ∧ Below w1.heap.size w1 w') := light18 (rd0.below i1) hsz
  have HLq : Hid (∀ w' w2 : World, ∀ p2 : Nat, w2 = w'.alloc (.cells (oc q).toArray 36) → p2 = w'.heap.size → Calls Try.prog 6 #[.slice (some ⟨p2, 0, none⟩) 1 1, .int .i64 1] w2 fun e w'' => e = .returned (.bool (lightB [q] 1)) ∧ w'' = w2) := fun w' w2 p2 e1 e2 => by
    rw [e1, e2]
    exact light8 (rowF_one w' q 36) (by simp)
  clear rd0 en0 ok hcap i1 i2 hsz
  go_enter Try.func5, Try.ntmps5
  go_upto_region 1 with (refine wpList_okw rfl (exec_box40 (q := q) (.tmp 1) rfl rfl) ?_)
  rw [← hw1, ← hB0]
  clear hw1 hB0
  have tkb : Hid True := trivial
  cases hlb : lightB (l.map SpT.q) 20
  · rw [hlb] at HLt
    clear hlb
    go_wp2_with (first
      | (go_at_call 18; go_must (refine HLt.out.mono ?_; rintro e wx ⟨rfl, hbx⟩; have HBx : Hid (Below W.heap.size W wx) := bnext HB1.out hbx; have HQx : Hid (Opb wx B0 q) := HQ1.out.below hbx; have HQl : Hid (wx.rangeAt B0 0 (oc q)) := Blk.range0 HQx.out; obtain ⟨w2, hw2⟩ : ∃ w2, w2 = wx.alloc (.cells (oc q).toArray 36) := ⟨_, rfl⟩; obtain ⟨p2, hp2⟩ : ∃ p2, p2 = wx.heap.size := ⟨_, rfl⟩; have HW2 : Hid (w2 = wx.alloc (.cells (oc q).toArray 36)) := hw2; have HP2 : Hid (p2 = wx.heap.size) := hp2; have HLr : Hid (Calls Try.prog 6 #[.slice (some ⟨p2, 0, none⟩) 1 1, .int .i64 1] w2 fun e w'' => e = .returned (.bool (lightB [q] 1)) ∧ w'' = w2) := HLq.out wx w2 p2 hw2 hp2; have HB2 : Hid (Below wx.heap.size wx w2) := (show Below _ _ _ from by rw [hw2]; exact balloc (Below.refl _ _) _); clear hw2 hp2 hbx))
      | (go_at_call 7; go_must (refine (HAl.out _).mono ?_; rintro e w3 ⟨rfl, hb3⟩; have HB3 : Hid (Below W.heap.size W w3) := bnext HBx.out hb3; clear hb3)))
    go_ret
    exact ⟨rfl, HB3.out⟩
  rw [hlb] at HLt
  cases hlb2 : lightB [q] 1
  · rw [hlb2] at HLq
    clear hlb hlb2
    go_wp2_with (first
      | (go_at_call 18; go_must (refine HLt.out.mono ?_; rintro e wx ⟨rfl, hbx⟩; have HBx : Hid (Below W.heap.size W wx) := bnext HB1.out hbx; have HQx : Hid (Opb wx B0 q) := HQ1.out.below hbx; have HQl : Hid (wx.rangeAt B0 0 (oc q)) := Blk.range0 HQx.out; obtain ⟨w2, hw2⟩ : ∃ w2, w2 = wx.alloc (.cells (oc q).toArray 36) := ⟨_, rfl⟩; obtain ⟨p2, hp2⟩ : ∃ p2, p2 = wx.heap.size := ⟨_, rfl⟩; have HW2 : Hid (w2 = wx.alloc (.cells (oc q).toArray 36)) := hw2; have HP2 : Hid (p2 = wx.heap.size) := hp2; have HLr : Hid (Calls Try.prog 6 #[.slice (some ⟨p2, 0, none⟩) 1 1, .int .i64 1] w2 fun e w'' => e = .returned (.bool (false)) ∧ w'' = w2) := HLq.out wx w2 p2 hw2 hp2; have HB2 : Hid (Below wx.heap.size wx w2) := (show Below _ _ _ from by rw [hw2]; exact balloc (Below.refl _ _) _); clear hw2 hp2 hbx))
      | (refine wpList_okw rfl (exec_load40 (q := q) (.tmp 3) rfl rfl HQl.out) ?_)
      | (clear tkb; refine wpList_okw rfl (exec_build1 (q := q) (.tmp 18) rfl rfl) ?_; rw [← HW2.out, ← HP2.out])
      | (go_at_call 6; go_must (refine HLr.out.mono ?_; rintro e wy ⟨rfl, hw⟩; replace hw := hw.symm; subst hw))
      | (go_at_call 7; go_must (refine (HAl.out _).mono ?_; rintro e w3 ⟨rfl, hb3⟩; have HB3 : Hid (Below W.heap.size W w3) := bnext (bnext HBx.out HB2.out) hb3; clear hb3)))
    go_ret
    exact ⟨rfl, HB3.out⟩
  rw [hlb2] at HLq
  obtain ⟨hl20, hq⟩ := light_ofB1 hlb HEN.out
  rw [List.length_map] at hl20
  have HQl0 : Hid (q.b.length ≤ 1000) := light_oneB hlb2 HRq.out
  have HQ : Hid (∀ r ∈ l.map SpT.q, Rd W r.v r.b ∧ r.b.length ≤ 1000) := hq
  have hl20' : l.length ≤ 20 := by omega
  have HNw : Hid (∀ w', Calls Try.prog 9 #[] w' (NewAns w')) := new9
  clear hlb hlb2 hl20 hq HEN
  go_upto_region 4 with (first
    | (go_at_call 18; go_must (refine HLt.out.mono ?_; rintro e wx ⟨rfl, hbx⟩; have HBx : Hid (Below W.heap.size W wx) := bnext HB1.out hbx; have HQx : Hid (Opb wx B0 q) := HQ1.out.below hbx; have HQl : Hid (wx.rangeAt B0 0 (oc q)) := Blk.range0 HQx.out; obtain ⟨w2, hw2⟩ : ∃ w2, w2 = wx.alloc (.cells (oc q).toArray 36) := ⟨_, rfl⟩; obtain ⟨p2, hp2⟩ : ∃ p2, p2 = wx.heap.size := ⟨_, rfl⟩; have HW2 : Hid (w2 = wx.alloc (.cells (oc q).toArray 36)) := hw2; have HP2 : Hid (p2 = wx.heap.size) := hp2; have HLr : Hid (Calls Try.prog 6 #[.slice (some ⟨p2, 0, none⟩) 1 1, .int .i64 1] w2 fun e w'' => e = .returned (.bool (true)) ∧ w'' = w2) := HLq.out wx w2 p2 hw2 hp2; have HB2 : Hid (Below wx.heap.size wx w2) := (show Below _ _ _ from by rw [hw2]; exact balloc (Below.refl _ _) _); clear hw2 hp2 hbx))
    | (refine wpList_okw rfl (exec_load40 (q := q) (.tmp 3) rfl rfl HQl.out) ?_)
    | (clear tkb; refine wpList_okw rfl (exec_build1 (q := q) (.tmp 18) rfl rfl) ?_; rw [← HW2.out, ← HP2.out])
    | (go_at_call 6; go_must (refine HLr.out.mono ?_; rintro e wy ⟨rfl, hw⟩; replace hw := hw.symm; subst hw))
    | (go_at_call 9; go_must (refine (HNw.out _).mono ?_; rintro e w3 ⟨lb, tb, rfl, hA, hlb, htb, hb3⟩; have HB3 : Hid (Below W.heap.size W w3) := bnext (bnext HBx.out HB2.out) hb3; have HN3 : Hid (LogN W.heap.size w3 lb (.slice none 0 0) tb none [] []) := ⟨hA, Nat.le_trans (bnext HBx.out HB2.out).size hlb, Nat.le_trans (bnext HBx.out HB2.out).size htb, (fun k hk => (by cases hk)), (fun k hk => (by cases hk))⟩; have HQ3 : Hid (Opb w3 B0 q) := HQx.out.below (bnext HB2.out hb3); clear hA hlb htb hb3)))
  clear HLt HLq HLr HQl HQx HBx HB2 HNw HW2 HP2 HQ1
  have HB0 : Hid (B0 < w3.heap.size) := Blk.lt HQ3.out
  go_wp2
  go_loopw [6] (fun i wr => ∃ (k : Nat) (v : Value) (mo : Option Nat) (L : List IT) (U : List ST), i = .int .i64 (k : Int) ∧ k ≤ l.length ∧ U.length ≤ k ∧ Hid (LogN W.heap.size wr lb v tb mo L U) ∧ Hid (Opb wr B0 q) ∧ Hid (Below W.heap.size W wr)) (fun i _ => l.length - (intOf i).toNat)
  case atStart => exact ⟨0, .slice none 0 0, none, [], [], rfl, Nat.zero_le _, Nat.le_refl _, HN3, HQ3, HB3⟩
  case round =>
    obtain ⟨k, v, mo, L, U, rfl, hk, hul, HN, HQb, HB⟩ := hrel
    clear HN3 HQ3 HB3
    rename World => wr
    by_cases hlt : k < l.length
    · have hkI : (k : Int) < (l.length : Int) := by omega
      obtain ⟨s, hs⟩ : ∃ s, l[k]? = some s := ⟨_, List.getElem?_eq_getElem hlt⟩
      obtain ⟨b, off, rfl, hc⟩ := RowF.at spc_len (HRD.out.below HB.out) hs
      have HL : Hid (wr.rangeAt b (off + k * 11) (spc s)) := hc
      have hsq := HQ.out s.q (List.mem_map.2 ⟨s, List.mem_of_getElem? hs, rfl⟩)
      have HSt : Hid (Calls Try.prog 19 #[ptr lb, spv s] wr (SAns wr lb v tb mo U s)) := step19 HN.out.at_ (by omega) (hsq.1.below HB.out) hsq.2
      clear hs hc hsq
      go_wp2_with (first
        | (refine wpList_okw rfl (exec_load50 (s := s) (.tmp 34) rfl rfl HL.out) ?_)
        | (go_at_call 19; go_must (refine HSt.out.mono ?_; rintro e w2 ⟨n, kk, v', mo', L', T, rfl, d1, d2, d3⟩; have HLw : Hid (Lw lb tb mo v wr w2 mo' v') := d2; have HAt : Hid (LogAt w2 lb v' tb mo' L' T) := d1; have HS : Hid (StepB U s T n kk) := d3; clear d1 d2 d3)))
      go_roundw
      case rel =>
        obtain ⟨e1, e2⟩ := HN.out.step HB.out HAt.out HLw.out
        exact ⟨k + 1, v', mo', L', T, by go_num, by omega, by have := HS.out.len; omega, e1, HLw.out.blk HN.out.at_ HQb.out (by decide) (by decide) (by decide), e2⟩
      case measure => simp [intOf]; omega
    have hkI : ¬ (k : Int) < (l.length : Int) := by omega
    have hu20 : U.length ≤ 20 := by omega
    have HOp : Hid (Calls Try.prog 14 #[ptr lb] wr (OpsAns wr U)) := ops14 HN.out.at_
    have HOK : Hid (∀ r ∈ opsS U, Okv r) := okv_steps HN.out.at_
    clear hul hk hlt
    have tk1 : Hid True := trivial
    go_upto_region 11 with (first
      | (go_at_call 14; go_must (refine HOp.out.mono ?_; rintro e w4 ⟨v7, O7, rfl, q1, q2, q3⟩; have HB4 : Hid (Below wr.heap.size wr w4) := q3; have HO7 : Hid (OwnO wr.heap.size w4 v7 O7 ∧ CopO wr.heap.size w4 (opsS U) O7) := ⟨q1, q2⟩; have HM7 : Hid (O7.map bare = Ob U ∧ ∀ r ∈ O7, Okv r) := ⟨q2.map, fun r hr => okv_of (q2.own r hr).rd⟩; have HF7 : Hid (O7.length ≤ 20) := (show _ ≤ _ from by have h8 := congrArg List.length HM7.out.1; rw [List.length_map, Ob_len] at h8; omega); have HBu : Hid (Calls Try.prog 17 #[v7] w4 (BuildAns w4 O7)) := build27 q1.row (by have := HF7.out; omega) (fun r hr => ⟨(q2.own r hr).rd, light_len HN.out.at_ HM7.out.1 r hr⟩); clear q1 q2 q3))
      | (go_at_call 17; go_must (refine HBu.out.mono ?_; rintro e w5 ⟨t8, m8, L8, O8, rfl, hP, hF, hM, hl8, ht8, hm8, hb⟩; have HB5 : Hid (Below wr.heap.size wr w5) := bnext HB4.out hb; have HE8 : Hid (L8.map IT.m = buildM [] (opsS U)) := hM.trans (build_ops HN.out.at_ HM7.out.1 HM7.out.2 hF); have HBs : Hid (Beside w5 v7 O7 t8 m8 L8 tb mo) := ⟨own_below HO7.out.1.own hb, fun r hr => ((HO7.out.2.own r hr).rd).below hb, hP, fun e => by have h1 := (HN.out.at_.tree.below HB4.out).blk.lt; omega, fun k hk e => by have h1 := hm8 k hk; have h2 := (HN.out.at_.tree.below HB4.out).mp; rcases h2 with ⟨e2, _⟩ | ⟨m', e2, hq⟩ <;> rw [e2] at e <;> cases e; have := hq.lt; omega⟩; have HQ5 : Hid (Opb w5 B0 q) := HQb.out.below HB5.out; have HQr : Hid (w5.rangeAt B0 0 (oc q)) := Blk.range0 HQ5.out; have HIn : Hid (Calls Try.prog 10 #[ptr lb, ov q] w5 (InsAns w5 lb v tb mo U q)) := insert10 (HN.out.at_.below HB5.out) (by omega) (HRq.out.below (bnext HB.out HB5.out)) HQl0.out; clear hP hF hM hl8 ht8 hm8 hb))
      | (refine wpList_okw rfl (exec_load40 (q := q) (.tmp 3) rfl rfl HQr.out) ?_)
      | (go_at_call 10; go_must (refine HIn.out.mono ?_; rintro e w6 ⟨n1, k1, v6, m6, L6, T, rfl, d1, d2, d3⟩; have HLw : Hid (Lw lb tb mo v w5 w6 m6 v6) := d2; have HAt : Hid (LogAt w6 lb v6 tb m6 L6 T) := d1; have HI : Hid (InsB U q T n1 k1) := d3.b HN.out.at_.str; clear d1 d2 d3)))
    have HN6 : Hid (LogN W.heap.size w6 lb v6 tb m6 L6 T) := ((HN.out.below HB5.out).step (bnext HB.out HB5.out) HAt.out HLw.out).1
    have HB6 : Hid (Below W.heap.size W w6) := ((HN.out.below HB5.out).step (bnext HB.out HB5.out) HAt.out HLw.out).2
    have HS6 : Hid (Beside w6 v7 O7 t8 m8 L8 tb m6) := HBs.out.step HLw.out (HN.out.at_.below HB5.out)
    have HQ6 : Hid (Opb w6 B0 q) := HLw.out.blk (HN.out.at_.below HB5.out) HQ5.out (by decide) (by decide) (by decide)
    have HSU : Hid (StrS U) := HN.out.at_.str
    have HQ1 : Hid (Okv q) := okv_of HRq.out
    have HRq6 : Hid (Rd w6 q.v q.b) := HRq.out.below HB6.out
    have HFe : Hid (∀ r ∈ O7, r.b.length ≤ 1000) := light_len HN.out.at_ HM7.out.1
    clear HN HB HQb HOp HB4 HO7 HBu HB5 HBs HQ5 HQr HIn HLw HAt
    by_cases hk1 : k1 = 0
    case' neg =>
      obtain ⟨e1, e2⟩ := HI.out.kind hk1
      have hkI : (k1 != 0) = true := by simpa using hk1
      subst e1 e2
      have HNj : Hid (LogN W.heap.size w6 lb v6 tb m6 L6 T) := HN6
      have HBj : Hid (Below W.heap.size W w6) := HB6
      have HSj : Hid (Beside w6 v7 O7 t8 m8 L8 tb m6) := HS6
      have HObj : Hid (Ob T = Ob T) := rfl
      have HTm : Hid (L6.map IT.m = buildM [] (opsS T)) := HN6.out.at_.lst
      have HOj : Hid (Calls Try.prog 14 #[ptr lb] w6 (OpsAns w6 T)) := ops14 HN6.out.at_
      clear HN6 HB6 HS6
      go_wp2_with (first
        | (go_at_call 14; go_must (refine HOj.out.mono ?_; rintro e u1 ⟨v9, O9, rfl, q1, q2, q3⟩; have HU1 : Hid (Below W.heap.size W u1) := bnext HBj.out q3; have HN1 : Hid (LogN W.heap.size u1 lb _ tb _ _ _) := HNj.out.below q3; have HS1 : Hid (Beside u1 v7 O7 t8 m8 L8 tb _) := HSj.out.below q3; have HAq : Hid (Calls Try.prog 13 #[v9, v7] u1 fun e w' => e = .returned (.bool true) ∧ Below u1.heap.size u1 w') := all20 q1.row (rowF_own oc_len HS1.out.row) (fun r hr => (q2.own r hr).rd) HS1.out.rd (q2.map.trans (HObj.out.trans HM7.out.1.symm)); clear q1 q2 q3))
        | (go_at_call 13; go_must (refine HAq.out.mono ?_; rintro e u3 ⟨rfl, hb⟩; have HU3 : Hid (Below W.heap.size W u3) := bnext HU1.out hb; have HN3 : Hid (LogN W.heap.size u3 lb _ tb _ _ _) := HN1.out.below hb; have HS3 : Hid (Beside u3 v7 O7 t8 m8 L8 tb _) := HS1.out.below hb; have HTa : Hid (Calls Try.prog 16 #[ptr lb] u3 fun e w' => e = .returned (ptr tb) ∧ Below u3.heap.size u3 w') := tree16 HN3.out.at_.blk; clear hb))
        | (go_at_call 16; go_must (refine HTa.out.mono ?_; rintro e u4 ⟨rfl, hb⟩; have HU4 : Hid (Below W.heap.size W u4) := bnext HU3.out hb; have HSa : Hid (Calls Try.prog 15 #[ptr tb, ptr t8] u4 fun e w' => e = .returned (.bool true) ∧ Below u4.heap.size u4 w') := same29y (HN3.out.below hb).at_.tree (HS3.out.below hb).tree (HTm.out.trans HE8.out.symm); clear hb))
        | (go_at_call 15; go_must (refine HSa.out.mono ?_; rintro e u5 ⟨rfl, hb⟩; have HU5 : Hid (Below W.heap.size W u5) := bnext HU4.out hb; clear hb))
        | (go_at_call 7; go_must (refine (HAl.out _).mono ?_; rintro e u6 ⟨rfl, hb⟩; have HU6 : Hid (Below W.heap.size W u6) := bnext HU5.out hb; clear hb)))
      go_ret
      exact ⟨rfl, HU6.out⟩
    subst hk1
    by_cases hn1 : n1 = 0
    case' pos =>
      subst hn1
      have HBu : Hid (Calls Try.prog 17 #[v7] w6 (BuildAns w6 O7)) := build27 (rowF_own oc_len HS6.out.row) (by have := HF7.out; omega) (fun r hr => ⟨HS6.out.rd r hr, HFe.out r hr⟩)
      have HLa : Hid (L6.map IT.m = doM (buildM [] (opsS U)) q) := last_tree HI.out HN6.out.at_ HOK.out HQ1.out
      have tkd : Hid True := trivial
      go_upto_region 18 with (first
        | (go_at_call 17; go_must (refine HBu.out.mono ?_; rintro e w7 ⟨t11, m11, L11, O11, rfl, hP, hF, hM, hl8, ht8, hm8, hb⟩; have HB7 : Hid (Below w6.heap.size w6 w7) := hb; have HE11 : Hid (L11.map IT.m = buildM [] (opsS U)) := hM.trans (by rw [firstOf_eq hF (bare_str HM7.out.1 HSU.out)]; exact build_bare HM7.out.1 HM7.out.2 HOK.out); have HP11 : Hid (PTr w7 t11 m11 L11) := hP; have HN11 : Hid (w6.heap.size ≤ t11 ∧ ∀ k, m11 = some k → w6.heap.size ≤ k) := ⟨ht8, hm8⟩; have HQr : Hid (w7.rangeAt B0 0 (oc q)) := Blk.range0 (HQ6.out.below hb); have HDo : Hid (Calls Try.prog 25 #[ptr t11, ov q] w7 fun e w' => ∃ x b k, e = .returned (.tuple #[iv x, .bool b, .int .i64 k]) ∧ DoAns w7 t11 m11 L11 q x b k w') := do11 hP (by have h1 := buildM_len (opsS U) []; have h2 := congrArg List.length HE11.out; rw [List.length_map] at h2; have h3 : (opsS U).length = U.length := (by simp [opsS]); rw [h3, List.length_nil] at h1; omega) (by rw [HE11.out]; exact Gd.build gd_nil (by simp [opsS]; omega)) q (HRq6.out.below hb) HQl0.out; clear hP hF hM hl8 ht8 hm8 hb))
        | (refine wpList_okw rfl (exec_load40 (q := q) (.tmp 3) rfl rfl HQr.out) ?_)
        | (go_at_call 25; go_must (refine HDo.out.mono ?_; rintro e w8 ⟨x8, b8, k8, rfl, hans⟩; obtain ⟨mo5, L5, hp5, hm5, ht5⟩ := hans.tree; have HB8 : Hid (Below w6.heap.size w6 w8) := (ht5.below HB7.out HN11.out.1 HN11.out.2).1; have HP5 : Hid (PTr w8 t11 mo5 L5) := hp5; have HM5 : Hid (L5.map IT.m = doM (buildM [] (opsS U)) q) := hm5.trans (by rw [HE11.out]); have HTc : Hid (Calls Try.prog 16 #[ptr lb] w8 fun e w' => e = .returned (ptr tb) ∧ Below w8.heap.size w8 w') := tree16 (HN6.out.below HB8.out).at_.blk; clear hans hp5 hm5 ht5))
        | (go_at_call 16; go_must (refine HTc.out.mono ?_; rintro e w9 ⟨rfl, hb⟩; have HB9 : Hid (Below w6.heap.size w6 w9) := bnext HB8.out hb; have HSc : Hid (Calls Try.prog 15 #[ptr tb, ptr t11] w9 fun e w' => e = .returned (.bool true) ∧ Below w9.heap.size w9 w') := same29y (HN6.out.below HB9.out).at_.tree (HP5.out.below hb) (HLa.out.trans HM5.out.symm); clear hb))
        | (go_at_call 15; go_must (refine HSc.out.mono ?_; rintro e wj ⟨rfl, hb⟩; have HBk : Hid (Below w6.heap.size w6 wj) := bnext HB9.out hb; clear hb)))
      have HNj : Hid (LogN W.heap.size wj lb v6 tb m6 L6 T) := HN6.out.below HBk.out
      have HBj : Hid (Below W.heap.size W wj) := bnext HB6.out HBk.out
      have HSj : Hid (Beside wj v7 O7 t8 m8 L8 tb m6) := HS6.out.below HBk.out
      have HQj : Hid (Opb wj B0 q) := HQ6.out.below HBk.out
      clear HN6 HB6 HS6 HQ6 HBu HB7 HP11 HN11 HQr HDo HB8 HP5 HTc HB9 HSc HBk
    case' neg =>
      have hnI : (n1 == 0) = false := by simpa using hn1
      have HNj : Hid (LogN W.heap.size w6 lb v6 tb m6 L6 T) := HN6
      have HBj : Hid (Below W.heap.size W w6) := HB6
      have HSj : Hid (Beside w6 v7 O7 t8 m8 L8 tb m6) := HS6
      have HQj : Hid (Opb w6 B0 q) := HQ6
      clear HN6 HB6 HS6 HQ6
      go_upto_region 18 with fail
      clear hnI
    all_goals
      have HRm' : Hid (Calls Try.prog 12 #[ptr lb, sv q.a] _ (RemAns _ lb v6 tb m6 T q.a)) := remove12 HNj.out.at_ q.a
      have HQa : Hid (World.rangeAt _ B0 1 (sc q.a)) := range_at5 (Blk.range0 HQj.out)
      go_upto_region 19 with (first
        | (refine wpList_okw rfl (exec_load24n (n := q.a) (.tmp 80) rfl rfl HQa.out) ?_)
        | (go_at_call 12; go_must (refine HRm'.out.mono ?_; rintro e w10 ⟨n2, k2, v10, m10, L10, T2, rfl, d1, d2, d3⟩; have HLw : Hid (Lw lb tb m6 v6 _ w10 m10 v10) := d2; have HAt : Hid (LogAt w10 lb v10 tb m10 L10 T2) := d1; have HR : Hid (RemB T q.a T2 n2 k2) := d3.b HNj.out.at_.str; clear d1 d2 d3)))
      obtain ⟨e1, e2, e3⟩ := back_again HI.out HR.out HSU.out HAt.out.str
      subst e1 e2
      have HNk := HNj.out.step HBj.out HAt.out HLw.out
      have HSk := HSj.out.step HLw.out HNj.out.at_
      have HObj : Hid (Ob T2 = Ob U) := e3
      clear HNj HBj HSj HQj HRm' HQa e3
      have HNj : Hid (LogN W.heap.size w10 lb v10 tb m10 L10 T2) := HNk.1
      have HBj : Hid (Below W.heap.size W w10) := HNk.2
      have HSj : Hid (Beside w10 v7 O7 t8 m8 L8 tb m10) := HSk
      have HTm : Hid (L10.map IT.m = buildM [] (opsS U)) := HNk.1.at_.lstB (show (opsS U).map bare = Ob T2 from HObj.out.symm) HOK.out
      have HOj : Hid (Calls Try.prog 14 #[ptr lb] w10 (OpsAns w10 T2)) := ops14 HNk.1.at_
      clear HNk HSk HLw HAt
      go_wp2_with (first
        | (go_at_call 14; go_must (refine HOj.out.mono ?_; rintro e u1 ⟨v9, O9, rfl, q1, q2, q3⟩; have HU1 : Hid (Below W.heap.size W u1) := bnext HBj.out q3; have HN1 : Hid (LogN W.heap.size u1 lb _ tb _ _ _) := HNj.out.below q3; have HS1 : Hid (Beside u1 v7 O7 t8 m8 L8 tb _) := HSj.out.below q3; have HAq : Hid (Calls Try.prog 13 #[v9, v7] u1 fun e w' => e = .returned (.bool true) ∧ Below u1.heap.size u1 w') := all20 q1.row (rowF_own oc_len HS1.out.row) (fun r hr => (q2.own r hr).rd) HS1.out.rd (q2.map.trans (HObj.out.trans HM7.out.1.symm)); clear q1 q2 q3))
        | (go_at_call 13; go_must (refine HAq.out.mono ?_; rintro e u3 ⟨rfl, hb⟩; have HU3 : Hid (Below W.heap.size W u3) := bnext HU1.out hb; have HN3 : Hid (LogN W.heap.size u3 lb _ tb _ _ _) := HN1.out.below hb; have HS3 : Hid (Beside u3 v7 O7 t8 m8 L8 tb _) := HS1.out.below hb; have HTa : Hid (Calls Try.prog 16 #[ptr lb] u3 fun e w' => e = .returned (ptr tb) ∧ Below u3.heap.size u3 w') := tree16 HN3.out.at_.blk; clear hb))
        | (go_at_call 16; go_must (refine HTa.out.mono ?_; rintro e u4 ⟨rfl, hb⟩; have HU4 : Hid (Below W.heap.size W u4) := bnext HU3.out hb; have HSa : Hid (Calls Try.prog 15 #[ptr tb, ptr t8] u4 fun e w' => e = .returned (.bool true) ∧ Below u4.heap.size u4 w') := same29y (HN3.out.below hb).at_.tree (HS3.out.below hb).tree (HTm.out.trans HE8.out.symm); clear hb))
        | (go_at_call 15; go_must (refine HSa.out.mono ?_; rintro e u5 ⟨rfl, hb⟩; have HU5 : Hid (Below W.heap.size W u5) := bnext HU4.out hb; clear hb))
        | (go_at_call 7; go_must (refine (HAl.out _).mono ?_; rintro e u6 ⟨rfl, hb⟩; have HU6 : Hid (Below W.heap.size W u6) := bnext HU5.out hb; clear hb)))
      go_ret
      exact ⟨rfl, HU6.out⟩
end Go.Proofs.Ythnjbjlhfohpfaa
