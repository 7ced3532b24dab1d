/-
  Copies of logs: the law walked.
  Steps that came in: how many there can be.
-/
import Derived.Test.YthnjbjlhfohpfaaUdE
import Derived.Test.YthnjbjlhfohpfaaLwL
import Derived.Deep.Slices
import Derived.SizedLaws
namespace Go.Proofs.Ythnjbjlhfohpfaa
section
set_option linter.unusedVariables false
set_option linter.unusedSimpArgs false
set_option synthInstance.maxSize 20000
set_option maxHeartbeats 2000000
set_option maxRecDepth 20000
open Go.RowKit Go.Maps

/-- What stays beside a log: a row of operations, a row of the document's items. -/
structure Kept (w : World) (v : Value) (O : List OpT) (u : Value) (X : List IT) : Prop where
  row : w.ownsRow 0 36 10 v O.length (flat oc O)
  rd : ∀ q ∈ O, Rd w q.v q.b
  own : w.ownsRow 0 88 10 u X.length (flat ic X)
  rx : ∀ x ∈ X, Rd w x.v x.m.b
section
variable {w w' : World} {v u va va' : Value} {O : List OpT} {X : List IT} {la ta : Nat} {ma ma' : Option Nat} {L : List IT} {U : List ST}
theorem Kept.below (h : Kept w v O u X) (hb : Below w.heap.size w w') : Kept w' v O u X := ⟨own_below h.row hb, fun q hq => (h.rd q hq).below hb, ownsRow_block h.own fun k hk => hb.block _ (h.own.lt k hk).2, fun x hx => (h.rx x hx).below hb⟩
theorem Kept.step (h : Kept w v O u X) (hw : Lw la ta ma va w w' ma' va') (ha : LogAt w la va ta ma L U) : Kept w' v O u X := ⟨own36_lw h.row hw ha, fun q hq => hw.rd ha (h.rd q hq), ownsRow_block h.own fun k hk => by
    rcases h.own.2 with ⟨rfl, _⟩ | ⟨g, cap, cur, rfl, _, hg, _⟩
    · cases hk
    · have e1 : g = k := by simpa [Value.ownBlock] using hk
      subst e1
      exact hw.typ ha hg (by decide) (by decide) (by decide), fun x hx => hw.rd ha (h.rx x hx)⟩
theorem Kept.was (h : Kept w v O u X) : Was w u X := ⟨rowF_own ic_len h.own, h.rx⟩
end
/-- A log and its copy. -/
theorem duo_copy {w0 w1 w2 : World} {la ta lo tq : Nat} {va v : Value} {ma mo : Option Nat} {LA L : List IT} {U T : List ST} (h0 : Below w0.heap.size w0 w1) (h : LogN w0.heap.size w1 la va ta ma LA U) (hb : Below w1.heap.size w1 w2) (h2 : LogAt w2 lo v tq mo L T) (n1 : w1.heap.size ≤ lo) (n2 : w1.heap.size ≤ tq) (n3 : ∀ k, mo = some k → w1.heap.size ≤ k) (n4 : ∀ k, v.ownBlock = some k → w1.heap.size ≤ k) : Duo w0.heap.size w2 la va ta ma LA U lo v tq mo L T := by
  refine ⟨h.below hb, ⟨h2, Nat.le_trans h0.size n1, Nat.le_trans h0.size n2, fun k hk => Nat.le_trans h0.size (n3 k hk), fun k hk => Nat.le_trans h0.size (n4 k hk)⟩, ⟨?_, ?_, fun k hk e => ?_, fun k hk e => ?_⟩⟩
  · have := h.at_.blk.lt; omega
  · have := h.at_.tree.blk.lt; omega
  · have h3 := n3 k e
    rcases h.at_.tree.mp with ⟨e2, _⟩ | ⟨m', e2, hq⟩
    · rw [e2] at hk; cases hk
    · rw [e2] at hk; cases hk
      have := hq.lt; omega
  · have h3 := n4 k e
    have := h.at_.row.lt hk; omega
set_option maxHeartbeats 16000000 in
theorem copies4 (v0 : Value) (l : List SpT) (v1 : Value) (l1 : List SpT) (W : World) (rd0 : RowF spc W v0 l) (en0 : ∀ s ∈ l, QIn W s.q) (fit0 : l.length * 104 ≤ 140737488355328) (rd1 : RowF spc W v1 l1) (en1 : ∀ s ∈ l1, QIn W s.q) (fit1 : l1.length * 104 ≤ 140737488355328) : Calls Try.prog 4 #[v0, v1] W fun e W' => e = .returned (.bool true) ∧ Below W.heap.size W W' := by
  obtain ⟨a0, c0, rfl⟩ := rd0.len
  obtain ⟨a1, c1, rfl⟩ := rd1.len
  have hcap := rd0.caps
  have hcap1 := rd1.caps
  have HRD : Hid (RowF spc W (.slice a0 l.length c0) l) := rd0
  have HRD1 : Hid (RowF spc W (.slice a1 l1.length c1) l1) := rd1
  have HEN : Hid (∀ r ∈ l.map SpT.q, Rd W r.v r.b) := fun r hr => by
    obtain ⟨x, hx, rfl⟩ := List.mem_map.1 hr
    exact (en0 x hx).rd
  have HEN1 : Hid (∀ r ∈ l1.map SpT.q, Rd W r.v r.b) := fun r hr => by
    obtain ⟨x, hx, rfl⟩ := List.mem_map.1 hr
    exact (en1 x hx).rd
  have HAl : Hid (∀ w', Calls Try.prog 7 #[] w' fun e w'' => e = .returned (.bool true) ∧ Below w'.heap.size w' w'') := alive7
  have HLt : Hid (Calls Try.prog 18 #[.slice a0 l.length c0, .int .i64 20] W fun e w' => e = .returned (.bool (lightB (l.map SpT.q) 20)) ∧ Below W.heap.size W w') := light18 rd0 fit0
  have HLu : Hid (∀ w', Below W.heap.size W w' → Calls Try.prog 18 #[.slice a1 l1.length c1, .int .i64 10] w' fun e w'' => e = .returned (.bool (lightB (l1.map SpT.q) 10)) ∧ Below w'.heap.size w' w'') := fun w' hb => light18 (rd1.below hb) fit1
  have HNw : Hid (∀ w', Calls Try.prog 9 #[] w' (NewAns w')) := new9
  clear rd0 rd1 en0 en1 hcap hcap1 fit0 fit1
  go_enter Try.func4, Try.ntmps4
  have tkA : Hid True := trivial
  cases hlb : lightB (l.map SpT.q) 20
  · rw [hlb] at HLt
    clear hlb
    go_wp2_with (first
      | (go_at_call 18; clear tkA; go_must (refine HLt.out.mono ?_; rintro e wx ⟨rfl, hbx⟩; have HBx : Hid (Below W.heap.size W wx) := hbx; clear hbx))
      | (go_at_call 7; go_must (refine (HAl.out _).mono ?_; rintro e w3 ⟨rfl, hb3⟩; have HB3 : Hid (Below W.heap.size W w3) := bnext HBx.out hb3; clear hb3)))
    go_ret
    exact ⟨rfl, HB3.out⟩
  rw [hlb] at HLt
  cases hlb2 : lightB (l1.map SpT.q) 10
  · rw [hlb2] at HLu
    clear hlb hlb2
    go_wp2_with (first
      | (go_at_call 18; clear tkA; go_must (refine HLt.out.mono ?_; rintro e wx ⟨rfl, hbx⟩; have HBx : Hid (Below W.heap.size W wx) := hbx; clear hbx))
      | (go_at_call 18; go_must (refine (HLu.out _ HBx.out).mono ?_; rintro e wy ⟨rfl, hby⟩; have HBy : Hid (Below W.heap.size W wy) := bnext HBx.out hby; clear hby))
      | (go_at_call 7; go_must (refine (HAl.out _).mono ?_; rintro e w3 ⟨rfl, hb3⟩; have HB3 : Hid (Below W.heap.size W w3) := bnext HBy.out hb3; clear hb3)))
    go_ret
    exact ⟨rfl, HB3.out⟩
  rw [hlb2] at HLu
  obtain ⟨hl20, hq⟩ := light_ofB1 hlb HEN.out
  obtain ⟨hl10, hq1⟩ := light_ofB1 hlb2 HEN1.out
  rw [List.length_map] at hl20 hl10
  have HQ : Hid (∀ r ∈ l.map SpT.q, Rd W r.v r.b ∧ r.b.length ≤ 1000) := hq
  have HQ1 : Hid (∀ r ∈ l1.map SpT.q, Rd W r.v r.b ∧ r.b.length ≤ 1000) := hq1
  have hl20' : l.length ≤ 20 := by omega
  have hl10' : l1.length ≤ 10 := by omega
  clear hlb hlb2 hl20 hl10 hq hq1 HEN HEN1
  go_upto_region 4 with (first
    | (go_at_call 18; clear tkA; go_must (refine HLt.out.mono ?_; rintro e wx ⟨rfl, hbx⟩; have HBx : Hid (Below W.heap.size W wx) := hbx; clear hbx))
    | (go_at_call 18; go_must (refine (HLu.out _ HBx.out).mono ?_; rintro e wy ⟨rfl, hby⟩; have HBy : Hid (Below W.heap.size W wy) := bnext HBx.out hby; clear hby))
    | (go_at_call 9; go_must (refine (HNw.out _).mono ?_; rintro e w3 ⟨lb, tb, rfl, hA, hlb, htb, hb3⟩; have HB3 : Hid (Below W.heap.size W w3) := bnext HBy.out hb3; have HN3 : Hid (LogN W.heap.size w3 lb (.slice none 0 0) tb none [] []) := ⟨hA, Nat.le_trans HBy.out.size hlb, Nat.le_trans HBy.out.size htb, (fun k hk => (by cases hk)), (fun k hk => (by cases hk))⟩; clear hA hlb htb hb3)))
  clear HLt HLu HBx HBy HNw
  go_wp2
  go_loopw [6] (fun i wr => ∃ (k : Nat) (v : Value) (mo : Option Nat) (L : List IT) (U : List ST), i = .int .i64 (k : Int) ∧ k ≤ l.length ∧ U.length ≤ k ∧ Hid (LogN W.heap.size wr lb v tb mo L U) ∧ Hid (Below W.heap.size W wr)) (fun i _ => l.length - (intOf i).toNat)
  case atStart => exact ⟨0, .slice none 0 0, none, [], [], rfl, Nat.zero_le _, Nat.le_refl _, HN3, HB3⟩
  case round =>
    obtain ⟨k, v, mo, L, U, rfl, hk, hul, HN, HB⟩ := hrel
    clear HN3 HB3
    rename World => wr
    by_cases hlt : k < l.length
    · have hkI : (k : Int) < (l.length : Int) := by omega
      obtain ⟨s, hs⟩ : ∃ s, l[k]? = some s := ⟨_, List.getElem?_eq_getElem hlt⟩
      obtain ⟨b, off, rfl, hc⟩ := RowF.at spc_len (HRD.out.below HB.out) hs
      have HL : Hid (wr.rangeAt b (off + k * 11) (spc s)) := hc
      have hsq := HQ.out s.q (List.mem_map.2 ⟨s, List.mem_of_getElem? hs, rfl⟩)
      have HSt : Hid (Calls Try.prog 19 #[ptr lb, spv s] wr (SAns wr lb v tb mo U s)) := step19 HN.out.at_ (by omega) (hsq.1.below HB.out) hsq.2
      clear hs hc hsq
      go_wp2_with (first
        | (refine wpList_okw rfl (exec_load50 (s := s) (.tmp 35) rfl rfl HL.out) ?_)
        | (go_at_call 19; go_must (refine HSt.out.mono ?_; rintro e w2 ⟨n, kk, v', mo', L', T', rfl, d1, d2, d3⟩; have HLw : Hid (Lw lb tb mo v wr w2 mo' v') := d2; have HAt : Hid (LogAt w2 lb v' tb mo' L' T') := d1; have HS : Hid (StepB U s T' n kk) := d3; clear d1 d2 d3)))
      go_roundw
      case rel =>
        obtain ⟨e1, e2⟩ := HN.out.step HB.out HAt.out HLw.out
        exact ⟨k + 1, v', mo', L', T', by go_num, by omega, by have := HS.out.len; omega, e1, e2⟩
      case measure => simp [intOf]; omega
    have hkI : ¬ (k : Int) < (l.length : Int) := by omega
    have hu20 : U.length ≤ 20 := by omega
    have HCp : Hid (Calls Try.prog 20 #[ptr lb] wr (CopyAns wr L U)) := copy20 HN.out.at_
    clear hul hk hlt
    have tk1 : Hid True := trivial
    go_upto_region 11 with (first
      | (go_at_call 20; go_must (refine HCp.out.mono ?_; rintro e wc ⟨lo, tq, vc, mc, LC, T, rfl, q1, q2, q3, q4, q5, q6, q7, q8⟩; have HBc : Hid (Below W.heap.size W wc) := bnext HB.out q8; have HDc : Hid (Duo W.heap.size wc lb v tb mo L U lo vc tq mc LC T) := duo_copy HB.out HN.out q8 q1 q4 q5 q6 q7; have HOb : Hid (Ob T = Ob U) := q2; have HLm : Hid (LC.map IT.m = L.map IT.m) := q3; have HOp : Hid (Calls Try.prog 14 #[ptr lo] wc (OpsAns wc T)) := ops14 q1; clear q1 q2 q3 q4 q5 q6 q7 q8))
      | (go_at_call 14; go_must (refine HOp.out.mono ?_; rintro e wd ⟨v8, O8, rfl, q1, q2, q3⟩; have HBd : Hid (Below W.heap.size W wd) := bnext HBc.out q3; have HDd : Hid (Duo W.heap.size wd lb v tb mo L U lo vc tq mc LC T) := HDc.out.below q3; have HO8 : Hid (OwnO wc.heap.size wd v8 O8 ∧ CopO wc.heap.size wd (opsS T) O8) := ⟨q1, q2⟩; have HTc : Hid (Calls Try.prog 16 #[ptr lo] wd fun e w' => e = .returned (ptr tq) ∧ Below wd.heap.size wd w') := tree16 (HDc.out.below q3).b.at_.blk; clear q1 q2 q3))
      | (go_at_call 16; go_must (refine HTc.out.mono ?_; rintro e we ⟨rfl, hb⟩; have HBe : Hid (Below wd.heap.size wd we) := hb; have HAll : Hid (Calls Try.prog 22 #[ptr tq] we fun e w' => ∃ v X, e = .returned v ∧ Was w' v X ∧ X.map IT.m = LC.map IT.m ∧ (∀ k, v.ownBlock = some k → we.heap.size ≤ k ∧ k < w'.heap.size) ∧ Below we.heap.size we w') := all17w (HDd.out.below hb).b.at_.tree (by have := HDd.out.b.at_.fewL; omega); clear hb))
      | (go_at_call 22; go_must (refine HAll.out.mono ?_; rintro e wf ⟨vx, X, rfl, hwx, hmx, _, hb⟩; have HBf : Hid (Below wd.heap.size wd wf) := bnext HBe.out hb; have HXm : Hid (X.map IT.m = LC.map IT.m) := hmx; have HXr : Hid (∀ x ∈ X, Rd wf x.v x.m.b) := hwx.rd; have HIt : Hid (Calls Try.prog 21 #[vx] wf fun e w' => ∃ v', e = .returned v' ∧ OwnT wf.heap.size w' v' X ∧ Below wf.heap.size wf w') := items16 hwx.row (by have h1 := map_len hmx; rw [List.length_map] at h1; have := HDd.out.b.at_.fewL; omega); clear hb hmx hwx))
      | (go_at_call 21; go_must (refine HIt.out.mono ?_; rintro e wg ⟨vy, rfl, ho, hb⟩; have HBg : Hid (Below wd.heap.size wd wg) := bnext HBf.out hb; have HKg : Hid (Kept wg v8 O8 vy X) := ⟨own_below HO8.out.1.own HBg.out, (fun q hq => ((HO8.out.2.own q hq).rd).below HBg.out), ho.own, (fun x hx => (HXr.out x hx).below hb)⟩; clear hb ho)))
    have HM8 : Hid (O8.map bare = Ob T) := HO8.out.2.map
    have HDg : Hid (Duo W.heap.size wg lb v tb mo L U lo vc tq mc LC T) := HDd.out.below HBg.out
    have HBW : Hid (Below W.heap.size W wg) := bnext HBd.out HBg.out
    have HOa : Hid (Calls Try.prog 14 #[ptr lb] wg (OpsAns wg U)) := ops14 HDg.out.a.at_
    clear HCp HBc HDc HOp HBd HDd HO8 HTc HBe HAll HBf HXr HIt HBg HN HB
    have tkB : Hid True := trivial
    go_upto_region 13 with (first
      | (go_at_call 14; go_must (refine HOa.out.mono ?_; rintro e u1 ⟨v9, O9, rfl, q1, q2, q3⟩; have HU1 : Hid (Below wg.heap.size wg u1) := q3; have HAq : Hid (Calls Try.prog 13 #[v8, v9] u1 fun e w' => e = .returned (.bool true) ∧ Below u1.heap.size u1 w') := all20 (rowF_own oc_len (HKg.out.below q3).row) q1.row (HKg.out.below q3).rd (fun r hr => (q2.own r hr).rd) (HM8.out.trans (HOb.out.trans q2.map.symm)); clear q1 q2 q3))
      | (go_at_call 13; go_must (refine HAq.out.mono ?_; rintro e u2 ⟨rfl, hb⟩; have HU2 : Hid (Below wg.heap.size wg u2) := bnext HU1.out hb; have HTa : Hid (Calls Try.prog 16 #[ptr lb] u2 fun e w' => e = .returned (ptr tb) ∧ Below u2.heap.size u2 w') := tree16 (HDg.out.below HU2.out).a.at_.blk; clear hb))
      | (go_at_call 16; clear tkB; go_must (refine HTa.out.mono ?_; rintro e u3 ⟨rfl, hb⟩; have HU3 : Hid (Below wg.heap.size wg u3) := bnext HU2.out hb; have HTb : Hid (Calls Try.prog 16 #[ptr lo] u3 fun e w' => e = .returned (ptr tq) ∧ Below u3.heap.size u3 w') := tree16 (HDg.out.below HU3.out).b.at_.blk; clear hb))
      | (go_at_call 16; go_must (refine HTb.out.mono ?_; rintro e u4 ⟨rfl, hb⟩; have HU4 : Hid (Below wg.heap.size wg u4) := bnext HU3.out hb; have HSa : Hid (Calls Try.prog 15 #[ptr tb, ptr tq] u4 fun e w' => e = .returned (.bool true) ∧ Below u4.heap.size u4 w') := same29y (HDg.out.below HU4.out).a.at_.tree (HDg.out.below HU4.out).b.at_.tree HLm.out.symm; clear hb))
      | (go_at_call 15; go_must (refine HSa.out.mono ?_; rintro e u5 ⟨rfl, hb⟩; have HU5 : Hid (Below wg.heap.size wg u5) := bnext HU4.out hb; clear hb)))
    have HD5 : Hid (Duo W.heap.size u5 lb v tb mo L U lo vc tq mc LC T) := HDg.out.below HU5.out
    have HK5 : Hid (Kept u5 v8 O8 vy X) := HKg.out.below HU5.out
    have HB5 : Hid (Below W.heap.size W u5) := bnext HBW.out HU5.out
    clear HDg HKg HBW HOa HU1 HAq HU2 HTa HU3 HTb HU4 HSa HU5 HLm HOb hkI
    go_wp2
    go_loopw [10] (fun i wr => ∃ (k : Nat) (v : Value) (mo : Option Nat) (L : List IT) (U : List ST), i = .int .i64 (k : Int) ∧ k ≤ l1.length ∧ U.length ≤ 20 + k ∧ Hid (Duo W.heap.size wr lb v tb mo L U lo vc tq mc LC T) ∧ Hid (Kept wr v8 O8 vy X) ∧ Hid (Below W.heap.size W wr)) (fun i _ => l1.length - (intOf i).toNat)
    case atStart => exact ⟨0, v, mo, L, U, rfl, Nat.zero_le _, by omega, HD5, HK5, HB5⟩
    case round =>
      clear hu20
      obtain ⟨k, v, mo, L, U, rfl, hk, hul, HD, HK, HB⟩ := hrel
      clear HD5 HK5 HB5
      rename World => wr
      by_cases hlt : k < l1.length
      · have hkI : (k : Int) < (l1.length : Int) := by omega
        obtain ⟨s, hs⟩ : ∃ s, l1[k]? = some s := ⟨_, List.getElem?_eq_getElem hlt⟩
        obtain ⟨b, off, rfl, hc⟩ := RowF.at spc_len (HRD1.out.below HB.out) hs
        have HL : Hid (wr.rangeAt b (off + k * 11) (spc s)) := hc
        have hsq := HQ1.out s.q (List.mem_map.2 ⟨s, List.mem_of_getElem? hs, rfl⟩)
        have HSt : Hid (Calls Try.prog 19 #[ptr lb, spv s] wr (SAns wr lb v tb mo U s)) := step19 HD.out.a.at_ (by omega) (hsq.1.below HB.out) hsq.2
        clear hs hc hsq
        go_wp2_with (first
          | (refine wpList_okw rfl (exec_load50 (s := s) (.tmp 68) rfl rfl HL.out) ?_)
          | (go_at_call 19; go_must (refine HSt.out.mono ?_; rintro e w2 ⟨n, kk, v', mo', L', T', rfl, d1, d2, d3⟩; have HLw : Hid (Lw lb tb mo v wr w2 mo' v') := d2; have HAt : Hid (LogAt w2 lb v' tb mo' L' T') := d1; have HS : Hid (StepB U s T' n kk) := d3; clear d1 d2 d3)))
        go_roundw
        case rel =>
          obtain ⟨e1, e2⟩ := HD.out.left HB.out HAt.out HLw.out
          exact ⟨k + 1, v', mo', L', T', by go_num, by omega, by have := HS.out.len; omega, e1, HK.out.step HLw.out HD.out.a.at_, e2⟩
        case measure => simp [intOf]; omega
      have hkI : ¬ (k : Int) < (l1.length : Int) := by omega
      have HOp : Hid (Calls Try.prog 14 #[ptr lo] wr (OpsAns wr T)) := ops14 HD.out.b.at_
      clear hul hk hlt
      go_upto_region 19 with (first
        | (go_at_call 14; go_must (refine HOp.out.mono ?_; rintro e u1 ⟨v9, O9, rfl, q1, q2, q3⟩; have HU1 : Hid (Below wr.heap.size wr u1) := q3; have HAq : Hid (Calls Try.prog 13 #[v9, v8] u1 fun e w' => e = .returned (.bool true) ∧ Below u1.heap.size u1 w') := all20 q1.row (rowF_own oc_len (HK.out.below q3).row) (fun r hr => (q2.own r hr).rd) (HK.out.below q3).rd (q2.map.trans HM8.out.symm); clear q1 q2 q3))
        | (go_at_call 13; go_must (refine HAq.out.mono ?_; rintro e u2 ⟨rfl, hb⟩; have HU2 : Hid (Below wr.heap.size wr u2) := bnext HU1.out hb; have HTa : Hid (Calls Try.prog 16 #[ptr lo] u2 fun e w' => e = .returned (ptr tq) ∧ Below u2.heap.size u2 w') := tree16 (HD.out.below HU2.out).b.at_.blk; clear hb))
        | (go_at_call 16; go_must (refine HTa.out.mono ?_; rintro e u3 ⟨rfl, hb⟩; have HU3 : Hid (Below wr.heap.size wr u3) := bnext HU2.out hb; have HAll : Hid (Calls Try.prog 22 #[ptr tq] u3 fun e w' => ∃ v X, e = .returned v ∧ Was w' v X ∧ X.map IT.m = LC.map IT.m ∧ (∀ k, v.ownBlock = some k → u3.heap.size ≤ k ∧ k < w'.heap.size) ∧ Below u3.heap.size u3 w') := all17w (HD.out.below HU3.out).b.at_.tree (by have := HD.out.b.at_.fewL; omega); clear hb))
        | (go_at_call 22; go_must (refine HAll.out.mono ?_; rintro e u4 ⟨vz, Z, rfl, hwx, hmx, _, hb⟩; have HU4 : Hid (Below wr.heap.size wr u4) := bnext HU3.out hb; have HZm : Hid (Z.map IT.m = LC.map IT.m) := hmx; have HIt : Hid (Calls Try.prog 21 #[vz] u4 fun e w' => ∃ v', e = .returned v' ∧ Was w' v' Z ∧ Below u4.heap.size u4 w') := items16w hwx (by have h1 := map_len hmx; rw [List.length_map] at h1; have := HD.out.b.at_.fewL; omega); clear hb hmx hwx))
        | (go_at_call 21; go_must (refine HIt.out.mono ?_; rintro e u5 ⟨vw, rfl, hw, hb⟩; have HU5 : Hid (Below wr.heap.size wr u5) := bnext HU4.out hb; have HSm : Hid (Calls Try.prog 23 #[vw, vy] u5 fun e w' => e = .returned (.bool true) ∧ Below u5.heap.size u5 w') := same15w hw (HK.out.below HU5.out).was (HZm.out.trans HXm.out.symm); clear hb hw))
        | (go_at_call 23; go_must (refine HSm.out.mono ?_; rintro e u6 ⟨rfl, hb⟩; have HU6 : Hid (Below W.heap.size W u6) := bnext HB.out (bnext HU5.out hb); clear hb)))
      clear HOp HU1 HAq HU2 HTa HU3 HAll HU4 HIt HU5 HSm HZm
      go_wp2_with (first
        | (refine wpList_okw rfl (exec_oz rfl) ?_)
        | (refine wpList_okw rfl (exec_sz rfl) ?_)
        | (go_at_call 10; go_must (refine (ins10n oz _).mono ?_; rintro e n1 ⟨rfl, hb⟩; have HV1 : Hid (Below W.heap.size W n1) := bnext HU6.out hb; clear hb))
        | (go_at_call 12; go_must (refine (rem12n (0, 0) _).mono ?_; rintro e n2 ⟨rfl, hb⟩; have HV2 : Hid (Below W.heap.size W n2) := bnext HV1.out hb; clear hb))
        | (go_at_call 11; go_must (refine (has11n (0, 0) _).mono ?_; rintro e n3 ⟨rfl, hb⟩; have HV3 : Hid (Below W.heap.size W n3) := bnext HV2.out hb; clear hb))
        | (go_at_call 24; go_must (refine (len24n _).mono ?_; rintro e n4 ⟨rfl, hb⟩; have HV4 : Hid (Below W.heap.size W n4) := bnext HV3.out hb; clear hb))
        | (go_at_call 14; go_must (refine (ops14n _).mono ?_; rintro e n5 ⟨rfl, hb⟩; have HV5 : Hid (Below W.heap.size W n5) := bnext HV4.out hb; clear hb))
        | (go_at_call 16; go_must (refine (tree16n _).mono ?_; rintro e n6 ⟨rfl, hb⟩; have HV6 : Hid (Below W.heap.size W n6) := bnext HV5.out hb; clear hb))
        | (go_at_call 20; go_must (refine (copy20n _).mono ?_; rintro e n7 ⟨rfl, hb⟩; have HV7 : Hid (Below W.heap.size W n7) := bnext HV6.out hb; clear hb))
        | (go_at_call 7; go_must (refine (HAl.out _).mono ?_; rintro e n8 ⟨rfl, hb⟩; have HV8 : Hid (Below W.heap.size W n8) := bnext HV7.out hb; clear hb)))
      go_ret
      exact ⟨rfl, HV8.out⟩
end

section
set_option linter.unusedVariables false
set_option linter.unusedSimpArgs false
set_option synthInstance.maxSize 20000
set_option maxHeartbeats 2000000
set_option maxRecDepth 20000
open Go.RowKit Go.Maps

section
open Go.ChangeShapes Go.WideShapes Go.ChangeAt
variable {H : Type} {enc : TypeId × Value → H}
set_option maxRecDepth 100000 in
theorem steps_of {w : World} {r : Reach} {b0 base : Nat} {held : Bool} {v : Value} {d : DataW H} {p : List MemPlace}
    (hv : Value.okWide Try.prog w r b0 46 v) (h : DataW.Trod enc Try.prog w base (fun _ => true) held 46 v d p) : ∃ l, RowF spc w v l ∧ (∀ s ∈ l, QIn w s.q) ∧ (l = [] ∨ ∃ el sp, d = .slice el sp ∧ el.length = l.length) := by
  obtain ⟨a0, len0, cap0, rfl⟩ := okWide_slice Try.underlying46 hv
  obtain ⟨fuel, hf⟩ := h
  have : Inhabited SpT := ⟨⟨false, oz⟩⟩
  obtain ⟨l, h1, h2⟩ := rows_of (f := spc) spc_len (by omega) Try.underlying46 (by kernel_rfl) (fun s => QIn w s.q) (fun n cs y hl hy => sp_cells hl hy) hf
  refine ⟨l, h1, h2, ?_⟩
  obtain ⟨a1, c1, e1⟩ := h1.len
  rcases Deep.open_slice Try.underlying46 hf with ⟨hcs, _⟩ | ⟨y, len, cap, m, n, D, Pl, hcs, _, hl, hm, hmm, hx, _⟩
  · left
    simp [Value.cells] at hcs
    have : (Value.slice none 0 0) = .slice a1 l.length c1 := by rw [← e1, hcs.1, hcs.2.1, hcs.2.2]
    injection this with _ e _
    exact List.eq_nil_of_length_eq_zero e.symm
  · right
    simp [Value.cells] at hcs
    rw [hcs.1, hcs.2.1, hcs.2.2] at e1
    injection e1 with _ e _
    injection hx with hx _
    exact ⟨_, _, hx, by rw [List.length_map, List.length_range]; exact e⟩
theorem steps_fit {ts : List TypeId} {ds : List (DataW H)} {j : Nat} {d : DataW H} {l : List SpT} (h : (DataW.weightsEach Try.prog ts ds).all (· ≤ reachBytes) = true) (ht : ts[j]? = some 46) (hd : ds[j]? = some d) (hl : l = [] ∨ ∃ el sp, d = .slice el sp ∧ el.length = l.length) : l.length * 104 ≤ 140737488355328 := by
  rcases hl with rfl | ⟨el, sp, rfl, e⟩
  · simp
  · have h1 := sized_slice h ht hd Try.underlying46
    have hb : Try.prog.bytesOf 50 = 112 := by kernel_rfl
    rw [hb] at h1
    have h2 : reachBytes < 140737488355328 := reachBytes_lt
    have h3 : (el.length + sp.length) * 112 = el.length * 112 + sp.length * 112 := Nat.add_mul _ _ _
    omega
end
end
end Go.Proofs.Ythnjbjlhfohpfaa
