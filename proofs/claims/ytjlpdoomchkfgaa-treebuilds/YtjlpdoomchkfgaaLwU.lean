/-
  An operation undone: the law walked.
-/
import Derived.Test.YtjlpdoomchkfgaaLwR
import Derived.Test.YtjlpdoomchkfgaaTrS
namespace Go.Proofs.Ytjlpdoomchkfgaa
set_option linter.unusedVariables false
set_option linter.unusedSimpArgs false
set_option synthInstance.maxSize 20000
set_option maxHeartbeats 2000000
set_option maxRecDepth 20000
open Go.RowKit Go.Maps

theorem light_one {q : OpT} (h : lightB [q] 1 = true) {W : World} (hq : Rd W q.v q.b) : q.b.length ≤ 1000 :=
  ((light_of h (W := W) (fun r hr => by rw [List.mem_singleton.1 hr]; exact hq)).2 q (by simp)).2
theorem undo_gone {M : List IM} (h : Gd M) {q : OpT} (hn : findM M q.n = none) : delM (stepM M q) q.n = M := by
  unfold stepM
  cases hc : chM M q with
  | none => exact delM_no hn
  | some y =>
    have e := chM_n hc
    show delM (putM M y) q.n = M
    rw [← e]
    exact delM_put h.srt (by rw [e]; exact hn)
theorem undo_back {M : List IM} (h : Gd M) {q : OpT} {u : IM} (hu : findM M q.n = some u) : putM (stepM M q) u = M := by
  have hun := (findM_mem hu).2
  have hf : findM M u.n = some u := by rw [hun]; exact hu
  unfold stepM
  cases hc : chM M q with
  | none => exact putM_find h.srt hf
  | some y => exact putM_put h.srt hf ((chM_n hc).trans hun.symm)
/-- A row of items that was handed out. -/
structure Was (w : World) (v : Value) (X : List IT) : Prop where
  row : RowF ic w v X
  rd : ∀ x ∈ X, Rd w x.v x.m.b
theorem Was.below {w w' : World} {v : Value} {X : List IT} (h : Was w v X) (hb : Below w.heap.size w w') : Was w' v X := ⟨h.row.below hb, fun x hx => (h.rd x hx).below hb⟩
theorem Was.tw {w w' : World} {v : Value} {X L : List IT} {tb : Nat} {mo mo' : Option Nat} (h : Was w v X) (ht : Tw tb mo w w' mo') (hP : PTr w tb mo L) : Was w' v X := ⟨ht.rowF hP ic_head h.row, fun x hx => ht.rd hP (h.rd x hx)⟩
theorem Was.past {w w' : World} {v : Value} {X : List IT} {g : Nat} {x : IT} (h : Was w v X) (hi : Itp w g x) (hg : w.grownBy w' (some g)) (hne : ∀ k, v.ownBlock = some k → k ≠ g) : Was w' v X := ⟨h.row.blocks fun j hj hlt => hg.block j hlt (fun e => hne j hj (Option.some.inj e)), fun x hx => rd_pastitp (h.rd x hx) hi hg⟩
theorem ThoseAns.was {w w' : World} {L : List IT} {e : Ending} (h : ThoseAns w L anyI e w') : ∃ v X, e = .returned v ∧ Was w' v X ∧ X.map IT.m = L.map IT.m ∧ (∀ k, v.ownBlock = some k → w.heap.size ≤ k ∧ k < w'.heap.size) ∧ Below w.heap.size w w' := by
  obtain ⟨v, X, he, ho, hm, hown, hb⟩ := h
  exact ⟨v, X, he, ⟨ho.row, fun x hx => (hown x hx).rd⟩, by rw [hm, filter_any], fun k hk => ⟨ho.new k hk, (ho.own.lt k hk).2⟩, hb⟩
theorem all17w {w : World} {tb : Nat} {mo : Option Nat} {L : List IT} (h : PTr w tb mo L) (few : L.length ≤ 500) : Calls Try.prog 17 #[ptr tb] w fun e w' => ∃ v X, e = .returned v ∧ Was w' v X ∧ X.map IT.m = L.map IT.m ∧ (∀ k, v.ownBlock = some k → w.heap.size ≤ k ∧ k < w'.heap.size) ∧ Below w.heap.size w w' := (all17 h few).mono fun e w' h => h.was
theorem items16w {w : World} {v : Value} {X : List IT} (h : Was w v X) (few : X.length ≤ 1000) : Calls Try.prog 16 #[v] w fun e w' => ∃ v', e = .returned v' ∧ Was w' v' X ∧ Below w.heap.size w w' := by
  refine (items16 h.row few).mono ?_
  rintro e w' ⟨v', rfl, ho, hb⟩
  exact ⟨v', rfl, ⟨ho.row, fun x hx => (h.rd x hx).below hb⟩, hb⟩
theorem same15w {w : World} {v u : Value} {X Y : List IT} (hv : Was w v X) (hu : Was w u Y) (h : X.map IT.m = Y.map IT.m) : Calls Try.prog 15 #[v, u] w fun e w' => e = .returned (.bool true) ∧ Below w.heap.size w w' := rsameL15 hv.row hu.row hv.rd hu.rd h
theorem map_len {X : List IT} {M : List IM} (h : X.map IT.m = M) : X.length = M.length := by rw [← h, List.length_map]
set_option maxHeartbeats 16000000 in
theorem undoes6 (v : Value) (l : List OpT) (q : OpT) (W : World) (rd : RowF oc W v l) (en : ∀ q ∈ l, QIn W q) (ok : QIn W q) : Calls Try.prog 6 #[v, ov q] W fun e W' => e = .returned (.bool true) ∧ Below W.heap.size W W' := by
  obtain ⟨a0, c0, rfl⟩ := rd.len
  have hcap := rd.caps
  have HRD : Hid (RowF oc W (.slice a0 l.length c0) l) := rd
  have HEN : Hid (∀ q ∈ l, Rd W q.v q.b) := fun q hq => (en q hq).rd
  have HRq : Hid (Rd W q.v q.b) := ok.rd
  have HAl : Hid (∀ w', Calls Try.prog 9 #[] w' fun e w'' => e = .returned (.bool true) ∧ Below w'.heap.size w' w'') := alive9
  obtain ⟨w1, hw1⟩ : ∃ w1, w1 = W.alloc (.cells (oc q).toArray 40) := ⟨_, rfl⟩
  obtain ⟨B0, hB0⟩ : ∃ B0, B0 = W.heap.size := ⟨_, rfl⟩
  obtain ⟨i1, i2⟩ := box_op hw1 hB0
  have HB1 : Hid (Below W.heap.size W w1) := i1
  have HQ1 : Hid (Opb w1 B0 q) := i2
  have HQl : Hid (w1.rangeAt B0 0 (oc q)) := Blk.range0 i2
  have HLt : Hid (Calls Try.prog 8 #[.slice a0 l.length c0, .int .i64 40] w1 fun e w' => e = .returned (.bool (lightB l 40)) ∧ w' = w1) := light8 (rd.below i1) (by omega)
  obtain ⟨w2, hw2⟩ : ∃ w2, w2 = w1.alloc (.cells (oc q).toArray 40) := ⟨_, rfl⟩
  obtain ⟨p2, hp2⟩ : ∃ p2, p2 = w1.heap.size := ⟨_, rfl⟩
  have HW2 : Hid (w2 = w1.alloc (.cells (oc q).toArray 40)) := hw2
  have HP2 : Hid (p2 = w1.heap.size) := hp2
  have HLq : Hid (Calls Try.prog 8 #[.slice (some ⟨p2, 0, none⟩) 1 1, .int .i64 1] w2 fun e w' => e = .returned (.bool (lightB [q] 1)) ∧ w' = w2) := by
    rw [hw2, hp2]
    exact light8 (rowF_one w1 q 40) (by simp)
  have HB2 : Hid (Below w1.heap.size w1 w2) := by show Below _ _ _; rw [hw2]; exact balloc (Below.refl _ _) _
  clear rd en ok hcap i1 i2 hw2 hp2
  go_enter Try.func6, Try.ntmps6
  go_upto_region 1 with (refine wpList_okw rfl (exec_box40 (q := q) (.tmp 1) rfl rfl) ?_)
  rw [← hw1, ← hB0]
  clear hw1 hB0
  cases hlb : lightB l 40
  · rw [hlb] at HLt
    clear hlb HLq
    go_wp2_with (first
      | (go_at_call 8; go_must (refine HLt.out.mono ?_; rintro e wx ⟨rfl, hw⟩; replace hw := hw.symm; subst hw))
      | (go_at_call 9; go_must (refine (HAl.out _).mono ?_; rintro e w3 ⟨rfl, hb3⟩; have HB3 : Hid (Below w1.heap.size w1 w3) := hb3; clear hb3)))
    go_ret
    exact ⟨rfl, bnext HB1.out HB3.out⟩
  rw [hlb] at HLt
  obtain ⟨hl40, hq⟩ := light_of hlb HEN.out
  have HL40 : Hid (l.length ≤ 40) := by show _ ≤ _; omega
  have HQl2 : Hid (∀ q ∈ l, Rd W q.v q.b ∧ q.b.length ≤ 1000) := hq
  clear hlb hl40 hq
  have tk1 : Hid True := trivial
  have tk2 : Hid True := trivial
  cases hlb : lightB [q] 1
  · rw [hlb] at HLq
    clear hlb
    go_wp2_with (first
      | (clear tk1; go_at_call 8; go_must (refine HLt.out.mono ?_; rintro e wx ⟨rfl, hw⟩; replace hw := hw.symm; subst hw))
      | (refine wpList_okw rfl (exec_load40 (q := q) (.tmp 3) rfl rfl HQl.out) ?_)
      | (clear tk2; refine wpList_okw rfl (exec_build1 (q := q) (.tmp 14) rfl rfl) ?_; rw [← HW2.out, ← HP2.out])
      | (go_at_call 8; go_must (refine HLq.out.mono ?_; rintro e wx ⟨rfl, hw⟩; replace hw := hw.symm; subst hw))
      | (go_at_call 9; go_must (refine (HAl.out _).mono ?_; rintro e w3 ⟨rfl, hb3⟩; have HB3 : Hid (Below w1.heap.size w1 w3) := bnext HB2.out hb3; clear hb3)))
    go_ret
    exact ⟨rfl, bnext HB1.out HB3.out⟩
  rw [hlb] at HLq
  have HQb : Hid (q.b.length ≤ 1000) := light_one hlb HRq.out
  have HBz : Hid (Below W.heap.size W w2) := bnext HB1.out HB2.out
  have HBu : Hid (Calls Try.prog 27 #[.slice a0 l.length c0] w2 (BuildAns w2 l)) := build27 (HRD.out.below HBz.out) (by have := HL40.out; omega) fun q hq => ⟨(HQl2.out q hq).1.below HBz.out, (HQl2.out q hq).2⟩
  clear hlb
  go_upto_region 4 with (first
    | (clear tk1; go_at_call 8; go_must (refine HLt.out.mono ?_; rintro e wx ⟨rfl, hw⟩; replace hw := hw.symm; subst hw))
    | (refine wpList_okw rfl (exec_load40 (q := q) (.tmp 3) rfl rfl HQl.out) ?_)
    | (clear tk2; refine wpList_okw rfl (exec_build1 (q := q) (.tmp 14) rfl rfl) ?_; rw [← HW2.out, ← HP2.out])
    | (go_at_call 8; go_must (refine HLq.out.mono ?_; rintro e wx ⟨rfl, hw⟩; replace hw := hw.symm; subst hw))
    | (go_at_call 27; go_must (refine HBu.out.mono ?_; rintro e w3 ⟨tb, mo, L, O, rfl, hP, hF, hM, hlen, ht, hmo, hb3⟩; have HB3 : Hid (Below w2.heap.size w2 w3) := hb3; have HP3 : Hid (PTr w3 tb mo L) := hP; have HM : Hid (L.map IT.m = buildM [] O) := hM; have HLo : Hid (O.length ≤ l.length) := hlen; have HTB : Hid (w2.heap.size ≤ tb ∧ ∀ k, mo = some k → w2.heap.size ≤ k) := ⟨ht, hmo⟩; clear hb3 hP hM hlen ht hmo hF)))
  obtain ⟨M, hM⟩ : ∃ M, M = L.map IT.m := ⟨_, rfl⟩
  have HMM : Hid (L.map IT.m = M) := hM.symm
  have HM40 : Hid (M.length ≤ 40) := by
    have h1 := congrArg List.length HM.out
    have h2 := buildM_len O []
    rw [List.length_nil] at h2
    rw [← hM] at h1
    have := HLo.out
    have := HL40.out
    show _ ≤ _
    omega
  have HGd : Hid (Gd M) := by
    show Gd _
    rw [hM, HM.out]
    refine Gd.build gd_nil ?_
    have := HLo.out
    have := HL40.out
    rw [List.length_nil]
    omega
  have HAll : Hid (Calls Try.prog 17 #[ptr tb] w3 fun e w' => ∃ v X, e = .returned v ∧ Was w' v X ∧ X.map IT.m = L.map IT.m ∧ (∀ k, v.ownBlock = some k → w3.heap.size ≤ k ∧ k < w'.heap.size) ∧ Below w3.heap.size w3 w') := all17w HP3.out (by have := map_len HMM.out; have := HM40.out; omega)
  clear hM HM HLo HLt HLq HBu HQl HW2 HP2
  go_upto_region 5 with (go_at_call 17; go_must (refine HAll.out.mono ?_; rintro e w4 ⟨v4, X, rfl, hw4, hm4, hk4, hb4⟩; have HB4 : Hid (Below w3.heap.size w3 w4) := hb4; have HWas : Hid (Was w4 v4 X) := hw4; have HMX : Hid (X.map IT.m = M) := hm4.trans HMM.out; have HV4 : Hid (∀ k, v4.ownBlock = some k → k < w4.heap.size) := fun k hk => (hk4 k hk).2; clear hb4 hw4 hm4 hk4))
  clear HAll
  have HP4 : Hid (PTr w4 tb mo L) := HP3.out.below HB4.out
  have HB24 : Hid (Below w2.heap.size w2 w4) := bnext HB3.out HB4.out
  have HQ4 : Hid (Opb w4 B0 q) := HQ1.out.below (bnext HB2.out HB24.out)
  have HQr : Hid (w4.rangeAt B0 0 (oc q)) := Blk.range0 HQ4.out
  have HDo : Hid (Calls Try.prog 11 #[ptr tb, ov q] w4 fun e w' => ∃ x b k, e = .returned (.tuple #[iv x, .bool b, .int .i64 k]) ∧ DoAns w4 tb mo L q x b k w') := do11 HP4.out (by have := map_len HMM.out; have := HM40.out; omega) (by rw [HMM.out]; exact HGd.out) q (HRq.out.below (bnext HBz.out HB24.out)) HQb.out
  have HBW4 : Hid (Below W.heap.size W w4) := bnext HBz.out HB24.out
  clear HP3 HB3 HB4 HQ1
  have tk3 : Hid True := trivial
  have tk4 : Hid True := trivial
  go_upto_region 6 with (first
    | (refine wpList_okw rfl (exec_load40 (q := q) (.tmp 3) rfl rfl HQr.out) ?_)
    | (go_at_call 11; go_must (refine HDo.out.mono ?_; rintro e w5 ⟨x, b, k, rfl, hans⟩; have HA : Hid (DoAns w4 tb mo L q x b k w5) := hans; clear hans; obtain ⟨w6, hw6⟩ : ∃ w6, w6 = w5.alloc (.cells (ic zT).toArray 35) := ⟨_, rfl⟩; obtain ⟨g, hg⟩ : ∃ g, g = w5.heap.size := ⟨_, rfl⟩; have HT6 : Hid (w6.there g 0 10) := (show _ from by rw [hw6, hg]; exact (itp_new w5 zT).there); have HW6 : Hid (w6 = w5.alloc (.cells (ic zT).toArray 35)) := hw6; have HGG : Hid (g = w5.heap.size) := hg; clear hw6 hg))
    | (clear tk3; refine wpList_okw rfl (exec_alloc35 rfl) ?_; rw [← HW6.out, ← HGG.out])
    | (clear tk4; refine wpList_skipw rfl (exec_store35 (q := x) (.tmp 7) (.tmp 28) rfl rfl rfl HT6.out) ?_; obtain ⟨w7, hw7⟩ : ∃ w7, w7 = w6.setCells g 0 (ic x) := ⟨_, rfl⟩; rw [← hw7]; obtain ⟨i1, i2, i3, i4⟩ := item_putp (Below.refl _ _) HW6.out HGG.out hw7; have HI7 : Hid (Itp w7 g x) := i1; have HB57 : Hid (Below w5.heap.size w5 w7) := i2; have HG5 : Hid (w5.heap.size ≤ g) := i4; clear hw7 i1 i2 i3 i4 HT6 HW6 HGG))
  obtain ⟨mo5, L5, hp5, hm5, ht5⟩ := HA.out.tree
  have HT5 : Hid (Tw tb mo w4 w5 mo5) := ht5
  have HP7 : Hid (PTr w7 tb mo5 L5) := hp5.below HB57.out
  have HM5 : Hid (L5.map IT.m = doM M q) := by show _ = _; rw [hm5, HMM.out]
  have hbx := ht5.below HBW4.out (Nat.le_trans HBz.out.size HTB.out.1) (fun k hk => Nat.le_trans HBz.out.size (HTB.out.2 k hk))
  have HBW7 : Hid (Below W.heap.size W w7) := bnext hbx.1 HB57.out
  have HTN : Hid (W.heap.size ≤ tb ∧ ∀ k, mo5 = some k → W.heap.size ≤ k) := ⟨Nat.le_trans HBz.out.size HTB.out.1, hbx.2⟩
  have HWas7 : Hid (Was w7 v4 X) := (HWas.out.tw ht5 HP4.out).below HB57.out
  have HQ7 : Hid (Opb w7 B0 q) := Opb.below (Tw.blk (v := .int .i64 q.k) ht5 HP4.out HQ4.out (fun m => by simp)) HB57.out
  have HVg : Hid (∀ k, v4.ownBlock = some k → k ≠ g) := fun k hk => by
    have h1 := HV4.out k hk
    have h2 := ht5.size
    have h3 := HG5.out
    omega
  have HB45 : Hid (w4.heap.size ≤ w5.heap.size) := ht5.size
  clear hp5 hm5 ht5 hbx HDo HQr HB24 HWas HQ4 HTB HT5
  have hAm := HA.out.m
  have hAb := HA.out.b
  have hAk := HA.out.k
  have HRx : Hid (Rd w7 x.v x.m.b) := HA.out.rd.below HB57.out
  rw [HMM.out] at hAm hAb
  cases hr : rightO q
  · rw [hr] at hAm hAb hAk
    have hk1 : k = 1 := hAk
    subst hk1
    have HMM5 : Hid (L5.map IT.m = M) := by show _ = _; rw [HM5.out]; unfold doM; rw [hr, if_neg (by simp)]
    clear hr hAm hAb hAk HA
    have HAll2 : Hid (Calls Try.prog 17 #[ptr tb] w7 fun e w' => ∃ v X, e = .returned v ∧ Was w' v X ∧ X.map IT.m = _ ∧ (∀ k, v.ownBlock = some k → w7.heap.size ≤ k ∧ k < w'.heap.size) ∧ Below w7.heap.size w7 w') := all17w HP7.out (by have := map_len HMM5.out; have := HM40.out; omega)
    have tkA : Hid True := trivial
    have tkB : Hid True := trivial
    go_wp2_with (first
      | (go_at_call 17; go_must (refine HAll2.out.mono ?_; rintro e wa ⟨va, Y, rfl, hy, hym, _, hba⟩; have HBa : Hid (Below w7.heap.size w7 wa) := hba; have HWa : Hid (Was wa va Y) := hy; have HMY : Hid (Y.map IT.m = _) := hym.trans HMM5.out; have HIa : Hid (Calls Try.prog 16 #[va] wa fun e w' => ∃ v', e = .returned v' ∧ Was w' v' Y ∧ Below wa.heap.size wa w') := items16w hy (by have := map_len HMY.out; have := HM40.out; omega); clear hba hy hym))
      | (go_at_call 16; clear tkA; go_must (refine HIa.out.mono ?_; rintro e wb ⟨vb, rfl, hwb, hbb⟩; have HBb : Hid (Below w7.heap.size w7 wb) := bnext HBa.out hbb; have HWb : Hid (Was wb vb Y) := hwb; have HIb : Hid (Calls Try.prog 16 #[_] wb fun e w' => ∃ v', e = .returned v' ∧ Was w' v' X ∧ Below wb.heap.size wb w') := items16w (HWas7.out.below HBb.out) (by have := map_len HMX.out; have := HM40.out; omega); clear hwb hbb))
      | (go_at_call 16; clear tkB; go_must (refine HIb.out.mono ?_; rintro e wc ⟨vc, rfl, hwc, hbc⟩; have HBc : Hid (Below w7.heap.size w7 wc) := bnext HBb.out hbc; have HSa : Hid (Calls Try.prog 15 #[vb, vc] wc fun e w' => e = .returned (.bool true) ∧ Below wc.heap.size wc w') := same15w (HWb.out.below hbc) hwc (HMY.out.trans HMX.out.symm); clear hwc hbc))
      | (go_at_call 15; go_must (refine HSa.out.mono ?_; rintro e wd ⟨rfl, hbd⟩; have HBd : Hid (Below w7.heap.size w7 wd) := bnext HBc.out hbd; clear hbd))
      | (go_at_call 9; go_must (refine (HAl.out _).mono ?_; rintro e we ⟨rfl, hbe⟩; have HBe : Hid (Below w7.heap.size w7 we) := bnext HBd.out hbe; clear hbe)))
    go_ret
    exact ⟨rfl, bnext HBW7.out HBe.out⟩
  rw [hr] at hAm hAb hAk
  have HHr : Hid (rightO q = true) := hr
  have hk1 : k = 0 := hAk
  subst hk1
  have HStep : Hid (L5.map IT.m = stepM M q) := by show _ = _; rw [HM5.out]; unfold doM; rw [hr, if_pos rfl]
  have HXM : Hid (x.m = (findM M q.n).getD zM) := hAm
  have HBB : Hid (b = (findM M q.n).isSome) := by show _ = _; rw [hAb]; rfl
  have HL5 : Hid (L5.length ≤ 50) := by
    have h1 := map_len HM5.out
    have h2 := doM_len M q
    have := HM40.out
    show _ ≤ _
    omega
  have HFine : Hid (x.m.b.length ≤ 1000 ∧ SOk x.m.p) := by
    show _ ∧ _
    rw [HXM.out]
    cases hf : findM M q.n with
    | none => exact ⟨Nat.zero_le _, zero_ok⟩
    | some u =>
      have h1 := (findM_mem hf).1
      rw [← HMM.out] at h1
      obtain ⟨y, hy, rfl⟩ := List.mem_map.1 h1
      have := HP4.out.ok y hy
      exact ⟨this.2.2, this.2.1⟩
  clear hr hAm hAb hAk HA HM5
  cases hb : b
  · subst hb
    have HNone : Hid (findM M q.n = none) := by
      have := HBB.out
      cases hf : findM M q.n with
      | none => rfl
      | some y => rw [hf] at this; cases this
    obtain ⟨y, hy⟩ : ∃ y : IT, y = { x with m := { x.m with n := q.n } } := ⟨_, rfl⟩
    obtain ⟨w8, hw8⟩ : ∃ w8, w8 = w7.setCells g 0 (sc q.n) := ⟨_, rfl⟩
    have hg8 : w7.grownBy w8 (some g) := by rw [hw8]; exact grown_setCells _ _ _ _
    have HI8 : Hid (Itp w8 g y) := by show Itp _ _ _; rw [hw8, hy]; exact HI7.out.setNode
    have HP8 : Hid (PTr w8 tb mo5 L5) := HP7.out.pastItp HI7.out hg8
    have HB78 : Hid (w5.heap.size ≤ g) := HG5.out
    have HWas8 : Hid (Was w8 v4 X) := HWas7.out.past HI7.out hg8 HVg.out
    have HBW8 : Hid (Below W.heap.size W w8) := bgrown HBW7.out (by
      have h1 := HBW4.out.size
      have h2 := HG5.out
      have h3 := HB45.out
      omega) hg8
    have HR8 : Hid (Rd w8 y.v y.m.b) := by show Rd _ _ _; rw [hy]; exact rd_pastitp HRx.out HI7.out hg8
    have HQn : Hid (w7.rangeAt B0 3 (sc q.n)) := HQ7.out.node
    have HTh : Hid (w7.there g 0 2) := Blk.there HI7.out 0 2 (by rw [ic_len]; omega)
    have HI8r : Hid (w8.rangeAt g 0 (ic y)) := HI8.out.range
    have HSet : Hid (Calls Try.prog 30 #[ptr tb, iv y, .bool false] w8 fun e w' => e = .returned (.int .i64 0) ∧ ∃ mo' L', PTr w' tb mo' L' ∧ L'.map IT.m = M ∧ Tw tb mo5 w8 w' mo') := by
      refine (set30p HP8.out y HR8.out (by rw [hy]; exact HFine.out.1) (by rw [hy]; exact (rightO_n HHr.out).1) (by rw [hy]; exact HFine.out.2) (by have := HL5.out; omega) false).mono ?_
      rintro e w' ⟨rfl, mo', L', h1, h2, h3⟩
      refine ⟨rfl, mo', L', h1, ?_, h3⟩
      have hyn : y.m.n = q.n := by rw [hy]
      rw [h2, HStep.out]
      show delM (stepM M q) y.m.n = M
      rw [hyn]
      exact undo_gone HGd.out HNone.out
    have HW8 : Hid (w8 = w7.setCells g 0 (sc q.n)) := hw8
    clear hy hw8 hg8
    have tk5 : Hid True := trivial
    go_upto_region 12 with (first
      | (refine wpList_okw rfl (exec_load24n (n := q.n) (.tmp 44) rfl rfl HQn.out) ?_)
      | (clear tk5; refine wpList_skipw rfl (exec_store24n (n := q.n) (.tmp 46) (.tmp 45) rfl rfl rfl HTh.out) ?_; rw [← HW8.out])
      | (refine wpList_okw rfl (exec_load35 (q := y) (.tmp 7) rfl rfl HI8r.out) ?_)
      | (go_at_call 30; go_must (refine HSet.out.mono ?_; rintro e w9 ⟨rfl, mo9, L9, h1, h2, h3⟩; have HP9 : Hid (PTr w9 tb mo9 L9) := h1; have HM9 : Hid (L9.map IT.m = M) := h2; have HT9 : Hid (Tw tb mo5 w8 w9 mo9) := h3; clear h1 h2 h3)))
    have HWas9 : Hid (Was w9 v4 X) := HWas8.out.tw HT9.out HP8.out
    have HBW9 : Hid (Below W.heap.size W w9) := (HT9.out.below HBW8.out HTN.out.1 HTN.out.2).1
    have HAll2 : Hid (Calls Try.prog 17 #[ptr tb] w9 fun e w' => ∃ v X, e = .returned v ∧ Was w' v X ∧ X.map IT.m = _ ∧ (∀ k, v.ownBlock = some k → w9.heap.size ≤ k ∧ k < w'.heap.size) ∧ Below w9.heap.size w9 w') := all17w HP9.out (by have := map_len HM9.out; have := HM40.out; omega)
    have tkA : Hid True := trivial
    have tkB : Hid True := trivial
    go_wp2_with (first
      | (go_at_call 17; go_must (refine HAll2.out.mono ?_; rintro e wa ⟨va, Y, rfl, hy, hym, _, hba⟩; have HBa : Hid (Below w9.heap.size w9 wa) := hba; have HWa : Hid (Was wa va Y) := hy; have HMY : Hid (Y.map IT.m = _) := hym.trans HM9.out; have HIa : Hid (Calls Try.prog 16 #[va] wa fun e w' => ∃ v', e = .returned v' ∧ Was w' v' Y ∧ Below wa.heap.size wa w') := items16w hy (by have := map_len HMY.out; have := HM40.out; omega); clear hba hy hym))
      | (go_at_call 16; clear tkA; go_must (refine HIa.out.mono ?_; rintro e wb ⟨vb, rfl, hwb, hbb⟩; have HBb : Hid (Below w9.heap.size w9 wb) := bnext HBa.out hbb; have HWb : Hid (Was wb vb Y) := hwb; have HIb : Hid (Calls Try.prog 16 #[_] wb fun e w' => ∃ v', e = .returned v' ∧ Was w' v' X ∧ Below wb.heap.size wb w') := items16w (HWas9.out.below HBb.out) (by have := map_len HMX.out; have := HM40.out; omega); clear hwb hbb))
      | (go_at_call 16; clear tkB; go_must (refine HIb.out.mono ?_; rintro e wc ⟨vc, rfl, hwc, hbc⟩; have HBc : Hid (Below w9.heap.size w9 wc) := bnext HBb.out hbc; have HSa : Hid (Calls Try.prog 15 #[vb, vc] wc fun e w' => e = .returned (.bool true) ∧ Below wc.heap.size wc w') := same15w (HWb.out.below hbc) hwc (HMY.out.trans HMX.out.symm); clear hwc hbc))
      | (go_at_call 15; go_must (refine HSa.out.mono ?_; rintro e wd ⟨rfl, hbd⟩; have HBd : Hid (Below w9.heap.size w9 wd) := bnext HBc.out hbd; clear hbd))
      | (go_at_call 9; go_must (refine (HAl.out _).mono ?_; rintro e we ⟨rfl, hbe⟩; have HBe : Hid (Below w9.heap.size w9 we) := bnext HBd.out hbe; clear hbe)))
    go_ret
    exact ⟨rfl, bnext HBW9.out HBe.out⟩
  · subst hb
    obtain ⟨u, hu⟩ : ∃ u, findM M q.n = some u := by
      have := HBB.out
      cases hf : findM M q.n with
      | none => rw [hf] at this; cases this
      | some y => exact ⟨y, rfl⟩
    have HU : Hid (findM M q.n = some u) := hu
    have HXU : Hid (x.m = u) := by show _ = _; rw [HXM.out, hu]; rfl
    have HI7r : Hid (w7.rangeAt g 0 (ic x)) := HI7.out.range
    have HSet : Hid (Calls Try.prog 30 #[ptr tb, iv x, .bool true] w7 fun e w' => e = .returned (.int .i64 0) ∧ ∃ mo' L', PTr w' tb mo' L' ∧ L'.map IT.m = M ∧ Tw tb mo5 w7 w' mo') := by
      refine (set30p HP7.out x HRx.out HFine.out.1 (by rw [HXU.out, (findM_mem hu).2]; exact (rightO_n HHr.out).1) HFine.out.2 (by have := HL5.out; omega) true).mono ?_
      rintro e w' ⟨rfl, mo', L', h1, h2, h3⟩
      refine ⟨rfl, mo', L', h1, ?_, h3⟩
      rw [h2, HStep.out, HXU.out]
      exact undo_back HGd.out hu
    clear hu
    go_upto_region 12 with (first
      | (refine wpList_okw rfl (exec_load35 (q := x) (.tmp 7) rfl rfl HI7r.out) ?_)
      | (go_at_call 30; go_must (refine HSet.out.mono ?_; rintro e w9 ⟨rfl, mo9, L9, h1, h2, h3⟩; have HP9 : Hid (PTr w9 tb mo9 L9) := h1; have HM9 : Hid (L9.map IT.m = M) := h2; have HT9 : Hid (Tw tb mo5 w7 w9 mo9) := h3; clear h1 h2 h3)))
    have HWas9 : Hid (Was w9 v4 X) := HWas7.out.tw HT9.out HP7.out
    have HBW9 : Hid (Below W.heap.size W w9) := (HT9.out.below HBW7.out HTN.out.1 HTN.out.2).1
    have HAll2 : Hid (Calls Try.prog 17 #[ptr tb] w9 fun e w' => ∃ v X, e = .returned v ∧ Was w' v X ∧ X.map IT.m = _ ∧ (∀ k, v.ownBlock = some k → w9.heap.size ≤ k ∧ k < w'.heap.size) ∧ Below w9.heap.size w9 w') := all17w HP9.out (by have := map_len HM9.out; have := HM40.out; omega)
    have tkA : Hid True := trivial
    have tkB : Hid True := trivial
    go_wp2_with (first
      | (go_at_call 17; go_must (refine HAll2.out.mono ?_; rintro e wa ⟨va, Y, rfl, hy, hym, _, hba⟩; have HBa : Hid (Below w9.heap.size w9 wa) := hba; have HWa : Hid (Was wa va Y) := hy; have HMY : Hid (Y.map IT.m = _) := hym.trans HM9.out; have HIa : Hid (Calls Try.prog 16 #[va] wa fun e w' => ∃ v', e = .returned v' ∧ Was w' v' Y ∧ Below wa.heap.size wa w') := items16w hy (by have := map_len HMY.out; have := HM40.out; omega); clear hba hy hym))
      | (go_at_call 16; clear tkA; go_must (refine HIa.out.mono ?_; rintro e wb ⟨vb, rfl, hwb, hbb⟩; have HBb : Hid (Below w9.heap.size w9 wb) := bnext HBa.out hbb; have HWb : Hid (Was wb vb Y) := hwb; have HIb : Hid (Calls Try.prog 16 #[_] wb fun e w' => ∃ v', e = .returned v' ∧ Was w' v' X ∧ Below wb.heap.size wb w') := items16w (HWas9.out.below HBb.out) (by have := map_len HMX.out; have := HM40.out; omega); clear hwb hbb))
      | (go_at_call 16; clear tkB; go_must (refine HIb.out.mono ?_; rintro e wc ⟨vc, rfl, hwc, hbc⟩; have HBc : Hid (Below w9.heap.size w9 wc) := bnext HBb.out hbc; have HSa : Hid (Calls Try.prog 15 #[vb, vc] wc fun e w' => e = .returned (.bool true) ∧ Below wc.heap.size wc w') := same15w (HWb.out.below hbc) hwc (HMY.out.trans HMX.out.symm); clear hwc hbc))
      | (go_at_call 15; go_must (refine HSa.out.mono ?_; rintro e wd ⟨rfl, hbd⟩; have HBd : Hid (Below w9.heap.size w9 wd) := bnext HBc.out hbd; clear hbd))
      | (go_at_call 9; go_must (refine (HAl.out _).mono ?_; rintro e we ⟨rfl, hbe⟩; have HBe : Hid (Below w9.heap.size w9 we) := bnext HBd.out hbe; clear hbe)))
    go_ret
    exact ⟨rfl, bnext HBW9.out HBe.out⟩
end Go.Proofs.Ytjlpdoomchkfgaa
