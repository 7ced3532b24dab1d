/-
  Operations that come and go: the law of plays walked.
-/
import Derived.Test.YthnjbjlhfohpfaaGreatPlB
namespace Go.Proofs.YthnjbjlhfohpfaaGreat
set_option linter.unusedVariables false
set_option linter.unusedSimpArgs false
set_option synthInstance.maxSize 20000
set_option maxHeartbeats 2000000
set_option maxRecDepth 20000
open Go.RowKit Go.Maps

set_option maxHeartbeats 16000000 in
theorem plays3 (v0 : Value) (l : List SpT) (W : World) (rd0 : RowF spc W v0 l) (en0 : ∀ s ∈ l, QIn W s.q) (hsz : l.length * 104 ≤ 140737488355328) : Calls Tryz.prog 3 #[v0] W fun e W' => e = .returned (.bool true) ∧ Below W.heap.size W W' := by
  obtain ⟨a0, c0, rfl⟩ := rd0.len
  have hcap := rd0.caps
  have HRD : Hid (RowF spc W (.slice a0 l.length c0) l) := rd0
  have HEN : Hid (∀ r ∈ l.map SpT.q, Rd W r.v r.b) := fun r hr => by
    obtain ⟨x, hx, rfl⟩ := List.mem_map.1 hr
    exact (en0 x hx).rd
  have HAl : Hid (∀ w', Calls Tryz.prog 5 #[] w' fun e w'' => e = .returned (.bool true) ∧ Below w'.heap.size w' w'') := alive7
  have HLt : Hid (Calls Tryz.prog 4 #[.slice a0 l.length c0, .int .i64 30] W fun e w' => e = .returned (.bool (lightB (l.map SpT.q) 30)) ∧ Below W.heap.size W w') := light18 rd0 hsz
  clear rd0 en0 hsz
  go_enter Tryz.func3, Tryz.ntmps3
  cases hlb : lightB (l.map SpT.q) 30
  · rw [hlb] at HLt
    clear hlb
    go_wp2_with (first
      | (go_at_call 4; go_must (refine HLt.out.mono ?_; rintro e wx ⟨rfl, hbx⟩; have HBx : Hid (Below W.heap.size W wx) := hbx; clear hbx))
      | (go_at_call 5; go_must (refine (HAl.out _).mono ?_; rintro e w3 ⟨rfl, hb3⟩; have HB3 : Hid (Below W.heap.size W w3) := bnext HBx.out hb3; clear hb3)))
    go_ret
    exact ⟨rfl, HB3.out⟩
  rw [hlb] at HLt
  obtain ⟨hl30, hq⟩ := light_ofB1 hlb HEN.out
  rw [List.length_map] at hl30
  have HQ : Hid (∀ r ∈ l.map SpT.q, Rd W r.v r.b ∧ r.b.length ≤ 1000) := hq
  have hl30' : l.length ≤ 30 := by omega
  have HNw : Hid (∀ w', Calls Tryz.prog 6 #[] w' (NewAns w')) := new9
  clear hlb hl30 hq HEN
  go_upto_region 4 with (first
    | (go_at_call 4; go_must (refine HLt.out.mono ?_; rintro e wx ⟨rfl, hbx⟩; have HBx : Hid (Below W.heap.size W wx) := hbx; clear hbx))
    | (go_at_call 6; go_must (refine (HNw.out _).mono ?_; rintro e w3 ⟨lb, tb, rfl, hA, hlb, htb, hb3⟩; have HB3 : Hid (Below W.heap.size W w3) := bnext HBx.out hb3; have HN3 : Hid (LogN W.heap.size w3 lb (.slice none 0 0) tb none [] []) := ⟨hA, Nat.le_trans HBx.out.size hlb, Nat.le_trans HBx.out.size htb, (fun k hk => (by cases hk)), (fun k hk => (by cases hk))⟩; clear hA hlb htb hb3)))
  obtain ⟨w4, hw4⟩ : ∃ w4, w4 = w3.alloc (.cells #[.slice none 0 0] 30) := ⟨_, rfl⟩
  obtain ⟨rb, hrb⟩ : ∃ rb, rb = w3.heap.size := ⟨_, rfl⟩
  have HB34 : Hid (Below w3.heap.size w3 w4) := (show Below _ _ _ from by rw [hw4]; exact balloc (Below.refl _ _) _)
  have HT4 : Hid (TwoL W.heap.size w4 lb (.slice none 0 0) tb none [] [] rb none 0 []) := ⟨HN3.out.below HB34.out, ⟨by rw [hw4, hrb]; exact blk_new w3 [.slice none 0 0] 30, ownO_nil _ _, List.Pairwise.nil, fun q hq => by cases hq⟩, rfl, by rw [hrb]; exact HB3.out.size⟩
  have HB4 : Hid (Below W.heap.size W w4) := bnext HB3.out HB34.out
  clear HLt HNw HB34 HN3 HBx
  go_upto_region 5 with fail
  rw [← hw4, ← hrb]
  clear hw4 hrb HB3
  go_upto_region 7 with (first
    | (go_at_call 5; go_must (refine (HAl.out _).mono ?_; rintro e w5 ⟨rfl, hb3⟩; have HBa5 : Hid (Below w4.heap.size w4 w5) := hb3; have HB5 : Hid (Below W.heap.size W w5) := bnext HB4.out hb3; clear hb3)))
  have HT5 : Hid (TwoL W.heap.size w5 lb (.slice none 0 0) tb none [] [] rb none 0 []) := HT4.out.below (HBa5.out)
  clear HT4 HB4 HBa5
  obtain ⟨N, hN⟩ : ∃ N, N = l.length := ⟨_, rfl⟩
  have HNl : Hid (N = l.length) := hN
  rw [← hN] at HRD hl30' ⊢
  clear hN hcap
  go_wp2
  go_loopw [5] (fun i wr => ∃ (k : Nat) (v : Value) (mo : Option Nat) (L : List IT) (U : List ST) (va : Option Addr) (c : Nat) (R : List OpT), i = .int .i64 (k : Int) ∧ k ≤ N ∧ U.length ≤ k ∧ Hid (TwoL W.heap.size wr lb v tb mo L U rb va c R) ∧ Hid (Below W.heap.size W wr)) (fun i _ => N - (intOf i).toNat)
  case atStart => exact ⟨0, .slice none 0 0, none, [], [], none, 0, [], rfl, Nat.zero_le _, Nat.le_refl _, HT5, HB5⟩
  case round =>
    obtain ⟨k, v, mo, L, U, va, c, R, rfl, hk, hul, HT, HB⟩ := hrel
    clear HT5 HB5
    rename World => wr
    by_cases hlt : k < N
    · have hkI : (k : Int) < (N : Int) := by omega
      obtain ⟨s, hs⟩ : ∃ s, l[k]? = some s := ⟨_, List.getElem?_eq_getElem (by have := HNl.out; omega)⟩
      have hsq := HQ.out s.q (List.mem_map.2 ⟨s, List.mem_of_getElem? hs, rfl⟩)
      have HSq : Hid (Rd W s.q.v s.q.b) := hsq.1
      obtain ⟨b, off, rfl, _⟩ := RowF.at spc_len HRD.out hs
      have HSp : Hid (∀ w', Below W.heap.size W w' → w'.rangeAt b (off + k * 11) (spc s)) := fun w' hb => by
        obtain ⟨b', o', e, h⟩ := RowF.at spc_len (HRD.out.below hb) hs
        cases e
        exact h
      have HL : Hid (wr.rangeAt b (off + k * 11) (spc s)) := HSp.out _ HB.out
      have HSt : Hid (Calls Tryz.prog 7 #[ptr lb, spv s] wr (SAns wr lb v tb mo U s)) := step19 HT.out.g.at_ (by omega) (hsq.1.below HB.out) hsq.2
      clear hs hsq
      go_upto_region 11 with (first
        | (refine wpList_okw rfl (exec_load50 (s := s) (.tmp 35) rfl rfl HL.out) ?_)
        | (go_at_call 7; go_must (refine HSt.out.mono ?_; rintro e w2 ⟨n, kk, v', mo', L', T, rfl, d1, d2, d3⟩; have HLw : Hid (Lw lb tb mo v wr w2 mo' v') := d2; have HAt : Hid (LogAt w2 lb v' tb mo' L' T) := d1; have HS : Hid (StepB U s T n kk) := d3; clear d1 d2 d3)))
      obtain ⟨e1, e2⟩ := HT.out.g.step HB.out HAt.out HLw.out
      have HG2 : Hid (LogN W.heap.size w2 lb v' tb mo' L' T) := e1
      have HB2 : Hid (Below W.heap.size W w2) := e2
      have HR2 : Hid (RLg W.heap.size w2 rb (.slice va U.length c) R) := HT.out.r.lw HLw.out HT.out.g.at_
      have HM2 : Hid (R.map bare = Ob U) := HT.out.m
      have HNr : Hid (W.heap.size ≤ rb) := HT.out.n
      have HSr : Hid (R.Pairwise LtO) := HT.out.r.str
      have HTl : Hid (T.length ≤ k + 1) := (show _ ≤ _ from by have := HS.out.len; omega)
      have HRf : Hid (R.length ≤ 30) := (show _ ≤ _ from by rw [map_few HM2.out]; omega)
      have HSw : Hid (w2.rangeAt b (off + k * 11) (spc s)) := HSp.out _ HB2.out
      have cB : w2.cell? ⟨b, off + k * 11, none⟩ = some (.bool s.g) := by
        have := HSw.out 0 _ rfl
        simpa using this
      clear e1 e2 HL HSt HT HB HLw
      go_upto_region 12 with fail
      cases hg : s.g
      case' true =>
        have HRm : Hid (Calls Tryz.prog 8 #[ptr rb, sv s.q.a] w2 (RRemAns W w2 rb R s.q.a)) := rrem8 HR2.out HB2.out HNr.out (by have := HRf.out; omega)
        have HLa : Hid (w2.rangeAt b (off + k * 11 + 2) (sc s.q.a)) := range_a (range_sp HSw.out)
        have HG : Hid (s.g = true) := hg
        rw [hg] at cB
        clear hg
        go_upto_region 15 with (first
          | (refine wpList_okw rfl (exec_load24n (n := s.q.a) (.tmp 51) rfl rfl HLa.out) ?_)
          | (go_at_call 8; go_must (refine HRm.out.mono ?_; rintro e w3 ⟨n', k', u', R', rfl, ⟨d1, d2, d3⟩, d4⟩; have HR3 : Hid (RLg W.heap.size w3 rb u' R') := d1; have HW3 : Hid (w2.grownBy w3 (some rb)) := d2; have HB3 : Hid (Below W.heap.size W w3) := d3; have HA3 : Hid (n = n' ∧ kk = k' ∧ R'.map bare = Ob T) := rem_alike HM2.out HG2.out.at_.str (HS.out.rem HG.out) d4; clear d1 d2 d3 d4)))
        clear HRm HLa HG
      case' false =>
        have HIn : Hid (Calls Tryz.prog 9 #[ptr rb, ov s.q] w2 (RInsAns W w2 rb R s.q)) := rins9 HR2.out HB2.out HNr.out (by have := HRf.out; omega) (HSq.out.below HB2.out)
        have HLq : Hid (w2.rangeAt b (off + k * 11 + 1) (oc s.q)) := range_sp HSw.out
        have HG : Hid (s.g = false) := hg
        rw [hg] at cB
        clear hg
        go_upto_region 15 with (first
          | (refine wpList_okw rfl (exec_load40 (q := s.q) (.tmp 61) rfl rfl HLq.out) ?_)
          | (go_at_call 9; go_must (refine HIn.out.mono ?_; rintro e w3 ⟨n', k', u', R', rfl, ⟨d1, d2, d3⟩, d4⟩; have HR3 : Hid (RLg W.heap.size w3 rb u' R') := d1; have HW3 : Hid (w2.grownBy w3 (some rb)) := d2; have HB3 : Hid (Below W.heap.size W w3) := d3; have HA3 : Hid (n = n' ∧ kk = k' ∧ R'.map bare = Ob T) := ins_alike HM2.out HSr.out HG2.out.at_.str (HS.out.ins HG.out) d4; clear d1 d2 d3 d4)))
        clear HIn HLq HG
      all_goals
        obtain ⟨e1, e2, e3⟩ := HA3.out
        subst e1 e2
        obtain ⟨a3, c3, rfl, hT3⟩ := TwoL.of HG2.out HR2.out HR3.out HW3.out e3 HNr.out
        have HT3 : Hid (TwoL W.heap.size w3 lb v' tb mo' L' T rb a3 c3 R') := hT3
        clear e3 hT3 HA3 HR3 HW3 HG2 HB2 HR2 HM2 HSr HRf HSw cB HS HAt
        obtain ⟨K, hK⟩ : ∃ K, K = T.length := ⟨_, rfl⟩
        have HKl : Hid (K = T.length) := hK
        have hK30 : K ≤ 30 := by rw [hK]; have := HTl.out; omega
        have HRw : Hid (∀ w', Below w3.heap.size w3 w' → RowF oc w' (.slice a3 K c3) R') := fun w' hb => by rw [hK]; exact (HT3.out.below hb).r.own.row
        have HLn : Hid (∀ w', Below w3.heap.size w3 w' → Calls Tryz.prog 10 #[ptr lb] w' fun e w'' => e = .returned (.int .i64 (K : Int)) ∧ Below w'.heap.size w' w'') := fun w' hb => by rw [hK]; exact len24 (HT3.out.below hb).g.at_.blk (HT3.out.below hb).g.at_.row (by omega)
        have HRb : Hid (∀ w', Below w3.heap.size w3 w' → w'.cell? ⟨rb, 0, none⟩ = some (.slice a3 K c3)) := fun w' hb => by rw [hK]; exact (HT3.out.below hb).r.blk.cell 0 _ rfl
        clear hK
        have hnn : (n != n) = false := by simp
        have hkk : (kk != kk) = false := by simp
        have hKK : ((K : Int) != (K : Int)) = false := by simp
        have c3z := fun z : WIn (fun w' => Below w3.heap.size w3 w') => HRb.out z.w z.ok
        have ne : Nonempty (WIn (fun w' => Below w3.heap.size w3 w')) := ⟨⟨w3.drew, below_drewn w3 1⟩⟩
        refine wp_region_ord (C := fun w' => ∃ z : WIn (fun w' => Below w3.heap.size w3 w'), w' = z.w) [(false, 0), (false, 1), (false, 2), (false, 3), (false, 4), (false, 5), (false, 6), (false, 7), (false, 8), (false, 9), (false, 11), (false, 12), (false, 13), (false, 14), (false, 15), (true, 10), (false, 16), (false, 17), (false, 18), (false, 19), (false, 21), (false, 22), (false, 23), (false, 24), (true, 20), (true, 25), (false, 26), (false, 27), (false, 28), (false, 29), (false, 33), (false, 34), (false, 35), (false, 36), (true, 30), (true, 31), (true, 32), (true, 37), (false, 38), (false, 39), (true, 40), (true, 41), (false, 42), (false, 43)] (by kernel_rfl) (by kernel_rfl) ⟨⟨w3.drew, below_drewn w3 1⟩, rfl⟩ ?_
        iterate 15 (refine ord_still rfl rfl ?_; go_big_quiet_step (fail); refine wpQuiet_nil ?_)
        refine ord_mem rfl rfl ?_
        go_simp
        refine (HLn.out _ (below_drewn w3 1)).mono ?_
        rintro r u1 ⟨rfl, hb⟩
        have HU1 : Hid (Below w3.heap.size w3 u1) := bnext (below_drewn w3 1) hb
        clear hb
        refine ⟨⟨⟨u1, HU1.out⟩, rfl⟩, ?_⟩
        go_simp
        iterate 8 (refine ord_still rfl rfl ?_; go_big_quiet_step (fail); refine wpQuiet_nil ?_)
        refine ord_mem rfl rfl ?_
        go_simp
        refine (ops14 (HT3.out.below HU1.out).g.at_).mono ?_
        rintro r u2 ⟨v7, O7, rfl, q1, q2, hb⟩
        have HU2 : Hid (Below w3.heap.size w3 u2) := bnext HU1.out hb
        have HO7 : Hid (RowF oc u2 v7 O7 ∧ (∀ r ∈ O7, Rd u2 r.v r.b) ∧ O7.map bare = R'.map bare) := ⟨q1.row, fun r hr => (q2.own r hr).rd, q2.map.trans HT3.out.m.symm⟩
        clear hb q1 q2
        refine ⟨⟨⟨u2, HU2.out⟩, rfl⟩, ?_⟩
        go_simp
        refine ord_mem rfl rfl ?_
        go_simp
        refine (all20 HO7.out.1 (HRw.out _ HU2.out) HO7.out.2.1 (HT3.out.below HU2.out).r.rd HO7.out.2.2).mono ?_
        rintro r u3 ⟨rfl, hb⟩
        have HU3 : Hid (Below w3.heap.size w3 u3) := bnext HU2.out hb
        clear hb
        refine ⟨⟨⟨u3, HU3.out⟩, rfl⟩, ?_⟩
        go_simp
        iterate 8 (refine ord_still rfl rfl ?_; go_big_quiet_step (fail); refine wpQuiet_nil ?_)
        refine ord_mem rfl rfl ?_
        go_simp
        refine (tree16 (HT3.out.below HU3.out).g.at_.blk).mono ?_
        rintro r u4 ⟨rfl, hb⟩
        have HU4 : Hid (Below w3.heap.size w3 u4) := bnext HU3.out hb
        clear hb
        refine ⟨⟨⟨u4, HU4.out⟩, rfl⟩, ?_⟩
        go_simp
        refine ord_mem rfl rfl ?_
        go_simp
        refine (all17w (HT3.out.below HU4.out).g.at_.tree (by have := HT3.out.g.at_.fewL; omega)).mono ?_
        rintro r u5 ⟨vx, X, rfl, hw, hxm, hb⟩
        have HU5 : Hid (Below w3.heap.size w3 u5) := bnext HU4.out hb
        have HWX : Hid (Was u5 vx X ∧ X.map IT.m = L'.map IT.m) := ⟨hw, hxm⟩
        clear hb hw hxm
        refine ⟨⟨⟨u5, HU5.out⟩, rfl⟩, ?_⟩
        go_simp
        refine ord_mem rfl rfl ?_
        go_simp
        refine (items16w HWX.out.1 (by have h1 := map_len HWX.out.2; rw [List.length_map] at h1; have h2 := HT3.out.g.at_.fewL; omega)).mono ?_
        rintro r u6 ⟨vy, rfl, hw, hb⟩
        have HU6 : Hid (Below w3.heap.size w3 u6) := bnext HU5.out hb
        have HWY : Hid (Was u6 vy X) := hw
        clear hb hw
        refine ⟨⟨⟨u6, HU6.out⟩, rfl⟩, ?_⟩
        go_simp
        refine ord_mem rfl rfl ?_
        go_simp
        refine (build28 (HRw.out _ HU6.out) (by have h1 := map_few HT3.out.m; have h2 := HKl.out; omega) (HT3.out.below HU6.out).r.rd).mono ?_
        rintro r u7 ⟨tq, v9, L9, O9, rfl, hP, hF, hM, hn, hb⟩
        have HU7 : Hid (Below w3.heap.size w3 u7) := bnext HU6.out hb
        have HWY7 : Hid (Was u7 vy X) := HWY.out.below hb
        have HW9 : Hid (Was u7 v9 L9 ∧ X.map IT.m = L9.map IT.m) := ⟨⟨hP.row, hP.rd⟩, by rw [HWX.out.2, HT3.out.okv, hM, firstOf_eq hF HT3.out.r.str]⟩
        have cq : u7.cell? ⟨tq, 0, none⟩ = some v9 := hP.blk.cell 0 _ rfl
        clear hb hP hF hM hn
        refine ⟨⟨⟨u7, HU7.out⟩, rfl⟩, ?_⟩
        go_simp
        iterate 2 (refine ord_still rfl rfl ?_; go_big_quiet_step (fail); refine wpQuiet_nil ?_)
        refine ord_mem rfl rfl ?_
        go_simp
        refine ⟨⟨⟨u7, HU7.out⟩, rfl⟩, ?_⟩
        clear cq
        go_simp
        refine ord_mem rfl rfl ?_
        go_simp
        refine (same15w HWY7.out HW9.out.1 HW9.out.2).mono ?_
        rintro r u8 ⟨rfl, hb⟩
        have HU8 : Hid (Below w3.heap.size w3 u8) := bnext HU7.out hb
        clear hb
        refine ⟨⟨⟨u8, HU8.out⟩, rfl⟩, ?_⟩
        go_simp
        iterate 2 (refine ord_still rfl rfl ?_; go_big_quiet_step (fail); refine wpQuiet_nil ?_)
        refine ord_end ?_
        clear ne
        clear c3z HO7 HWX HWY HWY7 HW9 HU1 HU2 HU3 HU4 HU5 HU6 HU7 hnn hkk hKK HLn
        have HB8 : Hid (Below W.heap.size W u8) := bnext HB3.out HU8.out
        have HRz : Hid (∀ w', Below u8.heap.size u8 w' → RowF oc w' (.slice a3 K c3) R') := fun w' hb => HRw.out _ (bnext HU8.out hb)
        have HRy : Hid (∀ w', Below u8.heap.size u8 w' → w'.cell? ⟨rb, 0, none⟩ = some (.slice a3 K c3)) := fun w' hb => HRb.out _ (bnext HU8.out hb)
        have HT8 : Hid (TwoL W.heap.size u8 lb v' tb mo' L' T rb a3 c3 R') := HT3.out.below HU8.out
        have hcap3 := (HRz.out _ (Below.refl _ _)).caps.2
        have HSa : Hid (∀ w', Below u8.heap.size u8 w' → w'.rangeAt b (off + k * 11 + 2) (sc s.q.a)) := fun w' hb => range_a (range_sp (HSp.out _ (bnext HB8.out hb)))
        have HKr : Hid (K = R'.length) := (show _ = _ from by rw [HKl.out, map_few HT3.out.m])
        clear HT3 HB3 HU8 HRw HRb
        go_wp2
        go_loopw [10, 11] (fun vh vi wi => ∃ (j : Nat), vi = .int .i64 (j : Int) ∧ vh = .bool (hasO s.q.a (R'.take j)) ∧ j ≤ K ∧ Hid (Below u8.heap.size u8 wi)) (fun _ vi _ => K - (intOf vi).toNat)
        case atStart => exact ⟨0, rfl, rfl, Nat.zero_le _, Below.refl _ _⟩
        case round =>
          obtain ⟨j, rfl, rfl, hj, HBi⟩ := hrel
          rename World => wi
          have cR := HRy.out _ HBi.out
          by_cases hjt : j < K
          · have hjI : (j : Int) < (K : Int) := by omega
            obtain ⟨x, hx⟩ : ∃ x, R'[j]? = some x := ⟨_, List.getElem?_eq_getElem (by have := HKr.out; omega)⟩
            obtain ⟨bx, ox, rfl, _⟩ := RowF.at oc_len (HRz.out _ HBi.out) hx
            have HX : Hid (R'[j]? = some x) := hx
            clear hx
            have HMo : Hid (hasO s.q.a (R'.take (j + 1)) = (hasO s.q.a (R'.take j) || decide (x.a = s.q.a))) := hasO_more HX.out
            go_upto_region 21 with fail
            clear cR
            have HXa : Hid (∀ z : WIn (fun w' => Below wi.heap.size wi w'), z.w.rangeAt bx (ox + j * 10 + 1) (sc x.a)) := fun z => by
              obtain ⟨b', o', e, h⟩ := RowF.at oc_len (HRz.out _ (bnext HBi.out z.ok)) HX.out
              cases e
              exact range_a h
            have HSz : Hid (∀ z : WIn (fun w' => Below wi.heap.size wi w'), z.w.rangeAt b (off + k * 11 + 2) (sc s.q.a)) := fun z => HSa.out _ (bnext HBi.out z.ok)
            have cRz : ∀ z : WIn (fun w' => Below wi.heap.size wi w'), z.w.cell? ⟨rb, 0, none⟩ = some (.slice (some ⟨bx, ox, none⟩) K c3) := fun z => HRy.out _ (bnext HBi.out z.ok)
            have HBd : Hid (Below u8.heap.size u8 wi.drew) := bnext HBi.out (below_drewn wi 1)
            cases hh : hasO s.q.a (R'.take j)
            · rw [hh, Bool.false_or] at HMo
              cases hd : decide (x.a = s.q.a)
              · have HE : Hid (decide (x.a = s.q.a) = false) := hd
                rw [hd] at HMo
                clear hh hd
                have ne : Nonempty (WIn (fun w' => Below wi.heap.size wi w')) := ⟨⟨wi.drew, below_drewn wi 1⟩⟩
                refine wp_region_ord (C := fun w' => ∃ z : WIn (fun w' => Below wi.heap.size wi w'), w' = z.w) [(false, 0), (false, 1), (false, 2), (false, 3), (false, 4), (false, 5), (false, 6), (false, 7), (false, 8), (false, 9), (false, 10), (false, 11), (false, 12), (false, 13), (false, 14), (false, 15), (false, 16), (false, 17), (false, 18)] (by kernel_rfl) (by kernel_rfl) ⟨⟨wi.drew, below_drewn wi 1⟩, rfl⟩ ?_
                iterate 9 (refine ord_still rfl rfl ?_; go_big_quiet_step (fail); refine wpQuiet_nil ?_)
                refine ord_still rfl rfl ?_
                refine quiet_ok1 rfl (fun w' hw' => by obtain ⟨z, rfl⟩ := hw'; exact exec_load24n (n := x.a) (.tmp 127) rfl rfl (HXa.out z)) ?_
                go_simp
                iterate 5 (refine ord_still rfl rfl ?_; go_big_quiet_step (fail); refine wpQuiet_nil ?_)
                refine ord_still rfl rfl ?_
                refine quiet_ok1 rfl (fun w' hw' => by obtain ⟨z, rfl⟩ := hw'; exact exec_load24n (n := s.q.a) (.tmp 133) rfl rfl (HSz.out z)) ?_
                go_simp
                refine ord_still rfl rfl ?_
                refine quiet_ok1 rfl (fun w' hw' => exec_eql24 (a := x.a) (b := s.q.a) (.tmp 128) (.tmp 134) rfl rfl rfl) ?_
                rw [HE.out]
                go_simp
                iterate 2 (refine ord_still rfl rfl ?_; go_big_quiet_step (fail); refine wpQuiet_nil ?_)
                refine ord_end ?_
                clear ne
                clear cRz
                go_wp2
                go_roundw
                case rel => exact ⟨j + 1, by go_num, by rw [HMo.out], by omega, HBd⟩
                case measure => simp [intOf]; omega
              · have HE : Hid (decide (x.a = s.q.a) = true) := hd
                rw [hd] at HMo
                clear hh hd
                have ne : Nonempty (WIn (fun w' => Below wi.heap.size wi w')) := ⟨⟨wi.drew, below_drewn wi 1⟩⟩
                refine wp_region_ord (C := fun w' => ∃ z : WIn (fun w' => Below wi.heap.size wi w'), w' = z.w) [(false, 0), (false, 1), (false, 2), (false, 3), (false, 4), (false, 5), (false, 6), (false, 7), (false, 8), (false, 9), (false, 10), (false, 11), (false, 12), (false, 13), (false, 14), (false, 15), (false, 16), (false, 17), (false, 18)] (by kernel_rfl) (by kernel_rfl) ⟨⟨wi.drew, below_drewn wi 1⟩, rfl⟩ ?_
                iterate 9 (refine ord_still rfl rfl ?_; go_big_quiet_step (fail); refine wpQuiet_nil ?_)
                refine ord_still rfl rfl ?_
                refine quiet_ok1 rfl (fun w' hw' => by obtain ⟨z, rfl⟩ := hw'; exact exec_load24n (n := x.a) (.tmp 127) rfl rfl (HXa.out z)) ?_
                go_simp
                iterate 5 (refine ord_still rfl rfl ?_; go_big_quiet_step (fail); refine wpQuiet_nil ?_)
                refine ord_still rfl rfl ?_
                refine quiet_ok1 rfl (fun w' hw' => by obtain ⟨z, rfl⟩ := hw'; exact exec_load24n (n := s.q.a) (.tmp 133) rfl rfl (HSz.out z)) ?_
                go_simp
                refine ord_still rfl rfl ?_
                refine quiet_ok1 rfl (fun w' hw' => exec_eql24 (a := x.a) (b := s.q.a) (.tmp 128) (.tmp 134) rfl rfl rfl) ?_
                rw [HE.out]
                go_simp
                iterate 2 (refine ord_still rfl rfl ?_; go_big_quiet_step (fail); refine wpQuiet_nil ?_)
                refine ord_end ?_
                clear ne
                clear cRz
                go_wp2
                go_roundw
                case rel => exact ⟨j + 1, by go_num, by rw [HMo.out], by omega, HBd⟩
                case measure => simp [intOf]; omega
            · rw [hh, Bool.true_or] at HMo
              clear hh
              have ne : Nonempty (WIn (fun w' => Below wi.heap.size wi w')) := ⟨⟨wi.drew, below_drewn wi 1⟩⟩
              refine wp_region_ord (C := fun w' => ∃ z : WIn (fun w' => Below wi.heap.size wi w'), w' = z.w) [(false, 0), (false, 1), (false, 2), (false, 3), (false, 4), (false, 5), (false, 6), (false, 7), (false, 8), (false, 9), (false, 10), (false, 11), (false, 12), (false, 13), (false, 14), (false, 15), (false, 16), (false, 17), (false, 18)] (by kernel_rfl) (by kernel_rfl) ⟨⟨wi.drew, below_drewn wi 1⟩, rfl⟩ ?_
              iterate 19 (first | (refine ord_still rfl rfl ?_; go_big_quiet_step (fail); refine wpQuiet_nil ?_) | (refine ord_shut rfl rfl ?_; go_big_quiet_step (fail); refine wpQuiet_nil ?_))
              refine ord_end ?_
              clear ne
              clear cRz
              go_wp2
              go_roundw
              case rel => exact ⟨j + 1, by go_num, by rw [HMo.out], by omega, HBd⟩
              case measure => simp [intOf]; omega
          have hjI : ¬ (j : Int) < (K : Int) := by omega
          have HTk : Hid (R'.take j = R') := List.take_of_length_le (by have := HKr.out; omega)
          rw [HTk.out]
          have HT9 : Hid (TwoL W.heap.size wi lb v' tb mo' L' T rb a3 c3 R') := HT8.out.below HBi.out
          have HHs : Hid (Calls Tryz.prog 18 #[ptr lb, sv s.q.a] wi fun e w' => e = .returned (.bool (hasO s.q.a R')) ∧ Below wi.heap.size wi w') := by
            have := has11b HT9.out.g.at_ s.q.a
            rwa [has_map HT9.out.m] at this
          have HSb : Hid (wi.rangeAt b (off + k * 11 + 2) (sc s.q.a)) := HSa.out _ HBi.out
          have HBj : Hid (Below W.heap.size W wi) := bnext HB8.out HBi.out
          generalize hasO s.q.a R' = hs at *
          have hss : (hs != hs) = false := by simp
          clear hj hjt HTk HT8
          go_upto_region 9 with (first
            | (refine wpList_okw rfl (exec_load24n (n := s.q.a) (.tmp 142) rfl rfl HSb.out) ?_)
            | (go_at_call 18; go_must (refine HHs.out.mono ?_; rintro e wz ⟨rfl, hb⟩; have HBz : Hid (Below wi.heap.size wi wz) := hb; clear hb)))
          go_wp2
          go_roundw
          case rel => exact ⟨k + 1, v', mo', L', T, a3, c3, R', by go_num, by omega, HTl.out, HT9.out.below HBz.out, bnext HBj.out HBz.out⟩
          case measure => simp [intOf]; omega
    · have hkI : ¬ (k : Int) < (N : Int) := by omega
      go_wp2
      go_ret
      exact ⟨rfl, HB.out⟩
end Go.Proofs.YthnjbjlhfohpfaaGreat
