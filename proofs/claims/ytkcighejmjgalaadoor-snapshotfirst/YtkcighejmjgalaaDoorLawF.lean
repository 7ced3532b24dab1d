/-
  SnapshotFirst: what its calls come to, and the walk.
-/
import Derived.Test.YtkcighejmjgalaaDoorAlv
namespace Go.Proofs.YtkcighejmjgalaaDoor
set_option linter.unusedVariables false
set_option linter.unusedSimpArgs false
set_option synthInstance.maxSize 20000
set_option maxHeartbeats 2000000
set_option maxRecDepth 20000
open Go.RowKit Go.Maps

theorem arm_new {n : Nat} {x : Int} : ((newD n).arm x).2.now = (newD n).now ∧ ((newD n).arm x).2.down = false := by
  unfold Dk.arm
  rw [if_neg (by simp [newD])]
  split
  · exact ⟨rfl, rfl⟩
  · exact ⟨rfl, rfl⟩
theorem latD_now {D E : Dk} (h : D.now = E.now) : latD D = latD E := by
  unfold latD headD
  rw [h]
theorem first_chain {w : World} {n : Nat} {x : Int} {kv bv : Value} {ks : List Bool} {b : List Int} (hT : Tab w) (h6 : 6 ≤ n) (h60 : n ≤ 60) (hx : 0 ≤ x) (hx2 : x ≤ 9223372036854775807) (hk : RowF bc w kv ks) (hb : Rd w bv b) (hl : b.length ≤ 40) :
    Calls Tryd.prog 7 #[.int .i64 (n : Int)] w fun r w1 => ∃ db, r = .returned (.tuple #[ptr db, .int .i64 0]) ∧
    Calls Tryd.prog 19 #[ptr db, .int .i64 x] w1 fun r w2 => ∃ c, r = .returned (.int .i64 c) ∧
    Calls Tryd.prog 8 #[ptr db] w2 fun r w3 => ∃ pa kd, r = .returned (.tuple #[.pointer pa, .slice none 0 0, .slice none 0 0, .int .i64 kd]) ∧ ((x < 2 ∧ kd = 19) ∨ (2 ≤ x ∧ kd = 0)) ∧
    Calls Tryd.prog 20 #[ptr db, kv] w3 fun r w4 => ∃ c, r = .returned (.int .i64 c) ∧
    Calls Tryd.prog 8 #[ptr db] w4 fun r w5 => ∃ sb a0 c0 a1 c1, r = .returned (.tuple #[ptr sb, .slice a0 0 c0, .slice a1 0 c1, .int .i64 0]) ∧
    Calls Tryd.prog 11 #[ptr sb, bv] w5 fun r w6 => r = .returned (.int .i64 0) ∧
    Calls Tryd.prog 8 #[ptr db] w6 fun r w7 => ∃ sb2 a0 n0 c0 v1, r = .returned (.tuple #[ptr sb2, .slice a0 n0 c0, v1, .int .i64 0]) ∧ (∃ q, RL w7 v1 [(q, b)]) ∧ Below w.heap.size w w7 := by
  refine (g0_new w (n := n) (by omega) (by omega)).mono ?_
  rintro r w1 ⟨db, rfl, o1, g1⟩
  refine ⟨db, rfl, ?_⟩
  obtain ⟨gg, nn, pp, hd1⟩ := g1.d
  refine (arm_any hd1 x).mono ?_
  rintro r w2 ⟨rfl, o2, d2, m2⟩
  refine ⟨_, rfl, ?_⟩
  have ok2 := g1.ok.arm (n := x) hx2
  have mv2 : Mv II w zo w2 o2 := g1.mv.trans (m2.widen (by simp))
  obtain ⟨t2, oz2⟩ := hT.mv (o := zo) rfl mv2 (by simp)
  obtain ⟨hnow, hdn⟩ := arm_new (n := n) (x := x)
  have hlen0 : (newD n).now.length = n := by simp [newD]
  have hps0 := ps_new h6 h60
  refine (open8_new (j := 5) (jj := 7) (js := 4) d2 ok2 (by omega) t2 oz2 (by rw [hnow, hlen0]; exact h6) hdn (by rw [latD_now hnow]; exact hps0.lat) (by omega) (by omega) (by omega) (by omega) (by omega)).mono ?_
  rintro r w3 ⟨o3, d3, m3, hcs⟩
  have mv3 : Mv II w zo w3 o3 := mv2.trans (m3.widen (by simp))
  have ok3 := cpt_dok (num := 0) (f := false) (l := []) ok2
  have fc := first_cases h6 h60 hx ks
  generalize cpt ((newD n).arm x).2 0 false [] = CP at *
  obtain ⟨pa, er⟩ : ∃ pa, r = .returned (.tuple #[.pointer pa, .slice none 0 0, .slice none 0 0, .int .i64 CP.1]) := by
    rcases hcs with ⟨e, sb, jb, rfl, _⟩ | ⟨_, rfl⟩
    · rw [e]; exact ⟨_, rfl⟩
    · exact ⟨_, rfl⟩
  refine ⟨pa, CP.1, er, ?_, ?_⟩
  · rcases fc with ⟨e1, e2, _⟩ | ⟨e1, e2, _⟩
    · exact .inl ⟨e1, e2⟩
    · exact .inr ⟨e1, e2⟩
  clear hcs er
  obtain ⟨g3, n3, p3, hd3⟩ := d3
  refine (restart_any hd3 ok3 (by show 0 + 1 + 1 ≤ 2000; omega) (kv := kv) (ks := ks) (fun w' o' m' => hk.below (mvz_below (mv3.trans (m'.widen (by simp))) (by simp)))).mono ?_
  rintro r w4 ⟨rfl, o4, d4, m4⟩
  refine ⟨_, rfl, ?_⟩
  have mv4 : Mv II w zo w4 o4 := mv3.trans (m4.widen (by simp))
  have ok4 := ok3.restart ks
  have key : Calls Tryd.prog 8 #[ptr db] w4 fun r w5 => ∃ sb a0 c0 a1 c1, r = .returned (.tuple #[ptr sb, .slice a0 0 c0, .slice a1 0 c1, .int .i64 0]) ∧ ∃ o5 jb D J, GS w w5 o5 db sb jb D 1 J [] [] 100 ∧ 1 ≤ J.fin - J.next := by
    rcases fc with ⟨_, _, ps⟩ | ⟨_, _, J, si, hr, hfn, hln⟩
    · have g4 : G0 w w4 o4 db (CP.2.2.restart ks) (0 + partsN ([] : List Int).length + 1) := ⟨d4, ok4, mv4⟩
      refine (g4.openNew hT (by show 0 + 1 + 1 + 86 ≤ 2000; omega) ps rfl rfl).mono ?_
      rintro r w5 ⟨sb, rfl, o5, jb, D', J', g5, hl5, hr5⟩
      have h2 := hsize_pos ps.n6
      exact ⟨sb, none, 0, none, 0, rfl, o5, jb, D', J', ⟨g5.d, g5.s, g5.j, g5.si, g5.dn, g5.ar, g5.ok.mono (by show 0 + 1 + 1 + 2 ≤ 100; omega), g5.mv⟩, by omega⟩
    · obtain ⟨t4, oz4⟩ := hT.mv (o := zo) rfl mv4 (by simp)
      have hlat := si.lat
      refine (open8_old (j := 5) (jj := 7) (js := 4) d4 ok4 t4 si.n6 rfl (by omega) (by omega) (by omega)).mono ?_
      rintro r w5 ho
      obtain ⟨v0, v1, sb, rfl, o5, jb, s5, j5, k0, k1, m5⟩ := old_tells si ho
      obtain ⟨a0, c0, e0⟩ := k0.1.len
      obtain ⟨a1, c1, e1, _⟩ := k1.slice
      have h2 := hsize_pos si.n6
      have hfn' := hfn
      have hjf := si.jf
      have hsc := si.scan
      have hjn := si.jn
      refine ⟨sb, a0, c0, a1, c1, by rw [e0, e1]; rfl, o5, jb, _, _, ⟨d4.mv m5 (by simp), s5, j5, si.reopen (by omega), rfl, rfl, ok4.mono (by show 0 + 1 + 1 ≤ 100; omega), mv4.trans (m5.widen (by simp))⟩, ?_⟩
      show 1 ≤ hbase (CP.2.2.restart ks).now.length 1 + hsize (CP.2.2.restart ks).now.length - (hbase (CP.2.2.restart ks).now.length 1 + (scan (bgC (CP.2.2.restart ks) 1) 1).2)
      rw [hsc]
      simp only
      have h2' := hsize_pos h6
      omega
  refine key.mono ?_
  rintro r w5 ⟨sb, a0, c0, a1, c1, rfl, o5, jb, D, J, g5, hrm⟩
  refine ⟨sb, a0, c0, a1, c1, rfl, ?_⟩
  refine (g5.append (by omega) (hb.below g5.bel) (by omega)).mono ?_
  rintro r w6 ⟨kd, rfl, hcs⟩
  have hp1 : partsN b.length = 1 := by unfold partsN; split <;> omega
  rcases hcs with ⟨rfl, _, o6, D6, g6, _, _⟩ | ⟨_, hr, _⟩
  · refine ⟨rfl, ?_⟩
    refine (g6.open hT).mono ?_
    rintro r w7 ⟨v0, v1, sb2, rfl, h0, ⟨qs, h1, h2⟩, hbl⟩
    obtain ⟨q, rfl⟩ := one_of h2
    obtain ⟨a7, c7, e7⟩ := h0.len
    exact ⟨sb2, a7, _, c7, v1, by rw [e7], ⟨q, h1⟩, hbl⟩
  · omega
theorem first_walk (n x : Int) (kv : Value) (ks : List Bool) (bv : Value) (b : List Int) (w : World) (hT : Tab w) (hn : I64 n) (hx : I64 x) (hk : RowF bc w kv ks) (hb : Rd w bv b) : Calls Tryd.prog 4 #[.int .i64 n, .int .i64 x, kv, bv] w fun r w' => r = .returned (.bool true) ∧ Below w.heap.size w w' := by
  obtain ⟨ka, kc, rfl⟩ := hk.len
  obtain ⟨ba, bcp, rfl⟩ := hb.len
  have hkc := hk.caps
  have hk1 : ks.length ≤ kc := hkc.2.1
  have hk2 : kc ≤ 9223372036854775807 := hkc.2.2
  have hbc := hb.cap
  have hb1 : b.length ≤ bcp := hbc.2.1
  have hb2 : bcp ≤ 9223372036854775807 := hbc.2.2
  have HAl : Hid (∀ w', Below w.heap.size w w' → Calls Tryd.prog 6 #[] w' fun r w'' => r = .returned (.bool true) ∧ Below w.heap.size w w'') := fun w' hb' => (alive6 (hT.below hb' hT.lt)).mono fun r w'' h => ⟨h.1, bnext hb' h.2⟩
  have HA0 := HAl.out w (Below.refl _ _)
  have hn1 := hn.1
  have hn2 := hn.2
  have hx1 := hx.1
  have hx2 := hx.2
  clear hkc hbc hn hx
  by_cases h1 : n < 6
  · clear hk hb HAl
    go_enter Tryd.func4, Tryd.ntmps4
    go_wp2_with fail
    refine HA0.mono ?_
    rintro r w1 ⟨rfl, hb9⟩
    have HB : Hid (Below w.heap.size w w1) := hb9
    clear hb9 HA0
    go_wp2
    go_ret
    exact ⟨rfl, HB.out⟩
  · by_cases h2 : 60 < n
    · clear hk hb HAl
      go_enter Tryd.func4, Tryd.ntmps4
      go_wp2_with fail
      refine HA0.mono ?_
      rintro r w1 ⟨rfl, hb9⟩
      have HB : Hid (Below w.heap.size w w1) := hb9
      clear hb9 HA0
      go_wp2
      go_ret
      exact ⟨rfl, HB.out⟩
    · by_cases h3 : x < 0
      · clear hk hb HAl
        go_enter Tryd.func4, Tryd.ntmps4
        go_wp2_with fail
        refine HA0.mono ?_
        rintro r w1 ⟨rfl, hb9⟩
        have HB : Hid (Below w.heap.size w w1) := hb9
        clear hb9 HA0
        go_wp2
        go_ret
        exact ⟨rfl, HB.out⟩
      · by_cases h4 : 60 < ks.length
        · generalize ks.length = kl at *
          clear hk hb HAl
          go_enter Tryd.func4, Tryd.ntmps4
          go_wp2_with fail
          refine HA0.mono ?_
          rintro r w1 ⟨rfl, hb9⟩
          have HB : Hid (Below w.heap.size w w1) := hb9
          clear hb9 HA0
          go_wp2
          go_ret
          exact ⟨rfl, HB.out⟩
        · by_cases h5 : 40 < b.length
          · generalize ks.length = kl at *
            generalize b.length = bl at *
            clear hk hb HAl
            go_enter Tryd.func4, Tryd.ntmps4
            go_wp2_with fail
            refine HA0.mono ?_
            rintro r w1 ⟨rfl, hb9⟩
            have HB : Hid (Below w.heap.size w w1) := hb9
            clear hb9 HA0
            go_wp2
            go_ret
            exact ⟨rfl, HB.out⟩
          · obtain ⟨m, rfl⟩ : ∃ m : Nat, n = (m : Int) := ⟨n.toNat, by omega⟩
            have HC := first_chain (n := m) (x := x) hT (by omega) (by omega) (by omega) hx2 hk hb (by omega)
            have HRb : Hid (Rd w (.slice ba b.length bcp) b) := hb
            have HN8 : Hid (∀ w', Calls Tryd.prog 8 #[.pointer none] w' fun r w'' => r = .returned (.tuple #[.pointer none, .slice none 0 0, .slice none 0 0, .int .i64 23]) ∧ w'' = w') := open8_nil
            have HN11 : Hid (∀ w' v, Calls Tryd.prog 11 #[.pointer none, v] w' fun r w'' => r = .returned (.int .i64 23) ∧ w'' = w') := sappend11_nil
            have HN10 : Hid (∀ w' v, Calls Tryd.prog 10 #[.pointer none, v] w' fun r w'' => r = .returned (.int .i64 23) ∧ w'' = w') := compact10_nil
            have HN15 : Hid (∀ w', Calls Tryd.prog 15 #[.pointer none] w' fun r w'' => r = .returned (.int .i64 0) ∧ w'' = w') := scount15_nil
            have HN16 : Hid (∀ w', Calls Tryd.prog 16 #[.pointer none] w' fun r w'' => r = .returned (.int .i64 0) ∧ w'' = w') := sroom16_nil
            have HN17 : Hid (∀ w', Calls Tryd.prog 17 #[.pointer none] w' fun r w'' => r = .returned (.int .u32 0) ∧ w'' = w') := number17_nil
            generalize ks.length = kl at *
            clear hk hb HA0
            go_enter Tryd.func4, Tryd.ntmps4
            go_wp2_with fail
            refine HC.mono ?_
            rintro r w1 ⟨db, rfl, HC1⟩
            clear HC
            go_wp2_with fail
            refine HC1.mono ?_
            rintro r w2 ⟨c2, rfl, HC2⟩
            clear HC1
            go_wp2_with fail
            refine HC2.mono ?_
            rintro r w3 ⟨pa, kd, rfl, hkd, HC3⟩
            clear HC2
            rcases hkd with ⟨hx3, rfl⟩ | ⟨hx3, rfl⟩
            all_goals
              go_wp2_with fail
              refine HC3.mono ?_
              rintro r w4 ⟨c4, rfl, HC4⟩
              clear HC3
              go_wp2_with fail
              refine HC4.mono ?_
              rintro r w5 ⟨sb, a0, c0, a1, c1, rfl, HC5⟩
              clear HC4
              go_wp2_with fail
              refine HC5.mono ?_
              rintro r w6 ⟨rfl, HC6⟩
              clear HC5
              go_wp2_with fail
              refine HC6.mono ?_
              rintro r w7 ⟨sb2, a7, n7, c7, v1, rfl, ⟨q, hq⟩, hb7⟩
              clear HC6
              obtain ⟨a8, c8, hv1⟩ := hq.len
              rw [show [(q, b)].length = 1 from rfl] at hv1
              subst hv1
              have hc8 := hq.row.caps
              have hc81 : 1 ≤ c8 := hc8.2.1
              have hc82 : c8 ≤ 9223372036854775807 := hc8.2.2
              obtain ⟨lb, lo, ha8, hcl⟩ := hq.at (i := 0) rfl
              subst ha8
              rw [Nat.add_zero] at hcl
              simp only at hcl
              have hqr : Rd w7 q b := hq.rd _ (List.mem_singleton.2 rfl)
              obtain ⟨qa, qc, hqv⟩ := hqr.len
              subst hqv
              have HSm : Hid (Calls Tryd.prog 21 #[.slice qa b.length qc, .slice ba b.length bcp] w7 fun r w' => r = .returned (.bool true) ∧ Below w.heap.size w w') := by
                have := same_any _ _ b b w7 hqr (HRb.out.below hb7)
                rw [decide_eq_true rfl] at this
                exact this.mono fun r w' h => ⟨h.1, bnext hb7 h.2⟩
              have HB7 : Hid (Below w.heap.size w w7) := hb7
              clear hq hc8 hqr hb7
              go_wp2_with fail
              refine (HN8.out w7).mono ?_
              rintro r w8 ⟨rfl, hw8⟩
              replace hw8 := hw8.symm
              subst hw8
              go_wp2_with fail
              refine HSm.out.mono ?_
              rintro r w8 ⟨rfl, hb8⟩
              have HB8 : Hid (Below w.heap.size w w8) := hb8
              clear hb8 hcl
              go_wp2_with (first
                | (go_at_call 11; go_must (refine (HN11.out _ _).mono ?_; rintro r wy ⟨rfl, hwy⟩; replace hwy := hwy.symm; subst hwy))
                | (go_at_call 10; go_must (refine (HN10.out _ _).mono ?_; rintro r wy ⟨rfl, hwy⟩; replace hwy := hwy.symm; subst hwy))
                | (go_at_call 15; go_must (refine (HN15.out _).mono ?_; rintro r wy ⟨rfl, hwy⟩; replace hwy := hwy.symm; subst hwy))
                | (go_at_call 16; go_must (refine (HN16.out _).mono ?_; rintro r wy ⟨rfl, hwy⟩; replace hwy := hwy.symm; subst hwy))
                | (go_at_call 17; go_must (refine (HN17.out _).mono ?_; rintro r wy ⟨rfl, hwy⟩; replace hwy := hwy.symm; subst hwy))
                | (go_at_call 6; go_must (refine (HAl.out _ HB8.out).mono ?_; rintro r w9 ⟨rfl, hb9⟩; have HB9 : Hid (Below w.heap.size w w9) := hb9; clear hb9)))
              go_ret
              exact ⟨rfl, HB9.out⟩
end Go.Proofs.YtkcighejmjgalaaDoor
