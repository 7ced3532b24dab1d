/-
  SnapshotPlays: the walk.
-/
import Derived.Test.YtkcighejmjgalaaDoorPly
namespace Go.Proofs.YtkcighejmjgalaaDoor
set_option linter.unusedVariables false
set_option linter.unusedSimpArgs false
set_option synthInstance.maxSize 20000
set_option maxHeartbeats 2000000
set_option maxRecDepth 20000
open Go.RowKit Go.Maps

theorem GS.up {w wr : World} {o : Nat → Nat} {db sb jb : Nat} {D : Dk} {num : Int} {J : Jk} {snap : List Int} {all : List (List Int)} {N M : Nat} (h : GS w wr o db sb jb D num J snap all N) (hM : N ≤ M) : GS w wr o db sb jb D num J snap all M := ⟨h.d, h.s, h.j, h.si, h.dn, h.ar, h.ok.mono hM, h.mv⟩
theorem parts600 {n : Nat} (h : n ≤ 600) : partsN n ≤ 13 := by unfold partsN; split <;> omega
/-- What the law keeps behind k acts. -/
def PK (w : World) (db sb n0 : Nat) (k : Nat) (wr : World) (sv av : Value) (num rm : Int) : Prop := ∃ (o : Nat → Nat) (jb : Nat) (D : Dk) (J : Jk) (snap : List Int) (ws : List VB), PG w wr o db sb jb D num J sv snap av ws (16 * k + 16) ∧ D.now.length = n0 ∧ rm = ((J.fin - J.next : Nat) : Int) ∧ ws.length ≤ k ∧ num ≤ (k : Int) + 1
theorem PK.slices {w : World} {db sb n0 k : Nat} {wr : World} {sv av : Value} {num rm : Int} (h : PK w db sb n0 k wr sv av num rm) : (∃ a n c, sv = .slice a n c) ∧ (∃ a n c, av = .slice a n c ∧ n ≤ c ∧ c ≤ 9223372036854775807) ∧ 1 ≤ num ∧ num ≤ (k : Int) + 1 ∧ 0 ≤ rm ∧ rm ≤ 400 := by
  obtain ⟨o, jb, D, J, snap, ws, p, hl, hr, hw, hn⟩ := h
  obtain ⟨a, c, e⟩ := p.sn.len
  obtain ⟨a2, c2, e2, h1, h2⟩ := slice_of_own p.wt.own
  have hk := p.g.si.jok
  have := hk.ff
  exact ⟨⟨a, _, c, e⟩, ⟨a2, _, c2, e2, h1, h2⟩, p.g.si.n1, hn, by omega, by omega⟩
/-- An act. -/
theorem PK.compact {w : World} {db sb n0 k : Nat} {wr : World} {sv av : Value} {num rm : Int} (h : PK w db sb n0 k wr sv av num rm) (hT : Tab w) (hk : k ≤ 30) {bv : Value} {b : List Int} (hb : Rd w bv b) (hbl : b.length ≤ 600) :
    Calls Tryd.prog 10 #[ptr sb, bv] wr fun r w' => ∃ kd, r = .returned (.int .i64 kd) ∧ Below w.heap.size w w' ∧ ((kd = 0 ∧ partsN b.length ≤ hsize n0 ∧ PK w db sb n0 (k + 1) w' bv (.slice none 0 0) (num + 1) ((hsize n0 : Int) - (partsN b.length : Int))) ∨ (kd = 18 ∧ hsize n0 < partsN b.length ∧ PK w db sb n0 (k + 1) w' sv av num rm)) := by
  obtain ⟨o, jb, D, J, snap, ws, p, rfl, rfl, hw, hn⟩ := h
  have hp := parts600 hbl
  refine (p.g.compact hT (by omega) (by omega) (hb.below p.g.bel) (by omega)).mono ?_
  rintro r w' ⟨kd, rfl, hcs⟩
  refine ⟨kd, rfl, ?_⟩
  rcases hcs with ⟨rfl, h1, o', D', jb', J', g', hl', hr', m'⟩ | ⟨rfl, h1, o', g', m'⟩
  · refine ⟨g'.bel, .inl ⟨rfl, h1, o', jb', D', J', b, [], ⟨g'.up (by omega), hb, want_nil _ _⟩, hl', by rw [hr']; omega, by simp, by omega⟩⟩
  · refine ⟨g'.bel, .inr ⟨rfl, h1, o', jb, D, J, snap, ws, p.step m' (by simp) (by simp) (g'.up (by omega)) p.sn, rfl, rfl, by omega, by omega⟩⟩
/-- What an Append leaves: the list has to be told yet. -/
def PA (w : World) (db sb n0 : Nat) (k : Nat) (wr : World) (sv av : Value) (num rm : Int) (b : List Int) : Prop := ∃ (o : Nat → Nat) (jb : Nat) (D : Dk) (J : Jk) (snap : List Int) (ws : List VB), WantAt wr o av ws ∧ Rd w sv snap ∧ GS w wr o db sb jb D num J snap (LL ws ++ [b]) (16 * k + 16) ∧ D.now.length = n0 ∧ rm = ((J.fin - J.next : Nat) : Int) ∧ ws.length + 1 ≤ k ∧ num ≤ (k : Int) + 1
theorem PK.append {w : World} {db sb n0 k : Nat} {wr : World} {sv av : Value} {num rm : Int} (h : PK w db sb n0 k wr sv av num rm) (hT : Tab w) (hk : k ≤ 30) {bv : Value} {b : List Int} (hb : Rd w bv b) (hbl : b.length ≤ 600) :
    Calls Tryd.prog 11 #[ptr sb, bv] wr fun r w' => ∃ kd, r = .returned (.int .i64 kd) ∧ Below w.heap.size w w' ∧ ((kd = 0 ∧ (partsN b.length : Int) ≤ rm ∧ PA w db sb n0 (k + 1) w' sv av num (rm - (partsN b.length : Int)) b) ∨ (kd = 18 ∧ rm < (partsN b.length : Int) ∧ PK w db sb n0 (k + 1) w' sv av num rm)) := by
  obtain ⟨o, jb, D, J, snap, ws, p, rfl, rfl, hw, hn⟩ := h
  have hp := parts600 hbl
  refine (p.g.append (by omega) (hb.below p.g.bel) (by omega)).mono ?_
  rintro r w' ⟨kd, rfl, hcs⟩
  refine ⟨kd, rfl, ?_⟩
  rcases hcs with ⟨rfl, h1, o', D', g', hl', m'⟩ | ⟨rfl, h1, o', g', m'⟩
  · refine ⟨g'.bel, .inl ⟨rfl, by omega, o', jb, D', _, snap, ws, p.wt.mv m' (by simp) (by simp), p.sn, g'.up (by omega), hl', ?_, by omega, by omega⟩⟩
    show ((J.fin - J.next : Nat) : Int) - _ = ((J.fin - (J.next + partsN b.length) : Nat) : Int)
    omega
  · refine ⟨g'.bel, .inr ⟨rfl, by omega, o', jb, D, J, snap, ws, p.step m' (by simp) (by simp) (g'.up (by omega)) p.sn, rfl, rfl, by omega, by omega⟩⟩
theorem PA.row {w : World} {db sb n0 k : Nat} {wr : World} {sv av : Value} {num rm : Int} {b : List Int} (h : PA w db sb n0 k wr sv av num rm b) (ev : Value) : ∃ ws : List VB, (wr.alloc (.cells #[ev] 30)).ownsRow 0 30 1 av ws.length (flat lc ws) ∧ ws.length ≤ 1000 + k ∧
    ∀ w3 v', Rd w ev b → w3.ownsRow 0 30 1 v' (ws ++ [(ev, b)]).length (flat lc (ws ++ [(ev, b)])) → (wr.alloc (.cells #[ev] 30)).grownBy w3 av.ownBlock → (∀ j, v'.ownBlock = some j → av.ownBlock = some j ∨ (wr.alloc (.cells #[ev] 30)).heap.size ≤ j) → PK w db sb n0 k w3 sv v' num rm := by
  obtain ⟨o, jb, D, J, snap, ws, wt, sn, g, hl, hr, hw, hn⟩ := h
  refine ⟨ws, wt.own.alloc _, by omega, fun w3 v' he k1 k2 k3 => ?_⟩
  obtain ⟨o3, p3⟩ := PG.more wt sn g he k1 k2 k3
  exact ⟨o3, jb, D, J, snap, _, p3, hl, hr, by simp; omega, hn⟩
theorem PK.look {w : World} {db sb n0 k : Nat} {wr : World} {sv : Value} {num rm : Int} {aa : Option Addr} {al ac : Nat} (h : PK w db sb n0 k wr sv (.slice aa al ac) num rm) (hT : Tab w) (hk : k ≤ 40) :
    Calls Tryd.prog 13 #[ptr db] wr fun r w1 => ∃ a n c, r = .returned (.slice a n c) ∧
    Calls Tryd.prog 12 #[.slice a n c] w1 fun r w2 => ∃ a0 n0' c0 a1 n1 c1, r = .returned (stV num (.slice a0 n0' c0) (.slice a1 n1 c1) rm) ∧ ∀ w3, w3 = w2.alloc (.cells #[.int .u32 num, .slice a0 n0' c0, .slice a1 n1 c1, .int .i64 rm, .int .i64 0] 41) →
    Calls Tryd.prog 14 #[ptr db] w3 fun r w4 => ∃ cb, r = .returned (ptr cb) ∧
    Calls Tryd.prog 8 #[ptr cb] w4 fun r w5 => ∃ sb2 a2 n2 c2 a3 n3 c3, r = .returned (.tuple #[ptr sb2, .slice a2 n2 c2, .slice a3 n3 c3, .int .i64 0]) ∧
    Calls Tryd.prog 15 #[ptr sb] w5 fun r w6 => r = .returned (.int .i64 (al : Int)) ∧ w6 = w5 ∧
    Calls Tryd.prog 16 #[ptr sb] w5 fun r w7 => r = .returned (.int .i64 rm) ∧
    Calls Tryd.prog 17 #[ptr sb] w7 fun r w8 => r = .returned (.int .u32 num) ∧ w8 = w7 ∧ w7.cell? ⟨w2.heap.size, 0, none⟩ = some (.int .u32 num) ∧ w7.cell? ⟨w2.heap.size, 1, none⟩ = some (.slice a0 n0' c0) ∧ w7.cell? ⟨w2.heap.size, 2, none⟩ = some (.slice a1 n1 c1) ∧ w7.cell? ⟨w2.heap.size, 4, none⟩ = some (.int .i64 0) ∧
    Calls Tryd.prog 18 #[.slice a0 n0' c0, .slice a1 n1 c1, sv, .slice aa al ac] w7 fun r w9 => r = .returned (.bool true) ∧
    Calls Tryd.prog 18 #[.slice a2 n2 c2, .slice a3 n3 c3, sv, .slice aa al ac] w9 fun r w10 => r = .returned (.bool true) ∧ PK w db sb n0 k w10 sv (.slice aa al ac) num rm := by
  obtain ⟨o, jb, D, J, snap, ws, p, rfl, rfl, hw, hn⟩ := h
  obtain ⟨a', c', e, _⟩ := slice_of_own p.wt.own
  have hal : al = ws.length := by
    have := e
    simp at this
    exact this.2.1
  subst hal
  have hlk := p.look hT (by omega) (by omega)
  refine hlk.mono ?_
  rintro r w1 ⟨a, n, c, rfl, h1⟩
  refine ⟨a, n, c, rfl, h1.mono ?_⟩
  rintro r w2 ⟨a0, n0, c0, a1, n1, c1, rfl, h2⟩
  refine ⟨a0, n0, c0, a1, n1, c1, rfl, fun w3 e3 => (h2 w3 e3).mono ?_⟩
  rintro r w4 ⟨cb, rfl, h3⟩
  refine ⟨cb, rfl, h3.mono ?_⟩
  rintro r w5 ⟨sb2, a2, n2, c2, a3, n3, c3, rfl, h4⟩
  refine ⟨sb2, a2, n2, c2, a3, n3, c3, rfl, h4.mono ?_⟩
  rintro r w6 ⟨rfl, e6, h5⟩
  refine ⟨rfl, e6, h5.mono ?_⟩
  rintro r w7 ⟨rfl, h6⟩
  refine ⟨rfl, h6.mono ?_⟩
  rintro r w8 ⟨rfl, e8, b0, b1, b2, b4, h7⟩
  refine ⟨rfl, e8, b0, b1, b2, b4, h7.mono ?_⟩
  rintro r w9 ⟨rfl, h8⟩
  refine ⟨rfl, h8.mono ?_⟩
  rintro r w10 ⟨rfl, o', p'⟩
  exact ⟨rfl, o', jb, D, J, snap, ws, p', rfl, rfl, hw, hn⟩
theorem plays_walk (n : Int) (v : Value) (qs : List ActS) (w : World) (hT : Tab w) (hn : I64 n) (hv : RowF acs w v qs) (hq : ∀ q ∈ qs, ActOk w q) : Calls Tryd.prog 3 #[.int .i64 n, v] w fun r w' => r = .returned (.bool true) ∧ Below w.heap.size w w' := by
  obtain ⟨a, cap, rfl⟩ := hv.len
  have hcap := hv.caps
  have hm1 : qs.length ≤ cap := hcap.2.1
  have hm2 : cap ≤ 9223372036854775807 := hcap.2.2
  have HAl : Hid (∀ w', Below w.heap.size w w' → Calls Tryd.prog 6 #[] w' fun r w'' => r = .returned (.bool true) ∧ Below w.heap.size w w'') := fun w' hb' => (alive6 (hT.below hb' hT.lt)).mono fun r w'' h => ⟨h.1, bnext hb' h.2⟩
  have HA0 := HAl.out w (Below.refl _ _)
  have hn1 := hn.1
  have hn2 := hn.2
  have H5 := light5 hv hq
  have HT : Hid (Tab w) := hT
  clear hcap hn hT
  by_cases h1 : n < 6
  · generalize qs.length = m at *
    clear hv hq HAl H5
    go_enter Tryd.func3, Tryd.ntmps3
    go_wp2_with fail
    refine HA0.mono ?_
    rintro r w1 ⟨rfl, hb9⟩
    have HB : Hid (Below w.heap.size w w1) := hb9
    clear hb9 HA0
    go_wp2
    go_ret
    exact ⟨rfl, HB.out⟩
  · by_cases h2 : 60 < n
    · generalize qs.length = m at *
      clear hv hq HAl H5
      go_enter Tryd.func3, Tryd.ntmps3
      go_wp2_with fail
      refine HA0.mono ?_
      rintro r w1 ⟨rfl, hb9⟩
      have HB : Hid (Below w.heap.size w w1) := hb9
      clear hb9 HA0
      go_wp2
      go_ret
      exact ⟨rfl, HB.out⟩
    · cases hlt : lightA qs
      · rw [hlt] at H5
        have H5' : Hid (Calls Tryd.prog 5 #[.slice a qs.length cap] w fun r w' => r = .returned (.bool false) ∧ w' = w) := H5
        generalize qs.length = m at *
        clear hv hq HAl H5 hlt
        go_enter Tryd.func3, Tryd.ntmps3
        go_wp2_with fail
        refine H5'.out.mono ?_
        rintro r w1 ⟨rfl, hw1⟩
        replace hw1 := hw1.symm
        subst hw1
        go_wp2_with fail
        refine HA0.mono ?_
        rintro r w1 ⟨rfl, hb9⟩
        have HB : Hid (Below w.heap.size w w1) := hb9
        clear hb9 HA0
        go_wp2
        go_ret
        exact ⟨rfl, HB.out⟩
      · rw [hlt] at H5
        obtain ⟨hq30, hql⟩ := lightA_true hlt
        have H5' : Hid (Calls Tryd.prog 5 #[.slice a qs.length cap] w fun r w' => r = .returned (.bool true) ∧ w' = w) := H5
        obtain ⟨n0, rfl⟩ : ∃ n0 : Nat, n = (n0 : Int) := ⟨n.toNat, by omega⟩
        have h6 : 6 ≤ n0 := by omega
        have h60 : n0 ≤ 60 := by omega
        have HC : Calls Tryd.prog 7 #[.int .i64 (n0 : Int)] w fun r w1 => ∃ db, r = .returned (.tuple #[ptr db, .int .i64 0]) ∧ Calls Tryd.prog 8 #[ptr db] w1 fun r w2 => ∃ sb, r = .returned (.tuple #[ptr sb, .slice none 0 0, .slice none 0 0, .int .i64 0]) ∧ PK w db sb n0 0 w2 (.slice none 0 0) (.slice none 0 0) 1 ((hsize n0 : Int) - 1) := by
          refine (g0_new w (n := n0) (by omega) (by omega)).mono ?_
          rintro r w1 ⟨db, rfl, o1, g1⟩
          refine ⟨db, rfl, ?_⟩
          have e0 : (newD n0).now.length = n0 := by simp [newD]
          refine (g1.openNew HT.out (by omega) (ps_new h6 h60) rfl rfl).mono ?_
          rintro r w2 ⟨sb, rfl, o2, jb, D2, J2, g2, hl2, hr2⟩
          rw [e0] at hl2 hr2
          have := hsize_pos h6
          exact ⟨sb, rfl, o2, jb, D2, J2, [], [], ⟨g2.up (by omega), rd_nil w, want_nil _ _⟩, hl2, by rw [hr2]; omega, by simp, by omega⟩
        have H9 : Hid (∀ (l : Nat), l ≤ 600 → ∀ w', Calls Tryd.prog 9 #[.int .i64 (l : Int)] w' fun r w'' => r = .returned (.int .i64 (partsN l : Int)) ∧ w'' = w') := fun l hl w' => by
          have := rparts14 (l : Int) w' (by unfold I64; omega)
          rwa [partsI_nat (by omega)] at this
        have eh : ((n0 : Int) - 2).tdiv 2 = (hsize n0 : Int) := by
          unfold hsize
          rw [Int.tdiv_eq_ediv_of_nonneg (by omega)]
          omega
        have hs2 := hsize_pos h6
        have hs60 : hsize n0 ≤ 30 := by unfold hsize; omega
        obtain ⟨hz, hhz⟩ : ∃ hz, hz = hsize n0 := ⟨_, rfl⟩
        have HHZ : Hid (hz = hsize n0) := hhz
        rw [← hhz] at HC eh hs2 hs60
        obtain ⟨m, hm⟩ : ∃ m, m = qs.length := ⟨_, rfl⟩
        have HM : Hid (m = qs.length) := hm
        have HV : Hid (RowF acs w (.slice a qs.length cap) qs) := hv
        have HQ : Hid (∀ q ∈ qs, ActOk w q) := hq
        have HQl : Hid (∀ q ∈ qs, q.b.length ≤ 600 ∧ q.ks.length ≤ 60) := hql
        rw [← hm] at hm1 hq30 H5' HV ⊢
        clear hv hq H5 hlt hql hm hhz HA0
        go_enter Tryd.func3, Tryd.ntmps3
        go_wp2_with fail
        refine H5'.out.mono ?_
        rintro r w1 ⟨rfl, hw1⟩
        replace hw1 := hw1.symm
        subst hw1
        go_wp2_with fail
        refine HC.mono ?_
        rintro r w1 ⟨db, rfl, HC1⟩
        clear HC
        go_wp2_with fail
        refine HC1.mono ?_
        rintro r w2 ⟨sb, rfl, hpk⟩
        clear HC1
        have HP0 : Hid (PK w db sb n0 0 w2 (.slice none 0 0) (.slice none 0 0) 1 ((hz : Int) - 1)) := hpk
        clear hpk
        go_wp2
        go_loopw [12, 13, 14, 15, 16] (fun sv av nv rv kv wr => ∃ (k : Nat) (num rm : Int), k ≤ m ∧ kv = .int .i64 k ∧ nv = .int .u32 num ∧ rv = .int .i64 rm ∧ Hid (PK w db sb n0 k wr sv av num rm)) (fun _ _ _ _ kv _ => m - (intOf kv).toNat)
        case atStart => exact ⟨0, 1, (hz : Int) - 1, Nat.zero_le _, rfl, rfl, rfl, HP0⟩
        case round =>
          obtain ⟨k, num, rm, hk, rfl, rfl, rfl, hP⟩ := hrel
          obtain ⟨⟨sa, sl, sc, hsv⟩, ⟨aa, al, ac, hav, hac1, hac2⟩, hnm1, hnm2, hrm1, hrm2⟩ := hP.out.slices
          subst hsv
          subst hav
          have hBw : Hid (Below w.heap.size w wr) := by
            obtain ⟨o, jb, D, J, snap, ws, p, _⟩ := hP.out
            exact p.g.bel
          by_cases hlt : k < m
          · obtain ⟨q, hqk⟩ : ∃ q, qs[k]? = some q := ⟨_, List.getElem?_eq_getElem (by rw [← HM.out]; exact hlt)⟩
            obtain ⟨bb, off, rfl, hr⟩ := acc_cell HV.out hqk
            have hqo := HQ.out q (List.mem_of_getElem? hqk)
            have hqb := (HQl.out q (List.mem_of_getElem? hqk)).1
            obtain ⟨qa, qc, hqv⟩ := hqo.b.len
            have hqr := hqo.b
            rw [hqv] at hqr
            have hqcap := hqr.cap
            have hqc1 : q.b.length ≤ qc := hqcap.2.1
            have hqc2 : qc ≤ 9223372036854775807 := hqcap.2.2
            have HCl : Hid (∀ wz, Below w.heap.size w wz → wz.cell? ⟨bb, off + k * 4, none⟩ = some (.int .i64 q.kind) ∧ wz.cell? ⟨bb, off + k * 4 + 1, none⟩ = some (.slice qa q.b.length qc)) := fun wz hb => by
              have c0 := hr 0 _ rfl
              have c1 := hr 1 _ rfl
              rw [Nat.add_zero] at c0
              rw [hqv] at c1
              exact ⟨(hb.cell (World.block_lt_of_cell? w _ c0)).trans c0, (hb.cell (World.block_lt_of_cell? w _ c1)).trans c1⟩
            have HRq : Hid (Rd w (.slice qa q.b.length qc) q.b) := hqr
            have HCp := PK.compact hP.out HT.out (by omega) hqr hqb
            have HAp := PK.append hP.out HT.out (by omega) hqr hqb
            rw [← HHZ.out] at HCp
            have HP9 := H9.out q.b.length hqb wr
            have hpn : partsN q.b.length ≤ 13 := parts600 hqb
            have hpn0 : 0 < partsN q.b.length := partsN_pos _
            obtain ⟨cc0, cc1⟩ := HCl.out wr hBw.out
            obtain ⟨qb, hqb9⟩ : ∃ qb, qb = q.b := ⟨_, rfl⟩
            rw [← hqb9] at HCp HAp HP9 hpn hpn0 cc1 HCl HRq hqb hqc1
            obtain ⟨ql, hql9⟩ : ∃ ql, ql = qb.length := ⟨_, rfl⟩
            rw [← hql9] at HCp HAp HP9 hpn hpn0 cc1 HCl HRq hqb hqc1
            obtain ⟨qk, hqk9⟩ : ∃ qk, qk = q.kind := ⟨_, rfl⟩
            rw [← hqk9] at cc0 HCl
            generalize partsN ql = pn at *
            clear hr hqo hqv hqr hqcap hqb9 hql9 hqk9 hqk
            by_cases hkd : qk = 1
            · subst hkd
              clear HAp
              go_wp2_with fail
              refine HP9.mono ?_
              rintro r wa ⟨rfl, hwa⟩
              replace hwa := hwa.symm
              subst hwa
              clear HP9
              go_wp2_with fail
              refine HCp.mono ?_
              rintro r wb ⟨kd, rfl, hbw, hcs⟩
              have HBw2 : Hid (Below w.heap.size w wb) := hbw
              clear HCp hP hBw hbw cc0 cc1
              rcases hcs with ⟨rfl, hph, hpk⟩ | ⟨rfl, hph, hpk⟩
              · have HPK : Hid (PK w db sb n0 (k + 1) wb (.slice qa ql qc) (.slice none 0 0) (num + 1) ((hz : Int) - (pn : Int))) := hpk
                obtain ⟨cc0, cc1⟩ := HCl.out wb HBw2.out
                clear hpk
                have HL := PK.look HPK.out HT.out (by omega)
                go_wp2_with fail
                refine HL.mono ?_
                rintro r x1 ⟨y1, y2, y3, rfl, HL1⟩
                clear HL
                go_wp2_with fail
                refine HL1.mono ?_
                rintro r x2 ⟨y4, y5, y6, y7, y8, y9, rfl, HL2⟩
                clear HL1
                unfold stV
                go_wp2_with fail
                refine (HL2 _ rfl).mono ?_
                rintro r x4 ⟨cb, rfl, HL3⟩
                clear HL2
                go_wp2_with fail
                refine HL3.mono ?_
                rintro r x5 ⟨sb2, z2, z3, z4, z5, z6, z7, rfl, HL4⟩
                clear HL3
                go_wp2_with fail
                refine HL4.mono ?_
                rintro r x6 ⟨rfl, hx6, HL5⟩
                subst hx6
                clear HL4
                go_wp2_with fail
                refine HL5.mono ?_
                rintro r x7 ⟨rfl, HL6⟩
                clear HL5
                go_wp2_with fail
                refine HL6.mono ?_
                rintro r x8 ⟨rfl, hx8, u0, u1, u2, u4, HL7⟩
                subst hx8
                clear HL6
                go_wp2_with fail
                refine HL7.mono ?_
                rintro r x9 ⟨rfl, HL8⟩
                clear HL7 u0 u1 u2 u4
                go_wp2_with fail
                refine HL8.mono ?_
                rintro r x10 ⟨rfl, hpk⟩
                clear HL8 HPK
                have HPK : Hid (PK w db sb n0 (k + 1) x10 (.slice qa ql qc) (.slice none 0 0) (num + 1) ((hz : Int) - (pn : Int))) := hpk
                clear hpk
                go_wp2
                go_roundw
                case rel => exact ⟨k + 1, num + 1, (hz : Int) - (pn : Int), by omega, by go_num, rfl, rfl, HPK⟩
                case measure => simp [intOf]; omega
              · have HPK : Hid (PK w db sb n0 (k + 1) wb (.slice sa sl sc) (.slice aa al ac) num rm) := hpk
                clear hpk
                have HL := PK.look HPK.out HT.out (by omega)
                go_wp2_with fail
                refine HL.mono ?_
                rintro r x1 ⟨y1, y2, y3, rfl, HL1⟩
                clear HL
                go_wp2_with fail
                refine HL1.mono ?_
                rintro r x2 ⟨y4, y5, y6, y7, y8, y9, rfl, HL2⟩
                clear HL1
                unfold stV
                go_wp2_with fail
                refine (HL2 _ rfl).mono ?_
                rintro r x4 ⟨cb, rfl, HL3⟩
                clear HL2
                go_wp2_with fail
                refine HL3.mono ?_
                rintro r x5 ⟨sb2, z2, z3, z4, z5, z6, z7, rfl, HL4⟩
                clear HL3
                go_wp2_with fail
                refine HL4.mono ?_
                rintro r x6 ⟨rfl, hx6, HL5⟩
                subst hx6
                clear HL4
                go_wp2_with fail
                refine HL5.mono ?_
                rintro r x7 ⟨rfl, HL6⟩
                clear HL5
                go_wp2_with fail
                refine HL6.mono ?_
                rintro r x8 ⟨rfl, hx8, u0, u1, u2, u4, HL7⟩
                subst hx8
                clear HL6
                go_wp2_with fail
                refine HL7.mono ?_
                rintro r x9 ⟨rfl, HL8⟩
                clear HL7 u0 u1 u2 u4
                go_wp2_with fail
                refine HL8.mono ?_
                rintro r x10 ⟨rfl, hpk⟩
                clear HL8 HPK
                have HPK : Hid (PK w db sb n0 (k + 1) x10 (.slice sa sl sc) (.slice aa al ac) num rm) := hpk
                clear hpk
                go_wp2
                go_roundw
                case rel => exact ⟨k + 1, num, rm, by omega, by go_num, rfl, rfl, HPK⟩
                case measure => simp [intOf]; omega
            · have hkd' : (qk == 1) = false := by simpa using hkd
              clear HCp hkd
              go_wp2_with fail
              refine HP9.mono ?_
              rintro r wa ⟨rfl, hwa⟩
              replace hwa := hwa.symm
              subst hwa
              clear HP9
              go_wp2_with fail
              refine HAp.mono ?_
              rintro r wb ⟨kd, rfl, hbw, hcs⟩
              have HBw2 : Hid (Below w.heap.size w wb) := hbw
              clear HAp hP hBw hbw cc0 cc1
              rcases hcs with ⟨rfl, hph, hpa⟩ | ⟨rfl, hph, hpk⟩
              · obtain ⟨ws, hrow, hwl, hmore⟩ := PA.row hpa (.slice qa ql qc)
                have hlen : al = ws.length := by
                  obtain ⟨a', c', e, _⟩ := slice_of_own hrow
                  simp at e
                  exact e.2.1
                have HRow : Hid ((wb.alloc (.cells #[.slice qa ql qc] 30)).ownsRow 0 30 1 (.slice aa al ac) ws.length (flat lc ws)) := hrow
                have HMore : Hid (∀ w3 v', Rd w (.slice qa ql qc) qb → w3.ownsRow 0 30 1 v' (ws ++ [(Value.slice qa ql qc, qb)]).length (flat lc (ws ++ [(Value.slice qa ql qc, qb)])) → (wb.alloc (.cells #[.slice qa ql qc] 30)).grownBy w3 (Value.slice aa al ac).ownBlock → (∀ j, v'.ownBlock = some j → (Value.slice aa al ac).ownBlock = some j ∨ (wb.alloc (.cells #[.slice qa ql qc] 30)).heap.size ≤ j) → PK w db sb n0 (k + 1) w3 (.slice sa sl sc) v' num (rm - (pn : Int))) := hmore
                have HLen : Hid (ws.length = al) := hlen.symm
                obtain ⟨cc0, cc1⟩ := HCl.out wb HBw2.out
                have hal4 : al ≤ 1100 := by omega
                clear hrow hmore hpa hlen hwl
                go_upto_region 27 with (at_builtin; go_must (refine wpList_append_rows ty25 lc_len (by omega) rfl (.tmp 131) (.tmp 137) rfl _ ws rfl HRow.out _ [(.slice qa ql qc, qb)] rfl (rowF_one (f := lc) wb (.slice qa ql qc, qb) 30) (flat_lc_one _ (fun q hq => by simp at hq; subst hq; rfl)) (by have := HLen.out; simp; omega) ?_; intro v3 w3 k1 k2 k3; have HPK : Hid (PK w db sb n0 (k + 1) w3 (.slice sa sl sc) v3 num (rm - (pn : Int))) := HMore.out w3 v3 HRq.out k1 k2 k3; obtain ⟨a3, c3, hv3, hc31, hc32⟩ := slice_of_own k1; rw [lenR HLen.out] at hv3 hc31; subst hv3; clear k1 k2 k3))
                clear HRow HMore cc0 cc1
                have HL := PK.look HPK.out HT.out (by omega)
                go_wp2_with fail
                refine HL.mono ?_
                rintro r x1 ⟨y1, y2, y3, rfl, HL1⟩
                clear HL
                go_wp2_with fail
                refine HL1.mono ?_
                rintro r x2 ⟨y4, y5, y6, y7, y8, y9, rfl, HL2⟩
                clear HL1
                unfold stV
                go_wp2_with fail
                refine (HL2 _ rfl).mono ?_
                rintro r x4 ⟨cb, rfl, HL3⟩
                clear HL2
                go_wp2_with fail
                refine HL3.mono ?_
                rintro r x5 ⟨sb2, z2, z3, z4, z5, z6, z7, rfl, HL4⟩
                clear HL3
                go_wp2_with fail
                refine HL4.mono ?_
                rintro r x6 ⟨rfl, hx6, HL5⟩
                subst hx6
                clear HL4
                go_wp2_with fail
                refine HL5.mono ?_
                rintro r x7 ⟨rfl, HL6⟩
                clear HL5
                go_wp2_with fail
                refine HL6.mono ?_
                rintro r x8 ⟨rfl, hx8, u0, u1, u2, u4, HL7⟩
                subst hx8
                clear HL6
                go_wp2_with fail
                refine HL7.mono ?_
                rintro r x9 ⟨rfl, HL8⟩
                clear HL7 u0 u1 u2 u4
                go_wp2_with fail
                refine HL8.mono ?_
                rintro r x10 ⟨rfl, hpk⟩
                clear HL8 HPK
                have HPK : Hid (PK w db sb n0 (k + 1) x10 (.slice sa sl sc) (.slice a3 (al + 1) c3) num (rm - (pn : Int))) := hpk
                clear hpk
                go_wp2
                go_roundw
                case rel => exact ⟨k + 1, num, rm - (pn : Int), by omega, by go_num, rfl, rfl, HPK⟩
                case measure => simp [intOf]; omega
              · have HPK : Hid (PK w db sb n0 (k + 1) wb (.slice sa sl sc) (.slice aa al ac) num rm) := hpk
                clear hpk
                have HL := PK.look HPK.out HT.out (by omega)
                go_wp2_with fail
                refine HL.mono ?_
                rintro r x1 ⟨y1, y2, y3, rfl, HL1⟩
                clear HL
                go_wp2_with fail
                refine HL1.mono ?_
                rintro r x2 ⟨y4, y5, y6, y7, y8, y9, rfl, HL2⟩
                clear HL1
                unfold stV
                go_wp2_with fail
                refine (HL2 _ rfl).mono ?_
                rintro r x4 ⟨cb, rfl, HL3⟩
                clear HL2
                go_wp2_with fail
                refine HL3.mono ?_
                rintro r x5 ⟨sb2, z2, z3, z4, z5, z6, z7, rfl, HL4⟩
                clear HL3
                go_wp2_with fail
                refine HL4.mono ?_
                rintro r x6 ⟨rfl, hx6, HL5⟩
                subst hx6
                clear HL4
                go_wp2_with fail
                refine HL5.mono ?_
                rintro r x7 ⟨rfl, HL6⟩
                clear HL5
                go_wp2_with fail
                refine HL6.mono ?_
                rintro r x8 ⟨rfl, hx8, u0, u1, u2, u4, HL7⟩
                subst hx8
                clear HL6
                go_wp2_with fail
                refine HL7.mono ?_
                rintro r x9 ⟨rfl, HL8⟩
                clear HL7 u0 u1 u2 u4
                go_wp2_with fail
                refine HL8.mono ?_
                rintro r x10 ⟨rfl, hpk⟩
                clear HL8 HPK
                have HPK : Hid (PK w db sb n0 (k + 1) x10 (.slice sa sl sc) (.slice aa al ac) num rm) := hpk
                clear hpk
                go_wp2
                go_roundw
                case rel => exact ⟨k + 1, num, rm, by omega, by go_num, rfl, rfl, HPK⟩
                case measure => simp [intOf]; omega
          · obtain rfl : k = m := by omega
            have HA9 := HAl.out wr hBw.out
            clear hP
            go_wp2_with fail
            refine HA9.mono ?_
            rintro r w9 ⟨rfl, hb9⟩
            have HB9 : Hid (Below w.heap.size w w9) := hb9
            clear hb9 HA9
            go_wp2
            go_ret
            exact ⟨rfl, HB9.out⟩
end Go.Proofs.YtkcighejmjgalaaDoor
