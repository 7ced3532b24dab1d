/-
  The walk of JournalOpens: what opening, or making, a journal on any stretch of any sectors answers, and what its first record then leaves.
-/
import Derived.Test.YtngmgdngimnljaaAlv
import Derived.Test.YtngmgdngimnljaaOpn3
namespace Go.Proofs.Ytngmgdngimnljaa
set_option linter.unusedVariables false
set_option linter.unusedSimpArgs false
set_option synthInstance.maxSize 20000
set_option maxHeartbeats 4000000
set_option maxRecDepth 20000
open Go.RowKit Go.Maps

theorem opens_walk (v : Value) (qs : List RawJ) (base size gen : Int) (bv : Value) (b : List Int) (w : World) (hv : RowF rwc w v qs) (hq : ∀ q ∈ qs, RawOk w q) (hba : I64 base) (hsi : I64 size) (hg : U32 gen) (hb : Rd w bv b) : Calls Try.prog 5 #[v, .int .i64 base, .int .i64 size, .int .u32 gen, bv] w fun r w' => r = .returned (.bool true) ∧ Below w.heap.size w w' := by
  obtain ⟨a, cap, rfl⟩ := hv.len
  obtain ⟨ba, bcap, rfl⟩ := hb.len
  have hcap := hv.caps
  have hm1 : qs.length ≤ cap := hcap.2.1
  have hm2 : cap ≤ 9223372036854775807 := hcap.2.2
  have hbc := hb.cap
  have hb1 : b.length ≤ bcap := hbc.2.1
  have hb2 : bcap ≤ 9223372036854775807 := hbc.2.2
  have HAl : Hid (∀ w, Calls Try.prog 9 #[] w fun r w' => r = .returned (.bool true) ∧ Below w.heap.size w w') := alive9
  have H15 : Hid (Calls Try.prog 15 #[.slice a qs.length cap] w fun r w' => r = .returned (.bool (lightB qs)) ∧ w' = w) := lightRaw15 hv hq
  have HBn : Hid (Below w.heap.size w w) := Below.refl _ _
  have HBv : Hid (Rd w (.slice ba b.length bcap) b) := hb
  have hoct : Oct b := hb.oct
  have HOct : Hid (Oct b ∧ True) := ⟨hoct, trivial⟩
  have HI : Hid (I64 base ∧ I64 size ∧ U32 gen) := ⟨hba, hsi, hg⟩
  obtain ⟨ba0, ba1⟩ := hba
  obtain ⟨si0, si1⟩ := hsi
  obtain ⟨bl, hbl⟩ : ∃ bl, bl = b.length := ⟨_, rfl⟩
  have HBL : Hid (bl = b.length) := hbl
  rw [← hbl] at hb1 HBv ⊢
  clear hcap hbc hb hbl hoct hg
  cases hlt : lightB qs
  · rw [hlt] at H15
    generalize qs.length = m at *
    clear hv
    go_enter Try.func5, Try.ntmps5
    go_wp2_with (first
      | (go_at_call 15; go_must (refine H15.out.mono ?_; rintro r w2 ⟨rfl, hw2⟩; replace hw2 := hw2.symm; subst hw2))
      | (go_at_call 9; go_must (refine (HAl.out _).mono ?_; rintro r w2 ⟨rfl, hb2⟩; have HB2 : Hid (Below w.heap.size w w2) := hb2; clear hb2)))
    go_ret
    exact ⟨rfl, HB2.out⟩
  · rw [hlt] at H15
    obtain ⟨l40, l500⟩ := lightB_true hlt
    have HV : Hid (RowF rwc w (.slice a qs.length cap) qs) := hv
    have HQ : Hid (∀ q ∈ qs, RawOk w q ∧ q.b.length ≤ 500) := fun q h => ⟨hq q h, l500 q h⟩
    obtain ⟨m, hm⟩ : ∃ m, m = qs.length := ⟨_, rfl⟩
    have HM : Hid (m = qs.length) := hm
    rw [← hm] at hm1 l40 HV H15 ⊢
    clear hv hq hm hlt l500
    by_cases hlong : 4100 < bl
    · go_enter Try.func5, Try.ntmps5
      go_wp2_with (first
        | (go_at_call 15; go_must (refine H15.out.mono ?_; rintro r w2 ⟨rfl, hw2⟩; replace hw2 := hw2.symm; subst hw2))
        | (go_at_call 9; go_must (refine (HAl.out _).mono ?_; rintro r w2 ⟨rfl, hb2⟩; have HB2 : Hid (Below w.heap.size w w2) := hb2; clear hb2)))
      go_ret
      exact ⟨rfl, HB2.out⟩
    · obtain ⟨db, hdb⟩ : ∃ db, db = w.heap.size + 2 := ⟨_, rfl⟩
      have H19 := o1_new w
      rw [← hdb] at H19
      have H19' : Hid (Calls Try.prog 19 #[.int .i64 40] w fun r w' => r = .returned (.tuple #[ptr db, .int .i64 0]) ∧ ∃ o', O1 w w' o' db (newD 40) 0) := H19
      clear H19 hdb
      go_enter Try.func5, Try.ntmps5
      go_wp2_with (first
        | (go_at_call 15; go_must (refine H15.out.mono ?_; rintro r w2 ⟨rfl, hw2⟩; replace hw2 := hw2.symm; subst hw2))
        | (go_at_call 19; go_must (refine H19'.out.mono ?_; rintro r w2 ⟨rfl, o2, h2⟩; have HS2 : Hid (O1 w w2 o2 db (newD 40) 0) := h2; clear h2)))
      go_loopw [13] (fun iv wr => ∃ (k : Nat) (o' : Nat → Nat) (D : Dk), k ≤ m ∧ iv = .int .i64 k ∧ Hid (O1 w wr o' db D k)) (fun iv _ => m - (intOf iv).toNat)
      case atStart => exact ⟨0, o2, newD 40, Nat.zero_le _, rfl, HS2⟩
      case round =>
        obtain ⟨k, o', D, hk, rfl, hK⟩ := hrel
        by_cases hlt : k < m
        · obtain ⟨q, hq⟩ : ∃ q, qs[k]? = some q := ⟨_, List.getElem?_eq_getElem (by rw [← HM.out]; exact hlt)⟩
          have hvr := HV.out.below hK.out.bel
          obtain ⟨bb, off, rfl, hr⟩ := rwc_cell hvr hq
          have hqo := HQ.out q (List.mem_of_getElem? hq)
          have H16 := bytes16 (hqo.1.below hK.out.bel) (by omega)
          obtain ⟨qa, qc, hqv⟩ := (hqo.1.below hK.out.bel).b.len
          have c0 := hr 0 _ rfl
          have c1 := hr 1 _ rfl
          have c2 := hr 2 _ rfl
          have c3 := hr 3 _ rfl
          have c4 := hr 4 _ rfl
          have c5 := hr 5 _ rfl
          have c6 := hr 6 _ rfl
          obtain ⟨gen', round', seq', bv', b', part', at', by'⟩ := q
          simp only at hqv c0 c1 c2 c3 c4 c5 c6
          rw [Nat.add_zero] at c0
          subst hqv
          have H16' : Hid (Calls Try.prog 16 #[.agg #[.int .u32 gen', .int .u32 round', .int .u32 seq', .slice qa b'.length qc, .int .i64 part', .int .i64 at', .int .u8 by']] wr fun r w' => OutBk wr w' r) := H16
          have HW : Hid (∀ w1 x s, Below wr.heap.size wr w1 → Rd w1 x s → Calls Try.prog 20 #[ptr db, .int .i64 (k : Int), x] w1 fun r w' => ∃ c, r = .returned (.int .i64 c) ∧ ∃ o' D', O1 w w' o' db D' (k + 1)) := fun w1 x s hb hx => (hK.out.below hb).write (by omega) _ hx
          have HN : Hid (∀ w1, Below wr.heap.size wr w1 → ∃ o', O1 w w1 o' db D (k + 1)) := fun w1 hb => ⟨_, (hK.out.below hb).dd, (hK.out.fd).mono (by omega), (hK.out.below hb).mv⟩
          generalize b'.length = bl' at *
          clear hr hqo hvr hq H16 hK
          go_wp2_with fail
          refine H16'.out.mono ?_
          rintro r w3 ⟨v3, k3, rfl, ⟨s3, ho3⟩, hb3⟩
          have HC := HW.out w3 _ _ hb3 ho3.1
          obtain ⟨o3, hN3⟩ := HN.out w3 hb3
          have HN3 : Hid (O1 w w3 o3 db D (k + 1)) := hN3
          obtain ⟨a3, c3', hv3⟩ := ho3.1.len
          subst hv3
          generalize s3.length = sl at *
          clear ho3 hb3 hN3 c0 c1 c2 c3 c4 c5 c6
          cases k3
          · go_wp2
            go_roundw
            case rel => exact ⟨k + 1, o3, D, by omega, by go_num, HN3⟩
            case measure => simp [intOf]; omega
          · go_wp2_with (go_at_call 20; go_must (refine HC.mono ?_; rintro r w4 ⟨c4, rfl, o4, D4, h4⟩; have HS4 : Hid (O1 w w4 o4 db D4 (k + 1)) := h4; clear h4))
            go_roundw
            case rel => exact ⟨k + 1, o4, D4, by omega, by go_num, HS4⟩
            case measure => simp [intOf]; omega
        · obtain rfl : k = m := by omega
          have HSy := hK.out.sync (by omega)
          clear hK
          go_wp2_with fail
          refine HSy.mono ?_
          rintro r w3 ⟨c3, rfl, o3, D3, h3⟩
          have HCp := h3.copy (by omega)
          clear h3 HSy
          go_wp2_with fail
          refine HCp.mono ?_
          rintro r w4 ⟨cb, rfl, o4, h4⟩
          have HS4 : Hid (O2 w w4 o4 db cb D3 D3 k) := h4
          replace HBn : Hid (Below w.heap.size w w4) := h4.bel
          clear h4 HCp
          by_cases hbad : gen = 0 ∨ base < 0 ∨ size < 1 ∨ 40 < base ∨ 40 - base < size
          · obtain ⟨c23, c24⟩ := HS4.out.bad HI.out.1 HI.out.2.1 HI.out.2.2 hbad
            have HBad : Hid ((gen = 0 ∨ base < 0 ∨ size < 1 ∨ 40 < base ∨ 40 - base < size) ∧ True) := ⟨hbad, trivial⟩
            clear hbad
            go_wp2_with fail
            refine c23.mono ?_
            rintro r w5 ⟨rfl, hw5⟩
            replace hw5 := hw5.symm
            subst hw5
            clear c23
            go_wp2_with fail
            refine c24.mono ?_
            rintro r w5 ⟨rfl, hw5⟩
            replace hw5 := hw5.symm
            subst hw5
            clear c24
            by_cases h0 : gen = 0
            · subst h0
              go_wp2_with (go_at_call 9; go_must (refine (HAl.out _).mono ?_; rintro r wz ⟨rfl, hbz⟩; have HBz : Hid (Below w.heap.size w wz) := bnext HBn.out hbz; clear hbz))
              go_ret
              exact ⟨rfl, HBz.out⟩
            · have h0' : (gen == 0) = false := by simpa using h0
              by_cases h1 : base < 0
              · clear h0
                go_wp2_with (go_at_call 9; go_must (refine (HAl.out _).mono ?_; rintro r wz ⟨rfl, hbz⟩; have HBz : Hid (Below w.heap.size w wz) := bnext HBn.out hbz; clear hbz))
                go_ret
                exact ⟨rfl, HBz.out⟩
              · by_cases h2 : size < 1
                · clear h0
                  go_wp2_with (go_at_call 9; go_must (refine (HAl.out _).mono ?_; rintro r wz ⟨rfl, hbz⟩; have HBz : Hid (Below w.heap.size w wz) := bnext HBn.out hbz; clear hbz))
                  go_ret
                  exact ⟨rfl, HBz.out⟩
                · by_cases h3 : 40 < base
                  · clear h0
                    go_wp2_with (go_at_call 9; go_must (refine (HAl.out _).mono ?_; rintro r wz ⟨rfl, hbz⟩; have HBz : Hid (Below w.heap.size w wz) := bnext HBn.out hbz; clear hbz))
                    go_ret
                    exact ⟨rfl, HBz.out⟩
                  · have h4 : 40 - base < size := by
                      rcases HBad.out.1 with h | h | h | h | h
                      · exact absurd h h0
                      all_goals omega
                    clear h0
                    go_wp2_with (go_at_call 9; go_must (refine (HAl.out _).mono ?_; rintro r wz ⟨rfl, hbz⟩; have HBz : Hid (Below w.heap.size w wz) := bnext HBn.out hbz; clear hbz))
                    go_ret
                    exact ⟨rfl, HBz.out⟩
          · obtain ⟨bn, rfl⟩ : ∃ bn : Nat, base = bn := ⟨base.toNat, by omega⟩
            obtain ⟨sn, rfl⟩ : ∃ sn : Nat, size = sn := ⟨size.toNat, by omega⟩
            have hg0 : gen ≠ 0 := by omega
            have h0' : (gen == 0) = false := by simpa using hg0
            have hs1 : 1 ≤ sn := by omega
            have hbs : bn + sn ≤ 40 := by omega
            have HG0 : Hid (gen ≠ 0 ∧ True) := ⟨hg0, trivial⟩
            have hg := HI.out.2.2
            clear hbad
            by_cases hr : latest (cont D3 bn sn) gen = 4294967295
            · have c23 := HS4.out.range hg hg0 hs1 hbs hr hr
              have HSc : Hid (∀ w' o', O2 w w' o' db cb D3 D3 k → Calls Try.prog 25 #[ptr db, .int .i64 (bn : Int), .int .i64 (sn : Int)] w' fun r w'' => ∃ v, r = .returned v ∧ (∃ a n c, v = .slice a n c) ∧ Calls Try.prog 18 #[v, .int .u32 gen] w'' fun r w3 => ∃ a n c T, r = .returned (.tuple #[.slice a n c, .int .i64 T, .int .u32 4294967295]) ∧ Below w.heap.size w w3) := fun w' o' h => by
                refine (sect_scan h.dd h.fd hbs hg).mono ?_
                rintro r w2 ⟨v, rfl, hsl, h18⟩
                refine ⟨v, rfl, hsl, h18.mono ?_⟩
                rintro r w3 ⟨v', rfl, ⟨a', c', rfl, _, _⟩, _, hb3⟩
                exact ⟨a', _, c', _, by rw [hr], bnext h.bel hb3⟩
              clear hr hg hg0 HS4
              go_wp2_with fail
              refine c23.mono ?_
              rintro r w5 ⟨rfl, c24⟩
              clear c23
              go_wp2_with fail
              refine c24.mono ?_
              rintro r w6 ⟨rfl, o6, h6⟩
              have c25 := HSc.out w6 o6 h6
              clear c24 h6
              go_wp2_with fail
              refine c25.mono ?_
              rintro r w7 ⟨v7, rfl, ⟨a7, n7, c7, hv7⟩, c18⟩
              subst hv7
              clear c25
              go_wp2_with fail
              refine c18.mono ?_
              rintro r w8 ⟨a8, n8, c8, T8, rfl, hb8⟩
              replace HBn : Hid (Below w.heap.size w w8) := hb8
              clear c18 hb8
              go_wp2_with (go_at_call 9; go_must (refine (HAl.out _).mono ?_; rintro r wz ⟨rfl, hbz⟩; have HBz : Hid (Below w.heap.size w wz) := bnext HBn.out hbz; clear hbz))
              go_ret
              exact ⟨rfl, HBz.out⟩
            · have c23 := HS4.out.open hg hg0 hs1 hbs hr hr
              have hC : (cont D3 bn sn).length = sn := cont_len (by rw [HS4.out.fd.n]; exact hbs)
              have HR : Hid (latest (cont D3 bn sn) gen ≠ 4294967295 ∧ True) := ⟨hr, trivial⟩
              have hokJ := openJ_ok (C := cont D3 bn sn) (base := bn) (size := sn) hg hg0 cont_oct hC (by omega) hr
              have hokM := beginJ_ok (C := cont D3 bn sn) (base := bn) (size := sn) hg hg0 cont_oct (by omega) hr
              have HokJ : Hid (JOk (openJ (cont D3 bn sn) bn sn gen)) := hokJ
              have HokM : Hid (JOk (beginJ (cont D3 bn sn) bn sn gen)) := hokM
              have HFd : Hid (Fr D3 k) := HS4.out.fd
              have hse := (scan_end (cont D3 bn sn) gen).1
              have ht := hse.1
              have hcn := hse.2.1
              rw [hC] at ht
              have hlu := latest_u32 gen (cont_oct (D := D3) (base := bn) (size := sn))
              have hR1 : 0 ≤ latest (cont D3 bn sn) gen := hlu.1
              have hR2 : latest (cont D3 bn sn) gen < 4294967295 := by have := hlu.2; omega
              obtain ⟨C, hCd⟩ : ∃ C, C = cont D3 bn sn := ⟨_, rfl⟩
              have HCd : Hid (C = cont D3 bn sn) := hCd
              rw [← hCd] at c23 ht hcn hR1 hR2 HokJ HokM HR
              obtain ⟨S, hS⟩ : ∃ S, S = (scan C gen).1 := ⟨_, rfl⟩
              have HS : Hid (S = (scan C gen).1) := hS
              obtain ⟨T, hT⟩ : ∃ T, T = (scan C gen).2 := ⟨_, rfl⟩
              have HT : Hid (T = (scan C gen).2) := hT
              obtain ⟨gn, hgn⟩ : ∃ gn, gn = S.length := ⟨_, rfl⟩
              have HGn : Hid (gn = S.length) := hgn
              obtain ⟨R, hRd⟩ : ∃ R, R = latest C gen := ⟨_, rfl⟩
              have HRd : Hid (R = latest C gen) := hRd
              rw [← hS, ← hgn] at c23 hcn
              rw [← hT] at ht hcn
              rw [← hRd] at hR1 hR2
              have hR' : (R == 4294967295) = false := by
                have : R ≠ 4294967295 := by omega
                simpa using this
              have HTelJ : Hid (∀ w' jb, Blk w' jb 95 (jc db (openJ C bn sn gen)) → ∀ w'', Below w'.heap.size w' w'' → Calls Try.prog 26 #[ptr jb] w'' (fun r w3 => r = .returned (.int .i64 (gn : Int)) ∧ w3 = w'') ∧ Calls Try.prog 27 #[ptr jb] w'' (fun r w3 => r = .returned (.int .i64 ((sn : Int) - (T : Int))) ∧ Below w''.heap.size w'' w3) ∧ Calls Try.prog 28 #[ptr jb] w'' (fun r w3 => r = .returned (.int .u32 (R + 1)) ∧ w3 = w'')) := fun w' jb hB w'' hb => by
                have h9 := tells hB HokJ.out hb
                have e1 : (openJ C bn sn gen).count = gn := by rw [HGn.out, HS.out]; rfl
                have e2 : (((openJ C bn sn gen).fin : Nat) : Int) - ((openJ C bn sn gen).next : Nat) = (sn : Int) - (T : Int) := by
                  show ((bn + sn : Nat) : Int) - ((bn + (scan C gen).2 : Nat) : Int) = _
                  rw [← HT.out]
                  omega
                have e3 : (openJ C bn sn gen).round = R + 1 := by rw [HRd.out]; rfl
                rwa [e1, e2, e3] at h9
              have HTelM : Hid (∀ w' jb, Blk w' jb 95 (jc cb (beginJ C bn sn gen)) → ∀ w'', Below w'.heap.size w' w'' → Calls Try.prog 26 #[ptr jb] w'' (fun r w3 => r = .returned (.int .i64 0) ∧ w3 = w'') ∧ Calls Try.prog 27 #[ptr jb] w'' (fun r w3 => r = .returned (.int .i64 (sn : Int)) ∧ Below w''.heap.size w'' w3) ∧ Calls Try.prog 28 #[ptr jb] w'' (fun r w3 => r = .returned (.int .u32 (R + 1)) ∧ w3 = w'')) := fun w' jb hB w'' hb => by
                have h9 := tells hB HokM.out hb
                have e2 : (((beginJ C bn sn gen).fin : Nat) : Int) - ((beginJ C bn sn gen).next : Nat) = (sn : Int) := by
                  show ((bn + sn : Nat) : Int) - (bn : Int) = _
                  omega
                have e3 : (beginJ C bn sn gen).round = R + 1 := by rw [HRd.out]; rfl
                rw [e2, e3] at h9
                exact h9
              have HSc : Hid (∀ w' o' jb mb gv, OS w w' o' db cb jb mb D3 D3 (openJ C bn sn gen) (beginJ C bn sn gen) gv S nilv [] k → Calls Try.prog 25 #[ptr db, .int .i64 (bn : Int), .int .i64 (sn : Int)] w' fun r w'' => ∃ v, r = .returned v ∧ (∃ a n c, v = .slice a n c) ∧ Calls Try.prog 18 #[v, .int .u32 gen] w'' fun r w3 => ∃ a c, r = .returned (.tuple #[.slice a gn c, .int .i64 (T : Int), .int .u32 R]) ∧ gn ≤ c ∧ c ≤ 9223372036854775807 ∧ ∃ o3, OS w w3 o3 db cb jb mb D3 D3 (openJ C bn sn gen) (beginJ C bn sn gen) gv S (.slice a gn c) S k) := fun w' o' jb mb gv h => by
                refine (sect_scan h.dd h.fd hbs hg).mono ?_
                rintro r w2 ⟨v, rfl, hsl, h18⟩
                refine ⟨v, rfl, hsl, h18.mono ?_⟩
                rw [← HCd.out, ← HS.out, ← HT.out, ← HRd.out, ← HGn.out]
                rintro r w3 ⟨v', rfl, ⟨a', c', rfl, hc1, hc2⟩, ho3, hb3⟩
                exact ⟨a', c', rfl, hc1, hc2, _, h.with hb3 ho3⟩
              clear hse hS hT hgn hRd hlu hCd hC hokJ hokM hr HS4
              have hg9 := hg
              clear hg
              have HG : Hid (U32 gen) := hg9
              clear hg9 hg0
              go_wp2_with fail
              refine c23.mono ?_
              rintro r w5 ⟨jb, v5, rfl, ⟨a5, c5, hv5⟩, c24⟩
              subst hv5
              clear c23
              go_wp2_with fail
              refine c24.mono ?_
              rintro r w6 ⟨mb, rfl, o6, h6⟩
              have c25 := HSc.out w6 o6 jb mb _ h6
              clear c24 h6 HSc
              go_wp2_with fail
              refine c25.mono ?_
              rintro r w7 ⟨v7, rfl, ⟨a7, n7, c7, hv7⟩, c18⟩
              subst hv7
              clear c25
              go_wp2_with fail
              refine c18.mono ?_
              rintro r w8 ⟨a8, c8, rfl, hc81, hc82, o8, h8⟩
              have HS8 : Hid (OS w w8 o8 db cb jb mb D3 D3 (openJ C bn sn gen) (beginJ C bn sn gen) (.slice a5 gn c5) S (.slice a8 gn c8) S k) := h8
              have c12 := h8.lists (by rw [← HGn.out]; omega)
              have hTJ := HTelJ.out w8 jb h8.jj.blk
              have hTM := HTelM.out w8 mb h8.jm.blk
              clear c18 h8 HTelJ HTelM
              go_wp2_with fail
              refine c12.mono ?_
              rintro r w9 ⟨rfl, hb9⟩
              obtain ⟨d26, d27, d28⟩ := hTJ w9 hb9
              have HB9 : Hid (Below w8.heap.size w8 w9) := hb9
              clear c12 hb9 d28
              have eq1 : ((gn : Int) != (gn : Int)) = false := by simp
              have eq2 : ((sn : Int) - (T : Int) != (sn : Int) - (T : Int)) = false := by simp
              have eq3 : (R + 1 != R + 1) = false := by simp
              have eq4 : ((sn : Int) != (sn : Int)) = false := by simp
              go_wp2_with fail
              refine d26.mono ?_
              rintro r w10 ⟨rfl, hw10⟩
              replace hw10 := hw10.symm
              subst hw10
              clear d26
              go_wp2_with fail
              refine d27.mono ?_
              rintro r w10 ⟨rfl, hb10⟩
              have HB10 : Hid (Below w8.heap.size w8 w10) := bnext HB9.out hb10
              obtain ⟨_, _, d28⟩ := hTJ w10 HB10.out
              obtain ⟨e26, e27, _⟩ := hTM w10 HB10.out
              clear d27 hb10
              go_wp2_with fail
              refine d28.mono ?_
              rintro r w11 ⟨rfl, hw11⟩
              replace hw11 := hw11.symm
              subst hw11
              clear d28 hTJ
              go_wp2_with fail
              refine e26.mono ?_
              rintro r w11 ⟨rfl, hw11⟩
              replace hw11 := hw11.symm
              subst hw11
              clear e26
              go_wp2_with fail
              refine e27.mono ?_
              rintro r w11 ⟨rfl, hb11⟩
              have HB11 : Hid (Below w8.heap.size w8 w11) := bnext HB10.out hb11
              obtain ⟨_, _, e28⟩ := hTM w11 HB11.out
              clear e27 hb11 hTM
              go_wp2_with fail
              refine e28.mono ?_
              rintro r w12 ⟨rfl, hw12⟩
              replace hw12 := hw12.symm
              subst hw12
              clear e28 eq1 eq2 eq3 eq4
              have HS11 : Hid (OS w w11 (newTo o8 w8 0) db cb jb mb D3 D3 (openJ C bn sn gen) (beginJ C bn sn gen) (.slice a5 gn c5) S (.slice a8 gn c8) S k) := HS8.out.below HB11.out
              have H14 : Calls Try.prog 14 #[.int .i64 (bl : Int)] w11 (fun r w' => r = .returned (.int .i64 (partsI (bl : Int))) ∧ w' = w11) := rparts14 (bl : Int) w11 (by unfold I64; omega)
              clear HS8 HB9 HB10 HB11
              generalize newTo o8 w8 0 = o11 at *
              by_cases h4k : 4000 < bl
              · have e14 : partsI (bl : Int) = 0 := by unfold partsI; rw [if_pos (.inr (by omega))]
                rw [e14] at H14
                have c29 := HS11.out.apj HokJ.out (by omega) HBv.out (by have := HBL.out; omega) (append_long (by rw [← HBL.out]; exact h4k)) (HFd.out.mono (by omega))
                have HM29 : Hid (∀ w' o', OS w w' o' db cb jb mb D3 D3 (openJ C bn sn gen) (beginJ C bn sn gen) (.slice a5 gn c5) S (.slice a8 gn c8) S (k + 84) → Calls Try.prog 29 #[ptr mb, .slice ba bl bcap] w' fun r w'' => r = .returned (.int .i64 3) ∧ Below w.heap.size w w'') := fun w' o' h => by
                  refine (h.apm HokM.out (by omega) HBv.out (by have := HBL.out; omega) (append_long (by rw [← HBL.out]; exact h4k)) (HFd.out.mono (by omega))).mono ?_
                  rintro r w'' ⟨rfl, o'', h''⟩
                  exact ⟨rfl, h''.bel⟩
                clear e14
                go_wp2_with fail
                refine H14.mono ?_
                rintro r w12 ⟨rfl, hw12⟩
                replace hw12 := hw12.symm
                subst hw12
                clear H14
                go_wp2_with fail
                refine c29.mono ?_
                rintro r w13 ⟨rfl, o13, h13⟩
                have c29m := HM29.out w13 o13 h13
                clear c29 h13
                go_wp2_with fail
                refine c29m.mono ?_
                rintro r w14 ⟨rfl, hb14⟩
                replace HBn : Hid (Below w.heap.size w w14) := hb14
                clear c29m hb14
                go_wp2_with (go_at_call 9; go_must (refine (HAl.out _).mono ?_; rintro r wz ⟨rfl, hbz⟩; have HBz : Hid (Below w.heap.size w wz) := bnext HBn.out hbz; clear hbz))
                go_ret
                exact ⟨rfl, HBz.out⟩
              · have e14 : partsI (bl : Int) = (partsN bl : Nat) := partsI_nat (by omega)
                rw [e14] at H14
                have hOJ := opJ HFd.out hbs HG.out HG0.out.1 (by rw [← HCd.out]; exact HR.out.1) (b := b) (by rw [← HBL.out]; omega) HOct.out.1
                have hOM := opM HFd.out hbs HG.out HG0.out.1 (by rw [← HCd.out]; exact HR.out.1) (b := b) (by rw [← HBL.out]; omega) HOct.out.1
                rw [← HCd.out, ← HBL.out, ← HS.out, ← HT.out] at hOJ
                rw [← HCd.out, ← HBL.out] at hOM
                have hpos := partsN_pos bl
                clear e14
                generalize partsN bl = pn at *
                rcases hOJ with ⟨J', D', e1, f1, rm1, more1, hm1'⟩ | ⟨e1, rm1⟩
                · rcases hOM with ⟨M', E', e2, f2, rm2, more2, hm2'⟩ | ⟨e2, rm2⟩
                  · skip
                    have c29 := HS11.out.apj HokJ.out (by omega) HBv.out (by have := HBL.out; omega) e1 f1
                    have HM29 : Hid (∀ w' o', OS w w' o' db cb jb mb D' D3 J' (beginJ C bn sn gen) (.slice a5 gn c5) S (.slice a8 gn c8) S (k + 84) → Calls Try.prog 29 #[ptr mb, .slice ba bl bcap] w' fun r w'' => r = .returned (.int .i64 0) ∧ ∃ o'', OS w w'' o'' db cb jb mb D' E' J' M' (.slice a5 gn c5) S (.slice a8 gn c8) S (k + 84 + 84)) := fun w' o' h => h.apm HokM.out (by omega) HBv.out (by have := HBL.out; omega) e2 (f2.mono (by omega))
                    obtain ⟨ml, hml⟩ : ∃ ml, ml = more1.length := ⟨_, rfl⟩
                    have hlen1 : (scan (cont D' bn sn) gen).1.length = gn + 1 + ml := by rw [hm1', List.length_append, List.length_append, ← HGn.out, hml]; rfl
                    have HD : Hid (∀ w' o', OS w w' o' db cb jb mb D' E' J' M' (.slice a5 gn c5) S (.slice a8 gn c8) S (k + 84 + 84) → Calls Try.prog 25 #[ptr db, .int .i64 (bn : Int), .int .i64 (sn : Int)] w' fun r w'' => ∃ v, r = .returned v ∧ (∃ a n c, v = .slice a n c) ∧ Calls Try.prog 18 #[v, .int .u32 gen] w'' fun r w3 => ∃ bb off c T9 R9 ea ec, r = .returned (.tuple #[.slice (some ⟨bb, off, none⟩) (gn + 1 + ml) c, .int .i64 T9, .int .u32 R9]) ∧ gn + 1 + ml ≤ c ∧ c ≤ 9223372036854775807 ∧ ec ≤ 9223372036854775807 ∧ (∃ o3, OS w w3 o3 db cb jb mb D' E' J' M' (.slice a5 gn c5) S (.slice a8 gn c8) S (k + 84 + 84)) ∧ Calls Try.prog 12 #[.slice (some ⟨bb, off, none⟩) gn c, .slice a8 gn c8] w3 (fun r w4 => r = .returned (.bool true) ∧ Below w3.heap.size w3 w4) ∧ ∀ w4, Below w3.heap.size w3 w4 → w4.cell? ⟨bb, off + gn, none⟩ = some (.slice ea bl ec) ∧ Calls Try.prog 30 #[.slice ea bl ec, .slice ba bl bcap] w4 (fun r w5 => r = .returned (.bool true) ∧ Below w4.heap.size w4 w5)) := fun w' o' h => by
                      refine (sect_scan h.dd h.fd hbs HG.out).mono ?_
                      rintro r w2 ⟨v, rfl, hsl, h18⟩
                      refine ⟨v, rfl, hsl, h18.mono ?_⟩
                      rw [hlen1]
                      generalize (scan (cont D' bn sn) gen).2 = T9 at *
                      generalize latest (cont D' bn sn) gen = R9 at *
                      rintro r w3 ⟨v', rfl, ⟨a', c', rfl, hc1, hc2⟩, ho3, hb3⟩
                      have h3 := h.below hb3
                      rw [hm1'] at ho3
                      have hat : (S ++ [b] ++ more1)[gn]? = some b := by rw [HGn.out]; simp
                      obtain ⟨bb, off, ea, ec, rfl, hec, hsm⟩ := got_same ho3 hat
                      rw [List.append_assoc] at ho3
                      have h12 := got_lists ho3 h3.want (by rw [← HGn.out]; omega)
                      rw [← HGn.out] at h12
                      rw [← HBL.out] at hsm
                      exact ⟨bb, off, c', _, _, ea, ec, rfl, hc1, hc2, hec, ⟨_, h3⟩, h12, fun w4 hb4 => ⟨(hsm w4 hb4).1, (hsm w4 hb4).2 _ (HBv.out.below (bnext h3.bel hb4))⟩⟩
                    obtain ⟨nl, hnl⟩ : ∃ nl, nl = more2.length := ⟨_, rfl⟩
                    have hlen2 : (scan (cont E' bn sn) gen).1.length = nl + 1 := by rw [hm2', List.length_append, hnl, Nat.add_comm]; rfl
                    have HE : Hid (∀ w' o', OS w w' o' db cb jb mb D' E' J' M' (.slice a5 gn c5) S (.slice a8 gn c8) S (k + 84 + 84) → Calls Try.prog 25 #[ptr cb, .int .i64 (bn : Int), .int .i64 (sn : Int)] w' fun r w'' => ∃ v, r = .returned v ∧ (∃ a n c, v = .slice a n c) ∧ Calls Try.prog 18 #[v, .int .u32 gen] w'' fun r w3 => ∃ bb off c T9 R9 ea ec, r = .returned (.tuple #[.slice (some ⟨bb, off, none⟩) (nl + 1) c, .int .i64 T9, .int .u32 R9]) ∧ nl + 1 ≤ c ∧ c ≤ 9223372036854775807 ∧ ec ≤ 9223372036854775807 ∧ Below w.heap.size w w3 ∧ w3.cell? ⟨bb, off, none⟩ = some (.slice ea bl ec) ∧ Calls Try.prog 30 #[.slice ea bl ec, .slice ba bl bcap] w3 (fun r w5 => r = .returned (.bool true) ∧ Below w3.heap.size w3 w5)) := fun w' o' h => by
                      refine (sect_scan h.de h.fe hbs HG.out).mono ?_
                      rintro r w2 ⟨v, rfl, hsl, h18⟩
                      refine ⟨v, rfl, hsl, h18.mono ?_⟩
                      rw [hlen2]
                      generalize (scan (cont E' bn sn) gen).2 = T9 at *
                      generalize latest (cont E' bn sn) gen = R9 at *
                      rintro r w3 ⟨v', rfl, ⟨a', c', rfl, hc1, hc2⟩, ho3, hb3⟩
                      have h3 := h.below hb3
                      rw [hm2'] at ho3
                      obtain ⟨bb, off, ea, ec, rfl, hec, hsm⟩ := got_same (i := 0) (b := b) ho3 rfl
                      rw [← HBL.out] at hsm
                      have h9 := hsm w3 (Below.refl _ _)
                      exact ⟨bb, off, c', _, _, ea, ec, rfl, hc1, hc2, hec, h3.bel, h9.1, h9.2 _ (HBv.out.below h3.bel)⟩
                    clear e1 e2 f1 hm1' hml hlen1 f2 hm2' hnl hlen2
                    go_wp2_with fail
                    refine H14.mono ?_
                    rintro r w12 ⟨rfl, hw12⟩
                    replace hw12 := hw12.symm
                    subst hw12
                    clear H14
                    go_wp2_with fail
                    refine c29.mono ?_
                    rintro r w13 ⟨rfl, o13, h13⟩
                    have c29m := HM29.out w13 o13 h13
                    clear c29 h13
                    go_wp2_with fail
                    refine c29m.mono ?_
                    rintro r w14 ⟨rfl, o14, h14⟩
                    have c25 := HD.out w14 o14 h14
                    clear c29m h14
                    go_wp2_with fail
                    refine c25.mono ?_
                    rintro r w15 ⟨v15, rfl, ⟨a15, n15, c15, hv15⟩, c18⟩
                    subst hv15
                    clear c25
                    go_wp2_with fail
                    refine c18.mono ?_
                    rintro r w16 ⟨gb, go, gc, T9, R9, ea, ec, rfl, hgc1, hgc2, hec, ⟨o16, h16⟩, c12, hsm⟩
                    have HS16 : Hid (∀ w', Below w16.heap.size w16 w' → ∃ o', OS w w' o' db cb jb mb D' E' J' M' (.slice a5 gn c5) S (.slice a8 gn c8) S (k + 84 + 84)) := fun w' hb => ⟨_, h16.below hb⟩
                    have HSm : Hid (∀ w4, Below w16.heap.size w16 w4 → w4.cell? ⟨gb, go + gn, none⟩ = some (.slice ea bl ec) ∧ Calls Try.prog 30 #[.slice ea bl ec, .slice ba bl bcap] w4 (fun r w5 => r = .returned (.bool true) ∧ Below w4.heap.size w4 w5)) := hsm
                    clear c18 h16 hsm
                    go_wp2_with fail
                    refine c12.mono ?_
                    rintro r w17 ⟨rfl, hb17⟩
                    obtain ⟨hcell, c30⟩ := HSm.out w17 hb17
                    have HB17 : Hid (Below w16.heap.size w16 w17) := hb17
                    clear c12 hb17
                    go_wp2_with fail
                    refine c30.mono ?_
                    rintro r w18 ⟨rfl, hb18⟩
                    obtain ⟨o18, h18⟩ := HS16.out w18 (bnext HB17.out hb18)
                    have c25 := HE.out w18 o18 h18
                    clear c30 hb18 h18 hcell
                    go_wp2_with fail
                    refine c25.mono ?_
                    rintro r w19 ⟨v19, rfl, ⟨a19, n19, c19, hv19⟩, c18⟩
                    subst hv19
                    clear c25
                    go_wp2_with fail
                    refine c18.mono ?_
                    rintro r w20 ⟨hb', ho', hc', T10, R10, fa, fc, rfl, hhc1, hhc2, hfc, hb20, hcell, c30⟩
                    have HB20 : Hid (Below w.heap.size w w20) := hb20
                    clear c18 hb20
                    go_wp2_with fail
                    refine c30.mono ?_
                    rintro r w21 ⟨rfl, hb21⟩
                    replace HBn : Hid (Below w.heap.size w w21) := bnext HB20.out hb21
                    clear c30 hb21 hcell
                    go_wp2_with (go_at_call 9; go_must (refine (HAl.out _).mono ?_; rintro r wz ⟨rfl, hbz⟩; have HBz : Hid (Below w.heap.size w wz) := bnext HBn.out hbz; clear hbz))
                    go_ret
                    exact ⟨rfl, HBz.out⟩
                  · omega
                · rcases hOM with ⟨M', E', e2, f2, rm2, more2, hm2'⟩ | ⟨e2, rm2⟩
                  · skip
                    have c29 := HS11.out.apj HokJ.out (by omega) HBv.out (by have := HBL.out; omega) e1 (HFd.out.mono (by omega))
                    have HM29 : Hid (∀ w' o', OS w w' o' db cb jb mb D3 D3 (openJ C bn sn gen) (beginJ C bn sn gen) (.slice a5 gn c5) S (.slice a8 gn c8) S (k + 84) → Calls Try.prog 29 #[ptr mb, .slice ba bl bcap] w' fun r w'' => r = .returned (.int .i64 0) ∧ ∃ o'', OS w w'' o'' db cb jb mb D3 E' (openJ C bn sn gen) M' (.slice a5 gn c5) S (.slice a8 gn c8) S (k + 84 + 84)) := fun w' o' h => h.apm HokM.out (by omega) HBv.out (by have := HBL.out; omega) e2 (f2.mono (by omega))
                    have HD : Hid (∀ w' o', OS w w' o' db cb jb mb D3 E' (openJ C bn sn gen) M' (.slice a5 gn c5) S (.slice a8 gn c8) S (k + 84 + 84) → Calls Try.prog 25 #[ptr db, .int .i64 (bn : Int), .int .i64 (sn : Int)] w' fun r w'' => ∃ v, r = .returned v ∧ (∃ a n c, v = .slice a n c) ∧ Calls Try.prog 18 #[v, .int .u32 gen] w'' fun r w3 => ∃ a n c T9 R9, r = .returned (.tuple #[.slice a n c, .int .i64 T9, .int .u32 R9]) ∧ ∃ o3, OS w w3 o3 db cb jb mb D3 E' (openJ C bn sn gen) M' (.slice a5 gn c5) S (.slice a8 gn c8) S (k + 84 + 84)) := fun w' o' h => by
                      refine (sect_scan h.dd h.fd hbs HG.out).mono ?_
                      rintro r w2 ⟨v, rfl, hsl, h18⟩
                      refine ⟨v, rfl, hsl, h18.mono ?_⟩
                      rintro r w3 ⟨v', rfl, ⟨a', c', rfl, hc1, hc2⟩, ho3, hb3⟩
                      exact ⟨a', _, c', _, _, rfl, _, h.below hb3⟩
                    obtain ⟨nl, hnl⟩ : ∃ nl, nl = more2.length := ⟨_, rfl⟩
                    have hlen2 : (scan (cont E' bn sn) gen).1.length = nl + 1 := by rw [hm2', List.length_append, hnl, Nat.add_comm]; rfl
                    have HE : Hid (∀ w' o', OS w w' o' db cb jb mb D3 E' (openJ C bn sn gen) M' (.slice a5 gn c5) S (.slice a8 gn c8) S (k + 84 + 84) → Calls Try.prog 25 #[ptr cb, .int .i64 (bn : Int), .int .i64 (sn : Int)] w' fun r w'' => ∃ v, r = .returned v ∧ (∃ a n c, v = .slice a n c) ∧ Calls Try.prog 18 #[v, .int .u32 gen] w'' fun r w3 => ∃ bb off c T9 R9 ea ec, r = .returned (.tuple #[.slice (some ⟨bb, off, none⟩) (nl + 1) c, .int .i64 T9, .int .u32 R9]) ∧ nl + 1 ≤ c ∧ c ≤ 9223372036854775807 ∧ ec ≤ 9223372036854775807 ∧ Below w.heap.size w w3 ∧ w3.cell? ⟨bb, off, none⟩ = some (.slice ea bl ec) ∧ Calls Try.prog 30 #[.slice ea bl ec, .slice ba bl bcap] w3 (fun r w5 => r = .returned (.bool true) ∧ Below w3.heap.size w3 w5)) := fun w' o' h => by
                      refine (sect_scan h.de h.fe hbs HG.out).mono ?_
                      rintro r w2 ⟨v, rfl, hsl, h18⟩
                      refine ⟨v, rfl, hsl, h18.mono ?_⟩
                      rw [hlen2]
                      generalize (scan (cont E' bn sn) gen).2 = T9 at *
                      generalize latest (cont E' bn sn) gen = R9 at *
                      rintro r w3 ⟨v', rfl, ⟨a', c', rfl, hc1, hc2⟩, ho3, hb3⟩
                      have h3 := h.below hb3
                      rw [hm2'] at ho3
                      obtain ⟨bb, off, ea, ec, rfl, hec, hsm⟩ := got_same (i := 0) (b := b) ho3 rfl
                      rw [← HBL.out] at hsm
                      have h9 := hsm w3 (Below.refl _ _)
                      exact ⟨bb, off, c', _, _, ea, ec, rfl, hc1, hc2, hec, h3.bel, h9.1, h9.2 _ (HBv.out.below h3.bel)⟩
                    clear e1 e2 f2 hm2' hnl hlen2
                    go_wp2_with fail
                    refine H14.mono ?_
                    rintro r w12 ⟨rfl, hw12⟩
                    replace hw12 := hw12.symm
                    subst hw12
                    clear H14
                    go_wp2_with fail
                    refine c29.mono ?_
                    rintro r w13 ⟨rfl, o13, h13⟩
                    have c29m := HM29.out w13 o13 h13
                    clear c29 h13
                    go_wp2_with fail
                    refine c29m.mono ?_
                    rintro r w14 ⟨rfl, o14, h14⟩
                    have c25 := HD.out w14 o14 h14
                    clear c29m h14
                    go_wp2_with fail
                    refine c25.mono ?_
                    rintro r w15 ⟨v15, rfl, ⟨a15, n15, c15, hv15⟩, c18⟩
                    subst hv15
                    clear c25
                    go_wp2_with fail
                    refine c18.mono ?_
                    rintro r w16 ⟨a16, n16, c16, T9, R9, rfl, o16, h16⟩
                    have c25 := HE.out w16 o16 h16
                    clear c18 h16
                    go_wp2_with fail
                    refine c25.mono ?_
                    rintro r w19 ⟨v19, rfl, ⟨a19, n19, c19, hv19⟩, c18⟩
                    subst hv19
                    clear c25
                    go_wp2_with fail
                    refine c18.mono ?_
                    rintro r w20 ⟨hb', ho', hc', T10, R10, fa, fc, rfl, hhc1, hhc2, hfc, hb20, hcell, c30⟩
                    have HB20 : Hid (Below w.heap.size w w20) := hb20
                    clear c18 hb20
                    go_wp2_with fail
                    refine c30.mono ?_
                    rintro r w21 ⟨rfl, hb21⟩
                    replace HBn : Hid (Below w.heap.size w w21) := bnext HB20.out hb21
                    clear c30 hb21 hcell
                    go_wp2_with (go_at_call 9; go_must (refine (HAl.out _).mono ?_; rintro r wz ⟨rfl, hbz⟩; have HBz : Hid (Below w.heap.size w wz) := bnext HBn.out hbz; clear hbz))
                    go_ret
                    exact ⟨rfl, HBz.out⟩
                  · skip
                    have c29 := HS11.out.apj HokJ.out (by omega) HBv.out (by have := HBL.out; omega) e1 (HFd.out.mono (by omega))
                    have HM29 : Hid (∀ w' o', OS w w' o' db cb jb mb D3 D3 (openJ C bn sn gen) (beginJ C bn sn gen) (.slice a5 gn c5) S (.slice a8 gn c8) S (k + 84) → Calls Try.prog 29 #[ptr mb, .slice ba bl bcap] w' fun r w'' => r = .returned (.int .i64 18) ∧ ∃ o'', OS w w'' o'' db cb jb mb D3 D3 (openJ C bn sn gen) (beginJ C bn sn gen) (.slice a5 gn c5) S (.slice a8 gn c8) S (k + 84 + 84)) := fun w' o' h => h.apm HokM.out (by omega) HBv.out (by have := HBL.out; omega) e2 (HFd.out.mono (by omega))
                    have HD : Hid (∀ w' o', OS w w' o' db cb jb mb D3 D3 (openJ C bn sn gen) (beginJ C bn sn gen) (.slice a5 gn c5) S (.slice a8 gn c8) S (k + 84 + 84) → Calls Try.prog 25 #[ptr db, .int .i64 (bn : Int), .int .i64 (sn : Int)] w' fun r w'' => ∃ v, r = .returned v ∧ (∃ a n c, v = .slice a n c) ∧ Calls Try.prog 18 #[v, .int .u32 gen] w'' fun r w3 => ∃ a n c T9 R9, r = .returned (.tuple #[.slice a n c, .int .i64 T9, .int .u32 R9]) ∧ ∃ o3, OS w w3 o3 db cb jb mb D3 D3 (openJ C bn sn gen) (beginJ C bn sn gen) (.slice a5 gn c5) S (.slice a8 gn c8) S (k + 84 + 84)) := fun w' o' h => by
                      refine (sect_scan h.dd h.fd hbs HG.out).mono ?_
                      rintro r w2 ⟨v, rfl, hsl, h18⟩
                      refine ⟨v, rfl, hsl, h18.mono ?_⟩
                      rintro r w3 ⟨v', rfl, ⟨a', c', rfl, hc1, hc2⟩, ho3, hb3⟩
                      exact ⟨a', _, c', _, _, rfl, _, h.below hb3⟩
                    have HE : Hid (∀ w' o', OS w w' o' db cb jb mb D3 D3 (openJ C bn sn gen) (beginJ C bn sn gen) (.slice a5 gn c5) S (.slice a8 gn c8) S (k + 84 + 84) → Calls Try.prog 25 #[ptr cb, .int .i64 (bn : Int), .int .i64 (sn : Int)] w' fun r w'' => ∃ v, r = .returned v ∧ (∃ a n c, v = .slice a n c) ∧ Calls Try.prog 18 #[v, .int .u32 gen] w'' fun r w3 => ∃ a n c T9 R9, r = .returned (.tuple #[.slice a n c, .int .i64 T9, .int .u32 R9]) ∧ Below w.heap.size w w3) := fun w' o' h => by
                      refine (sect_scan h.de h.fe hbs HG.out).mono ?_
                      rintro r w2 ⟨v, rfl, hsl, h18⟩
                      refine ⟨v, rfl, hsl, h18.mono ?_⟩
                      rintro r w3 ⟨v', rfl, ⟨a', c', rfl, hc1, hc2⟩, ho3, hb3⟩
                      exact ⟨a', _, c', _, _, rfl, bnext h.bel hb3⟩
                    clear e1 e2
                    go_wp2_with fail
                    refine H14.mono ?_
                    rintro r w12 ⟨rfl, hw12⟩
                    replace hw12 := hw12.symm
                    subst hw12
                    clear H14
                    go_wp2_with fail
                    refine c29.mono ?_
                    rintro r w13 ⟨rfl, o13, h13⟩
                    have c29m := HM29.out w13 o13 h13
                    clear c29 h13
                    go_wp2_with fail
                    refine c29m.mono ?_
                    rintro r w14 ⟨rfl, o14, h14⟩
                    have c25 := HD.out w14 o14 h14
                    clear c29m h14
                    go_wp2_with fail
                    refine c25.mono ?_
                    rintro r w15 ⟨v15, rfl, ⟨a15, n15, c15, hv15⟩, c18⟩
                    subst hv15
                    clear c25
                    go_wp2_with fail
                    refine c18.mono ?_
                    rintro r w16 ⟨a16, n16, c16, T9, R9, rfl, o16, h16⟩
                    have c25 := HE.out w16 o16 h16
                    clear c18 h16
                    go_wp2_with fail
                    refine c25.mono ?_
                    rintro r w19 ⟨v19, rfl, ⟨a19, n19, c19, hv19⟩, c18⟩
                    subst hv19
                    clear c25
                    go_wp2_with fail
                    refine c18.mono ?_
                    rintro r w20 ⟨a20, n20, c20, T10, R10, rfl, hb20⟩
                    replace HBn : Hid (Below w.heap.size w w20) := hb20
                    clear c18 hb20
                    go_wp2_with (go_at_call 9; go_must (refine (HAl.out _).mono ?_; rintro r wz ⟨rfl, hbz⟩; have HBz : Hid (Below w.heap.size w wz) := bnext HBn.out hbz; clear hbz))
                    go_ret
                    exact ⟨rfl, HBz.out⟩
end Go.Proofs.Ytngmgdngimnljaa
