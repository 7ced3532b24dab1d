/-
  The walk of JournalGens: records of another gen are none; a journal that is made anew has none of those ahead.
-/
import Derived.Test.YtngmgdngimnljaaLawCrash
import Derived.Test.YtngmgdngimnljaaGnI
import Derived.BigQuiet
namespace Go.Proofs.Ytngmgdngimnljaa
set_option linter.unusedVariables false
set_option linter.unusedSimpArgs false
set_option synthInstance.maxSize 20000
set_option maxHeartbeats 4000000
set_option maxRecDepth 20000
open Go.RowKit Go.Maps

section
variable {P : Program} {C : World → Prop} {Q : Exit → Act → World → Prop} {a : Act} {w : World} {l : List Oper} {i : Nat} {o : Oper} {r : List (Bool × Nat)}
/-- A step whose guard is shut. -/
theorem ord_shut (hi : l[i]? = some o) (hw : Region.wanted o (yielded l.toArray a.tmps) = false) (h : wpQuiet P l.toArray C (fun a' => wpOrd P l.toArray C Q (pickOrd l r) a' w) [o] a) : wpOrd P l.toArray C Q (pickOrd l ((false, i) :: r)) a w := by
  rw [pickOrd_cons hi]
  show stepOp P l.toArray C false o (wpOrd P l.toArray C Q (pickOrd l r)) a w
  unfold stepOp
  rw [if_neg (by simp)]
  unfold wpQuiet at h
  rw [if_neg (by rw [hw]; simp)] at h
  exact ⟨undef, .inr ⟨hw, rfl⟩, h⟩
end

theorem parts5 {n : Nat} (h : n ≤ 200) : partsN n ≤ 5 := by unfold partsN; split <;> omega
/-- What the law looks at first: no record is too long. -/
def Fit (xs bs : List VB) (k : Nat) : Prop := (∀ j q, j < k → xs[j]? = some q → q.2.length ≤ 200) ∧ (∀ j q, xs.length + j < k → bs[j]? = some q → q.2.length ≤ 200)
theorem fit_zero (xs bs : List VB) : Fit xs bs 0 := ⟨fun j q hj => by omega, fun j q hj => by omega⟩
theorem Fit.a {xs bs : List VB} {k : Nat} {q : VB} (h : Fit xs bs k) (hq : xs[k]? = some q) (hl : q.2.length ≤ 200) : Fit xs bs (k + 1) := by
  have hk := (List.getElem?_eq_some_iff.1 hq).1
  refine ⟨fun j q' hj hq' => ?_, fun j q' hj hq' => h.2 j q' (by omega) hq'⟩
  by_cases e : j = k
  · subst e
    rw [hq] at hq'
    cases hq'
    exact hl
  · exact h.1 j q' (by omega) hq'
theorem Fit.b {xs bs : List VB} {k jj : Nat} {q : VB} (h : Fit xs bs k) (hk : k = xs.length + jj) (hq : bs[jj]? = some q) (hl : q.2.length ≤ 200) : Fit xs bs (k + 1) := by
  refine ⟨fun j q' hj hq' => ?_, fun j q' hj hq' => ?_⟩
  · have := (List.getElem?_eq_some_iff.1 hq').1
    exact h.1 j q' (by omega) hq'
  · by_cases e : j = jj
    · subst e
      rw [hq] at hq'
      cases hq'
      exact hl
    · exact h.2 j q' (by omega) hq'

theorem gens_walk (av : Value) (xs : List VB) (bv : Value) (bs : List VB) (armed : Int) (kv : Value) (ks : List Bool) (same : Bool) (w : World) (hav : RL w av xs) (hbv : RL w bv bs) (harm : I64 armed) (hkv : RowF bc w kv ks) : Calls Try.prog 7 #[av, bv, .int .i64 armed, kv, .bool same] w fun r w' => r = .returned (.bool true) ∧ Below w.heap.size w w' := by
  obtain ⟨aa, ac, rfl⟩ := hav.len
  obtain ⟨ba, bc', rfl⟩ := hbv.len
  obtain ⟨ka, kc, rfl⟩ := hkv.len
  have hacap := hav.row.caps
  have hbcap := hbv.row.caps
  have hkcap := hkv.caps
  obtain ⟨m0, m1⟩ := harm
  have HAl : Hid (∀ w, Calls Try.prog 9 #[] w fun r w' => r = .returned (.bool true) ∧ Below w.heap.size w w') := alive9
  have HBn : Hid (Below w.heap.size w w) := Below.refl _ _
  have HAv : Hid (RL w (.slice aa xs.length ac) xs) := hav
  have HBv : Hid (RL w (.slice ba bs.length bc') bs) := hbv
  have HKv : Hid (RowF bc w (.slice ka ks.length kc) ks) := hkv
  obtain ⟨la, hla⟩ : ∃ la, la = xs.length := ⟨_, rfl⟩
  obtain ⟨lb, hlb⟩ : ∃ lb, lb = bs.length := ⟨_, rfl⟩
  obtain ⟨lk, hlk⟩ : ∃ lk, lk = ks.length := ⟨_, rfl⟩
  have HLA : Hid (la = xs.length) := hla
  have HLB : Hid (lb = bs.length) := hlb
  have ha1 : la ≤ ac := by rw [hla]; exact hacap.2.1
  have ha2 : ac ≤ 9223372036854775807 := hacap.2.2
  have hb1 : lb ≤ bc' := by rw [hlb]; exact hbcap.2.1
  have hb2 : bc' ≤ 9223372036854775807 := hbcap.2.2
  have hk1 : lk ≤ kc := by rw [hlk]; exact hkcap.2.1
  have hk2 : kc ≤ 9223372036854775807 := hkcap.2.2
  rw [← hla] at HAv ⊢
  rw [← hlb] at HBv ⊢
  rw [← hlk] at HKv ⊢
  clear hav hbv hkv hacap hbcap hkcap hla hlb hlk
  by_cases h12a : 12 < la
  · go_enter Try.func7, Try.ntmps7
    go_wp2_with (go_at_call 9; go_must (refine (HAl.out _).mono ?_; rintro r wz ⟨rfl, hbz⟩; have HBz : Hid (Below w.heap.size w wz) := bnext HBn.out hbz; clear hbz))
    go_ret
    exact ⟨rfl, HBz.out⟩
  · by_cases h12b : 12 < lb
    · go_enter Try.func7, Try.ntmps7
      go_wp2_with (go_at_call 9; go_must (refine (HAl.out _).mono ?_; rintro r wz ⟨rfl, hbz⟩; have HBz : Hid (Below w.heap.size w wz) := bnext HBn.out hbz; clear hbz))
      go_ret
      exact ⟨rfl, HBz.out⟩
    · by_cases h60 : 60 < lk
      · go_enter Try.func7, Try.ntmps7
        go_wp2_with (go_at_call 9; go_must (refine (HAl.out _).mono ?_; rintro r wz ⟨rfl, hbz⟩; have HBz : Hid (Below w.heap.size w wz) := bnext HBn.out hbz; clear hbz))
        go_ret
        exact ⟨rfl, HBz.out⟩
      · obtain ⟨db, hdb⟩ : ∃ db, db = w.heap.size + 2 := ⟨_, rfl⟩
        have H19 := js0_new w
        rw [← hdb] at H19
        have H19' : Hid (Calls Try.prog 19 #[.int .i64 60] w fun r w' => r = .returned (.tuple #[ptr db, .int .i64 0]) ∧ ∃ o', JS0 w w' o' db (newD 60) 0) := H19
        have HO1 : Hid (∀ w1 o1, JS0 w w1 o1 db (newD 60) 0 → Calls Try.prog 23 #[ptr db, .int .i64 0, .int .i64 60, .int .u32 7] w1 fun r w' => ∃ jb v, r = .returned (.tuple #[ptr jb, v, .int .i64 0]) ∧ (∃ a n c, v = .slice a n c) ∧ ∃ o', JSt w w' o' db jb (newD 60) (openJ (cont (newD 60) 0 60) 0 60 7) (.slice none 0 0) [] 0) := fun w1 o1 h1 => by
          refine (h1.open (base := 0) (size := 60) (gen := 7) (by unfold U32; omega) (wrong_clean (new_clean 60) (by simp [newD]) (by omega) (by omega) 7 (by omega)) (by rw [new_late]; omega)).mono ?_
          rintro r w' ⟨jb, v, rfl, o', st, kl⟩
          obtain ⟨a, c, e, _⟩ := kl.slice
          exact ⟨jb, v, rfl, ⟨a, _, c, e⟩, o', st⟩
        clear H19 hdb
        cases same
        · skip
          go_enter Try.func7, Try.ntmps7
          go_wp2
          go_loopw [11] (fun kv wr => ∃ (k : Nat), k ≤ la + lb ∧ kv = .int .i64 k ∧ Hid (Fit xs bs k ∧ wr = w)) (fun kv _ => la + lb - (intOf kv).toNat)
          case atStart => exact ⟨0, Nat.zero_le _, rfl, fit_zero xs bs, rfl⟩
          case round =>
            obtain ⟨k, hk, rfl, hF⟩ := hrel
            have hwr := hF.out.2.symm
            subst hwr
            by_cases hlt : k < la
            · obtain ⟨q, hq⟩ : ∃ q, xs[k]? = some q := ⟨_, List.getElem?_eq_getElem (by rw [← HLA.out]; exact hlt)⟩
              obtain ⟨ab, ao, ea, hcell⟩ := HAv.out.at hq
              subst ea
              obtain ⟨qa, qc, hqv⟩ := (HAv.out.rd q (List.mem_of_getElem? hq)).len
              have hqr := HAv.out.rd q (List.mem_of_getElem? hq)
              rw [hqv] at hcell hqr
              have hqc := hqr.cap
              by_cases h2 : 200 < q.2.length
              · generalize q.2.length = ql at *
                clear hqr hqv hq
                go_wp2_with (go_at_call 9; go_must (refine (HAl.out _).mono ?_; rintro r wz ⟨rfl, hbz⟩; have HBz : Hid (Below w.heap.size w wz) := bnext HBn.out hbz; clear hbz))
                go_ret
                exact ⟨rfl, HBz.out⟩
              · have HF2 : Hid (Fit xs bs (k + 1) ∧ True) := ⟨hF.out.1.a hq (by omega), trivial⟩
                generalize q.2.length = ql at *
                clear hqr hqv hq
                go_wp2
                go_roundw
                case rel => exact ⟨k + 1, by omega, by go_num, HF2⟩
                case measure => simp [intOf]; omega
            · by_cases hlt2 : k < la + lb
              · obtain ⟨jj, hjj⟩ : ∃ jj, k = la + jj := ⟨k - la, by omega⟩
                have hji : (k : Int) - (la : Int) = (jj : Int) := by omega
                have hjl : jj < lb := by omega
                obtain ⟨q, hq⟩ : ∃ q, bs[jj]? = some q := ⟨_, List.getElem?_eq_getElem (by rw [← HLB.out]; exact hjl)⟩
                obtain ⟨bb, bo, eb, hcell⟩ := HBv.out.at hq
                subst eb
                obtain ⟨qa, qc, hqv⟩ := (HBv.out.rd q (List.mem_of_getElem? hq)).len
                have hqr := HBv.out.rd q (List.mem_of_getElem? hq)
                rw [hqv] at hcell hqr
                have hqc := hqr.cap
                by_cases h2 : 200 < q.2.length
                · generalize q.2.length = ql at *
                  clear hqr hqv hq hjj
                  go_wp2_with (go_at_call 9; go_must (refine (HAl.out _).mono ?_; rintro r wz ⟨rfl, hbz⟩; have HBz : Hid (Below w.heap.size w wz) := bnext HBn.out hbz; clear hbz))
                  go_ret
                  exact ⟨rfl, HBz.out⟩
                · have HF2 : Hid (Fit xs bs (k + 1) ∧ True) := ⟨hF.out.1.b (by rw [← HLA.out]; exact hjj) hq (by omega), trivial⟩
                  generalize q.2.length = ql at *
                  clear hqr hqv hq hjj
                  go_wp2
                  go_roundw
                  case rel => exact ⟨k + 1, by omega, by go_num, HF2⟩
                  case measure => simp [intOf]; omega
              · obtain rfl : k = la + lb := by omega
                have HFa : Hid (∀ (j : Nat) (q : VB), xs[j]? = some q → q.2.length ≤ 200) := fun j q hq => hF.out.1.1 j q (by have := (List.getElem?_eq_some_iff.1 hq).1; rw [← HLA.out] at this; omega) hq
                have HFb : Hid (∀ (j : Nat) (q : VB), bs[j]? = some q → q.2.length ≤ 200) := fun j q hq => hF.out.1.2 j q (by have := (List.getElem?_eq_some_iff.1 hq).1; rw [← HLA.out]; rw [← HLB.out] at this; omega) hq
                clear hF hlt hlt2 hk
                go_wp2_with (first
                  | (go_at_call 19; go_must (refine H19'.out.mono ?_; rintro r w2 ⟨rfl, o2, h2⟩; have HC := HO1.out w2 o2 h2; clear h2))
                  | (go_at_call 23; go_must (refine HC.mono ?_; rintro r w3 ⟨jb3, v3, rfl, ⟨a3, n3, c3, hv3⟩, o3, h3⟩; subst hv3; have HS3 : Hid (JSt w w3 o3 db jb3 (newD 60) (openJ (cont (newD 60) 0 60) 0 60 7) (.slice none 0 0) [] 0) := h3; clear h3)))
                clear HC
                go_loopw [17] (fun iv wr => ∃ (k : Nat) (o' : Nat → Nat) (D : Dk) (J : Jk), k ≤ la ∧ iv = .int .i64 k ∧ Hid (JSt w wr o' db jb3 D J (.slice none 0 0) [] (5 * k) ∧ GI1 D J)) (fun iv _ => la - (intOf iv).toNat)
                case atStart => exact ⟨0, o3, newD 60, _, Nat.zero_le _, rfl, HS3.out, gi1_start⟩
                case round =>
                  obtain ⟨k, o', D, J, hk, rfl, hK⟩ := hrel
                  by_cases hlt : k < la
                  · obtain ⟨q, hq⟩ : ∃ q, xs[k]? = some q := ⟨_, List.getElem?_eq_getElem (by rw [← HLA.out]; exact hlt)⟩
                    have hl2 := HFa.out k q hq
                    have hrl := HAv.out
                    obtain ⟨ab, ao, ea, hcell⟩ := (hrl.below hK.out.1.bel).at hq
                    have hqr := hrl.rd q (List.mem_of_getElem? hq)
                    subst ea
                    obtain ⟨qa, qc, hqv⟩ := hqr.len
                    rw [hqv] at hcell hqr
                    have hp5 := parts5 hl2
                    have hApp := hK.out.1.append hK.out.2.ok (by omega) hqr (by omega)
                    have HApp : Hid (Calls Try.prog 29 #[ptr jb3, .slice qa q.2.length qc] wr fun r w' => r = .returned (.int .i64 (J.append D q.2).1) ∧ ∃ o', JSt w w' o' db jb3 (J.append D q.2).2.2 (J.append D q.2).2.1 (.slice none 0 0) [] (5 * k + partsN q.2.length)) := hApp
                    have HG2 : Hid (GI1 (J.append D q.2).2.2 (J.append D q.2).2.1) := hK.out.2.append (by omega) hqr.oct
                    generalize hqq : q.2.length = ql at *
                    generalize J.append D q.2 = X at *
                    generalize partsN ql = pq at *
                    clear hApp hqr hqv hq hK hrl hqq
                    go_wp2_with (go_at_call 29; go_must (refine HApp.out.mono ?_; rintro r w4 ⟨rfl, o4, h4⟩; have HS4 : Hid (JSt w w4 o4 db jb3 X.2.2 X.2.1 (.slice none 0 0) [] (5 * k + pq)) := h4; clear h4))
                    go_roundw
                    case rel => exact ⟨k + 1, o4, X.2.2, X.2.1, by omega, by go_num, HS4.out.mono (by omega), HG2.out⟩
                    case measure => simp [intOf]; omega
                  · obtain rfl : k = la := by omega
                    have HS5 : Hid (JSt w wr o' db jb3 D J (.slice none 0 0) [] 60) := hK.out.1.mono (by omega)
                    have HG5 : Hid (GI1 D J) := hK.out.2
                    have HOp8 : Hid (Calls Try.prog 23 #[ptr db, .int .i64 0, .int .i64 60, .int .u32 8] wr fun r w' => ∃ jb v, r = .returned (.tuple #[ptr jb, v, .int .i64 0]) ∧ (∃ a c, v = .slice a 0 c) ∧ ∃ o' J', JSt w w' o' db jb D J' (.slice none 0 0) [] 60) := by
                      refine (HS5.out.open (base := 0) (size := 60) (gen := 8) (by unfold U32; omega) (wrong_clean HG5.out.cl HG5.out.len (by omega) (by omega) 8 (by omega)) (by have := HG5.out.late 8; omega)).mono ?_
                      rintro r w' ⟨jb, v, rfl, o', st, kl⟩
                      rw [HG5.out.scan8] at kl
                      obtain ⟨a, c, e, _⟩ := kl.slice
                      exact ⟨jb, v, rfl, ⟨a, c, e⟩, o', _, st⟩
                    have HCre : Hid (∀ w1 o1 jb J', JSt w w1 o1 db jb D J' (.slice none 0 0) [] 60 → Calls Try.prog 24 #[ptr db, .int .i64 0, .int .i64 60, .int .u32 8] w1 fun r w' => ∃ jb', r = .returned (.tuple #[ptr jb', .int .i64 0]) ∧ ∃ o', JSt w w' o' db jb' D (beginJ (cont D 0 60) 0 60 8) (.slice none 0 0) [] 60) := fun w1 o1 jb J' h1 => h1.create (base := 0) (size := 60) (gen := 8) (by unfold U32; omega) (wrong_clean HG5.out.cl HG5.out.len (by omega) (by omega) 8 (by omega)) (by have := HG5.out.late 8; omega)
                    have HG6 : Hid (GI4 D (beginJ (cont D 0 60) 0 60 8) (LL []) 8) := HG5.out.create (by omega)
                    generalize beginJ (cont D 0 60) 0 60 8 = J6 at *
                    clear hK HS5 HG5 hlt hk
                    by_cases ham : 0 ≤ armed
                    · skip
                      go_wp2_with (first
                        | (go_at_call 23; go_must (refine HOp8.out.mono ?_; rintro r w4 ⟨jb4, v4, rfl, ⟨a4, c4, hv4⟩, o4, J4, h4⟩; subst hv4; have HC5 := HCre.out w4 o4 jb4 J4 h4; clear h4))
                        | (go_at_call 24; go_must (refine HC5.mono ?_; rintro r w5 ⟨jb5, rfl, o5, h5⟩; have HS5 : Hid (JSt w w5 o5 db jb5 D J6 (.slice none 0 0) [] 60) := h5; clear h5 HC5)))
                      have HArm : Hid (Calls Try.prog 32 #[ptr db, .int .i64 armed] w5 fun r w' => ∃ c, r = .returned (.int .i64 c) ∧ ∃ o', JSt w w' o' db jb5 (D.arm armed).2 J6 (.slice none 0 0) [] 60) := HS5.out.arm armed m1
                      have HG7 : Hid (GI4 (D.arm armed).2 J6 (LL []) 8) := HG6.out.arm armed
                      clear HS5 HG6 HOp8 HCre
                      generalize (D.arm armed).2 = D7 at *
                      go_wp2_with (go_at_call 32; go_must (refine HArm.out.mono ?_; rintro r w7 ⟨c7, rfl, o7, h7⟩; have HS7 : Hid (JSt w w7 o7 db jb5 D7 J6 (.slice none 0 0) [] 60) := h7; clear h7))
                      clear HArm
                      generalize wr = wold at *
                      go_loopw [23, 24] (fun wv iv wr => ∃ (k : Nat) (o' : Nat → Nat) (D : Dk) (J : Jk) (ws : List VB) (wa : Option Addr) (wn wc : Nat), k ≤ lb ∧ iv = .int .i64 k ∧ wv = .slice wa wn wc ∧ Hid (wn = ws.length ∧ JSt w wr o' db jb5 D J (.slice wa wn wc) ws (60 + 5 * k) ∧ GI4 D J (LL ws) 8)) (fun _ iv _ => lb - (intOf iv).toNat)
                      case atStart => exact ⟨0, o7, D7, J6, [], none, 0, 0, Nat.zero_le _, rfl, rfl, rfl, HS7.out, HG7.out⟩
                      case round =>
                        obtain ⟨k, o', D, J, ws, wa, wn, wc, hk, rfl, rfl, hK⟩ := hrel
                        have HWN : Hid (wn = ws.length) := hK.out.1
                        have HS : Hid (JSt w wr o' db jb5 D J (.slice wa wn wc) ws (60 + 5 * k)) := hK.out.2.1
                        have HG : Hid (GI4 D J (LL ws) 8) := hK.out.2.2
                        have hwl : wn ≤ 60 := by
                          have h1 := HG.out.ok.cc
                          have h2 := HG.out.ok.nf
                          have h3 := HG.out.fin
                          have h4 := HG.out.cnt
                          rw [LL_len, ← HWN.out] at h4
                          omega
                        obtain ⟨wa', wc', hwa, hwc1, hwc2⟩ := slice_of_own HS.out.wnt.own
                        obtain ⟨rfl, hx9, rfl⟩ : wa = wa' ∧ wn = ws.length ∧ wc = wc' := by simpa using hwa
                        rw [← HWN.out] at hwc1
                        clear hwa hx9 hK
                        by_cases hlt : k < lb
                        · obtain ⟨q, hq⟩ : ∃ q, bs[k]? = some q := ⟨_, List.getElem?_eq_getElem (by rw [← HLB.out]; exact hlt)⟩
                          have hl2 := HFb.out k q hq
                          have hrl := HBv.out
                          obtain ⟨bb, bo, eb, hcell0⟩ := hrl.at hq
                          have hqr := hrl.rd q (List.mem_of_getElem? hq)
                          subst eb
                          obtain ⟨qa, qc, hqv⟩ := hqr.len
                          rw [hqv] at hcell0 hqr
                          have hp5 := parts5 hl2
                          have hqc := hqr.cap
                          have HCell : Hid (∀ w', Below w.heap.size w w' → w'.cell? ⟨bb, bo + k, none⟩ = some (.slice qa q.2.length qc)) := fun w' hb => (hb.cell (World.block_lt_of_cell? w _ hcell0)).trans hcell0
                          have HApp : Hid (Calls Try.prog 29 #[ptr jb5, .slice qa q.2.length qc] wr fun r w' => r = .returned (.int .i64 (J.append D q.2).1) ∧ ∃ o', JSt w w' o' db jb5 (J.append D q.2).2.2 (J.append D q.2).2.1 (.slice wa wn wc) ws (60 + 5 * k + partsN q.2.length)) := HS.out.append HG.out.ok (by omega) hqr (by omega)
                          have hCs := HG.out.cases (b := q.2) (by omega) hqr.oct
                          have HQr : Hid (Rd w (.slice qa q.2.length qc) q.2) := hqr
                          have hx := HCell.out wr HS.out.bel
                          clear hcell0 hqv hq hrl hqr
                          generalize hqq : q.2.length = ql at *
                          generalize q.2 = qb at *
                          generalize J.append D qb = X at *
                          generalize partsN ql = pq at *
                          clear hqq HS
                          rcases hCs with ⟨e0, g0⟩ | ⟨e18, hdn⟩ | ⟨e19, hdn, hre⟩
                          · rw [e0] at HApp
                            have HG8 : Hid (GI4 X.2.2 X.2.1 (LL ws ++ [qb]) 8) := g0
                            clear e0 g0
                            go_wp2_with fail
                            refine HApp.out.mono ?_
                            rintro r w8 ⟨rfl, o8, h8⟩
                            have hx8 := HCell.out w8 h8.bel
                            have HS8 : Hid (JSt w w8 o8 db jb5 X.2.2 X.2.1 (.slice wa wn wc) ws (60 + 5 * k + pq)) := h8
                            have HRow8 : Hid ((w8.alloc (.cells #[.slice qa ql qc] 23)).ownsRow 0 23 1 (.slice wa wn wc) ws.length (flat lc ws)) := h8.wnt.own.alloc _
                            clear h8 HApp hx
                            go_wp2_with (at_builtin; go_must (refine wpList_append_rows ty25 lc_len (by omega) rfl (.tmp 141) (.tmp 146) rfl _ ws rfl HRow8.out _ [(.slice qa ql qc, qb)] rfl (rowF_one (f := lc) w8 (.slice qa ql qc, qb) 23) (flat_lc_one _ (fun q hq => by simp at hq; subst hq; rfl)) (by have := HWN.out; simp; omega) ?_; intro v9 w9 k1 k2 k3; obtain ⟨o9, h9⟩ := HS8.out.more HQr.out k1 k2 k3; obtain ⟨a9, c9, hv9, hc91, hc92⟩ := slice_of_own k1; rw [len_snoc HWN.out.symm] at hv9; subst hv9; have HS9 : Hid (JSt w w9 o9 db jb5 X.2.2 X.2.1 (.slice a9 (wn + 1) c9) (ws ++ [(.slice qa ql qc, qb)]) (60 + 5 * k + pq)) := h9; clear k1 k2 k3 h9))
                            go_roundw
                            case rel => exact ⟨k + 1, o9, X.2.2, X.2.1, ws ++ [(.slice qa ql qc, qb)], a9, wn + 1, c9, by omega, by go_num, rfl, (len_snoc HWN.out.symm).symm, HS9.out.mono (by omega), by rw [LL_snoc]; exact HG8.out⟩
                            case measure => simp [intOf]; omega
                          · rw [e18] at HApp
                            have HDn : Hid (∀ w' o', JSt w w' o' db jb5 X.2.2 X.2.1 (.slice wa wn wc) ws (60 + 5 * k + pq) → Calls Try.prog 33 #[ptr db] w' (fun r w'' => r = .returned (.bool false) ∧ w'' = w') ∧ Below w.heap.size w w') := fun w' o' h => by
                              have h9 := h.down
                              rw [hdn] at h9
                              exact ⟨h9, h.bel⟩
                            clear e18 hdn
                            go_wp2_with fail
                            refine HApp.out.mono ?_
                            rintro r w8 ⟨rfl, o8, h8⟩
                            obtain ⟨HC8, hb8⟩ := HDn.out w8 o8 h8
                            have HBn : Hid (Below w.heap.size w w8) := hb8
                            clear h8 HApp hx hb8
                            go_wp2_with fail
                            refine HC8.mono ?_
                            rintro r w9 ⟨rfl, hw9⟩
                            replace hw9 := hw9.symm
                            subst hw9
                            go_wp2_with (go_at_call 9; go_must (refine (HAl.out _).mono ?_; rintro r wz ⟨rfl, hbz⟩; have HBz : Hid (Below w.heap.size w wz) := bnext HBn.out hbz; clear hbz))
                            go_ret
                            exact ⟨rfl, HBz.out⟩
                          · rw [e19] at HApp
                            have HDn : Hid (∀ w' o', JSt w w' o' db jb5 X.2.2 X.2.1 (.slice wa wn wc) ws (60 + 5 * k + pq) → Calls Try.prog 33 #[ptr db] w' (fun r w'' => r = .returned (.bool true) ∧ w'' = w') ∧ Below w.heap.size w w' ∧ Calls Try.prog 34 #[ptr db, .slice ka lk kc] w' (fun r w'' => r = .returned (.int .i64 0) ∧ ∃ o'', JSt w w'' o'' db jb5 (X.2.2.restart ks) X.2.1 (.slice wa wn wc) ws (60 + 5 * k + pq))) := fun w' o' h => by
                              have h9 := h.down
                              rw [hdn] at h9
                              exact ⟨h9, h.bel, h.restart (by omega) HKv.out⟩
                            obtain ⟨rcl, rlen, rlate, ⟨more, rmore⟩, r8⟩ := hre ks
                            have HOp : Hid (∀ w' o', JSt w w' o' db jb5 (X.2.2.restart ks) X.2.1 (.slice wa wn wc) ws (60 + 5 * k + pq) → Calls Try.prog 23 #[ptr db, .int .i64 0, .int .i64 60, .int .u32 8] w' fun r w'' => ∃ jb' v, r = .returned (.tuple #[ptr jb', v, .int .i64 0]) ∧ ∃ ga gc, v = .slice ga (wn) gc ∧ wn ≤ gc ∧ gc ≤ 9223372036854775807 ∧ Calls Try.prog 12 #[.slice ga wn gc, .slice wa wn wc] w'' (fun r w3 => r = .returned (.bool true) ∧ Below w.heap.size w w3)) := fun w' o' h => by
                              refine (h.open (base := 0) (size := 60) (gen := 8) (by unfold U32; omega) (wrong_clean rcl rlen (by omega) (by omega) 8 (by omega)) (by omega)).mono ?_
                              rintro r w'' ⟨jb', v, rfl, o2, st, kl⟩
                              rw [rmore] at kl
                              obtain ⟨a2, c2, e2, e3, e4⟩ := kl.slice
                              have el : (LL ws ++ more).length = wn := by
                                have hm : more = [] := by
                                  have h1 := r8 rfl
                                  rw [rmore] at h1
                                  simpa using h1
                                rw [hm, List.append_nil, LL_len, ← HWN.out]
                              rw [el] at e2 e3
                              refine ⟨jb', v, rfl, a2, c2, e2, e3, e4, ?_⟩
                              obtain ⟨qs, q1, q2⟩ := kl
                              have hql : qs.length = wn := by rw [← LL_len, q2, el]
                              have h12 := lists12 (rl_take (n := wn) (w := w'') (a := a2) (cap := c2) (qs := qs) (by rw [hql, ← e2]; exact q1.rl) (by omega)) st.wnt.rl (by rw [List.length_take]; omega)
                              have ht : LL (qs.take wn) = LL ws := by rw [LL_take, q2, List.take_left' (by rw [LL_len, ← HWN.out])]
                              rw [ht, decide_eq_true rfl] at h12
                              refine h12.mono ?_
                              rintro r w3 ⟨rfl, hb3⟩
                              exact ⟨rfl, bnext st.bel hb3⟩
                            clear e19 hdn hre rcl rlen rlate rmore r8
                            go_wp2_with fail
                            refine HApp.out.mono ?_
                            rintro r w8 ⟨rfl, o8, h8⟩
                            obtain ⟨HC8, hb8, hR8⟩ := HDn.out w8 o8 h8
                            have HBn : Hid (Below w.heap.size w w8) := hb8
                            clear h8 HApp hx hb8
                            go_wp2_with fail
                            refine HC8.mono ?_
                            rintro r w9 ⟨rfl, hw9⟩
                            replace hw9 := hw9.symm
                            subst hw9
                            clear HC8
                            by_cases hw0 : wn = 0
                            · have hw0' : ((wn : Int) == 0) = true := by simp [hw0]
                              clear hw0
                              go_wp2_with (go_at_call 9; go_must (refine (HAl.out _).mono ?_; rintro r wz ⟨rfl, hbz⟩; have HBz : Hid (Below w.heap.size w wz) := bnext HBn.out hbz; clear hbz))
                              go_ret
                              exact ⟨rfl, HBz.out⟩
                            · have hw0' : ((wn : Int) == 0) = false := by simpa using hw0
                              clear hw0
                              go_wp2_with fail
                              refine hR8.mono ?_
                              rintro r w9 ⟨rfl, o9, h9⟩
                              have HC9 := HOp.out w9 o9 h9
                              clear h9 hR8
                              go_wp2_with fail
                              refine HC9.mono ?_
                              rintro r w10 ⟨jb10, v10, rfl, ga, gc, hv10, hg1, hg2, hC10⟩
                              subst hv10
                              have HC10 : Hid (Calls Try.prog 12 #[.slice ga wn gc, .slice wa wn wc] w10 (fun r w3 => r = .returned (.bool true) ∧ Below w.heap.size w w3)) := hC10
                              clear hC10 HC9
                              go_wp2_with fail
                              refine HC10.out.mono ?_
                              rintro r w11 ⟨rfl, hb11⟩
                              replace HBn : Hid (Below w.heap.size w w11) := hb11
                              clear hb11
                              have heq : ((wn : Int) == (wn : Int)) = true := by simp
                              go_wp2_with fail
                              refine wp_region_ord (C := fun w' => ∃ z : WIn (fun w' => Below w11.heap.size w11 w'), w' = z.w) [(false, 0), (false, 1), (false, 2), (false, 3), (false, 4), (false, 5), (false, 6), (false, 7), (false, 8), (false, 9), (false, 10), (false, 11), (false, 12), (false, 13), (false, 14), (false, 15), (false, 16), (false, 17), (false, 18), (false, 19), (false, 20), (true, 21), (false, 22), (false, 23)] (by kernel_rfl) (by kernel_rfl) ⟨⟨w11.drew, (Below.refl _ _).drew⟩, rfl⟩ ?_
                              iterate 21 (first | (refine ord_still rfl rfl ?_; go_big_quiet_step (exact rfl); refine wpQuiet_nil ?_) | (refine ord_shut rfl rfl ?_; go_big_quiet_step (exact rfl); refine wpQuiet_nil ?_))
                              refine ord_mem rfl rfl ?_
                              go_simp
                              refine (alive9 w11.drew).mono ?_
                              rintro r w12 ⟨rfl, h1⟩
                              have HB12 : Hid (Below w11.heap.size w11 w12) := below_undrew h1
                              clear h1
                              refine ⟨⟨⟨w12, HB12.out⟩, rfl⟩, ?_⟩
                              iterate 2 (refine ord_still rfl rfl ?_; go_big_quiet_step (exact rfl); refine wpQuiet_nil ?_)
                              refine ord_end ?_
                              go_wp2
                              go_ret
                              exact ⟨rfl, bnext HBn.out HB12.out⟩
                        · obtain rfl : k = lb := by omega
                          have HC8 := HS.out.down
                          rw [HG.out.cl.d] at HC8
                          replace HBn : Hid (Below w.heap.size w wr) := HS.out.bel
                          clear HS HG
                          go_wp2_with fail
                          refine HC8.mono ?_
                          rintro r w9 ⟨rfl, hw9⟩
                          replace hw9 := hw9.symm
                          subst hw9
                          go_wp2_with (go_at_call 9; go_must (refine (HAl.out _).mono ?_; rintro r wz ⟨rfl, hbz⟩; have HBz : Hid (Below w.heap.size w wz) := bnext HBn.out hbz; clear hbz))
                          go_ret
                          exact ⟨rfl, HBz.out⟩
                    · skip
                      go_wp2_with (first
                        | (go_at_call 23; go_must (refine HOp8.out.mono ?_; rintro r w4 ⟨jb4, v4, rfl, ⟨a4, c4, hv4⟩, o4, J4, h4⟩; subst hv4; have HC5 := HCre.out w4 o4 jb4 J4 h4; clear h4))
                        | (go_at_call 24; go_must (refine HC5.mono ?_; rintro r w5 ⟨jb5, rfl, o5, h5⟩; have HS5 : Hid (JSt w w5 o5 db jb5 D J6 (.slice none 0 0) [] 60) := h5; clear h5 HC5)))
                      have HS7 : Hid (JSt w w5 o5 db jb5 D J6 (.slice none 0 0) [] 60) := HS5
                      have HG7 : Hid (GI4 D J6 (LL []) 8) := HG6
                      clear HS5 HG6 HOp8 HCre
                      generalize D = D7 at *
                      generalize w5 = w7 at *
                      generalize o5 = o7 at *
                      generalize wr = wold at *
                      go_loopw [23, 24] (fun wv iv wr => ∃ (k : Nat) (o' : Nat → Nat) (D : Dk) (J : Jk) (ws : List VB) (wa : Option Addr) (wn wc : Nat), k ≤ lb ∧ iv = .int .i64 k ∧ wv = .slice wa wn wc ∧ Hid (wn = ws.length ∧ JSt w wr o' db jb5 D J (.slice wa wn wc) ws (60 + 5 * k) ∧ GI4 D J (LL ws) 8)) (fun _ iv _ => lb - (intOf iv).toNat)
                      case atStart => exact ⟨0, o7, D7, J6, [], none, 0, 0, Nat.zero_le _, rfl, rfl, rfl, HS7.out, HG7.out⟩
                      case round =>
                        obtain ⟨k, o', D, J, ws, wa, wn, wc, hk, rfl, rfl, hK⟩ := hrel
                        have HWN : Hid (wn = ws.length) := hK.out.1
                        have HS : Hid (JSt w wr o' db jb5 D J (.slice wa wn wc) ws (60 + 5 * k)) := hK.out.2.1
                        have HG : Hid (GI4 D J (LL ws) 8) := hK.out.2.2
                        have hwl : wn ≤ 60 := by
                          have h1 := HG.out.ok.cc
                          have h2 := HG.out.ok.nf
                          have h3 := HG.out.fin
                          have h4 := HG.out.cnt
                          rw [LL_len, ← HWN.out] at h4
                          omega
                        obtain ⟨wa', wc', hwa, hwc1, hwc2⟩ := slice_of_own HS.out.wnt.own
                        obtain ⟨rfl, hx9, rfl⟩ : wa = wa' ∧ wn = ws.length ∧ wc = wc' := by simpa using hwa
                        rw [← HWN.out] at hwc1
                        clear hwa hx9 hK
                        by_cases hlt : k < lb
                        · obtain ⟨q, hq⟩ : ∃ q, bs[k]? = some q := ⟨_, List.getElem?_eq_getElem (by rw [← HLB.out]; exact hlt)⟩
                          have hl2 := HFb.out k q hq
                          have hrl := HBv.out
                          obtain ⟨bb, bo, eb, hcell0⟩ := hrl.at hq
                          have hqr := hrl.rd q (List.mem_of_getElem? hq)
                          subst eb
                          obtain ⟨qa, qc, hqv⟩ := hqr.len
                          rw [hqv] at hcell0 hqr
                          have hp5 := parts5 hl2
                          have hqc := hqr.cap
                          have HCell : Hid (∀ w', Below w.heap.size w w' → w'.cell? ⟨bb, bo + k, none⟩ = some (.slice qa q.2.length qc)) := fun w' hb => (hb.cell (World.block_lt_of_cell? w _ hcell0)).trans hcell0
                          have HApp : Hid (Calls Try.prog 29 #[ptr jb5, .slice qa q.2.length qc] wr fun r w' => r = .returned (.int .i64 (J.append D q.2).1) ∧ ∃ o', JSt w w' o' db jb5 (J.append D q.2).2.2 (J.append D q.2).2.1 (.slice wa wn wc) ws (60 + 5 * k + partsN q.2.length)) := HS.out.append HG.out.ok (by omega) hqr (by omega)
                          have hCs := HG.out.cases (b := q.2) (by omega) hqr.oct
                          have HQr : Hid (Rd w (.slice qa q.2.length qc) q.2) := hqr
                          have hx := HCell.out wr HS.out.bel
                          clear hcell0 hqv hq hrl hqr
                          generalize hqq : q.2.length = ql at *
                          generalize q.2 = qb at *
                          generalize J.append D qb = X at *
                          generalize partsN ql = pq at *
                          clear hqq HS
                          rcases hCs with ⟨e0, g0⟩ | ⟨e18, hdn⟩ | ⟨e19, hdn, hre⟩
                          · rw [e0] at HApp
                            have HG8 : Hid (GI4 X.2.2 X.2.1 (LL ws ++ [qb]) 8) := g0
                            clear e0 g0
                            go_wp2_with fail
                            refine HApp.out.mono ?_
                            rintro r w8 ⟨rfl, o8, h8⟩
                            have hx8 := HCell.out w8 h8.bel
                            have HS8 : Hid (JSt w w8 o8 db jb5 X.2.2 X.2.1 (.slice wa wn wc) ws (60 + 5 * k + pq)) := h8
                            have HRow8 : Hid ((w8.alloc (.cells #[.slice qa ql qc] 23)).ownsRow 0 23 1 (.slice wa wn wc) ws.length (flat lc ws)) := h8.wnt.own.alloc _
                            clear h8 HApp hx
                            go_wp2_with (at_builtin; go_must (refine wpList_append_rows ty25 lc_len (by omega) rfl (.tmp 141) (.tmp 146) rfl _ ws rfl HRow8.out _ [(.slice qa ql qc, qb)] rfl (rowF_one (f := lc) w8 (.slice qa ql qc, qb) 23) (flat_lc_one _ (fun q hq => by simp at hq; subst hq; rfl)) (by have := HWN.out; simp; omega) ?_; intro v9 w9 k1 k2 k3; obtain ⟨o9, h9⟩ := HS8.out.more HQr.out k1 k2 k3; obtain ⟨a9, c9, hv9, hc91, hc92⟩ := slice_of_own k1; rw [len_snoc HWN.out.symm] at hv9; subst hv9; have HS9 : Hid (JSt w w9 o9 db jb5 X.2.2 X.2.1 (.slice a9 (wn + 1) c9) (ws ++ [(.slice qa ql qc, qb)]) (60 + 5 * k + pq)) := h9; clear k1 k2 k3 h9))
                            go_roundw
                            case rel => exact ⟨k + 1, o9, X.2.2, X.2.1, ws ++ [(.slice qa ql qc, qb)], a9, wn + 1, c9, by omega, by go_num, rfl, (len_snoc HWN.out.symm).symm, HS9.out.mono (by omega), by rw [LL_snoc]; exact HG8.out⟩
                            case measure => simp [intOf]; omega
                          · rw [e18] at HApp
                            have HDn : Hid (∀ w' o', JSt w w' o' db jb5 X.2.2 X.2.1 (.slice wa wn wc) ws (60 + 5 * k + pq) → Calls Try.prog 33 #[ptr db] w' (fun r w'' => r = .returned (.bool false) ∧ w'' = w') ∧ Below w.heap.size w w') := fun w' o' h => by
                              have h9 := h.down
                              rw [hdn] at h9
                              exact ⟨h9, h.bel⟩
                            clear e18 hdn
                            go_wp2_with fail
                            refine HApp.out.mono ?_
                            rintro r w8 ⟨rfl, o8, h8⟩
                            obtain ⟨HC8, hb8⟩ := HDn.out w8 o8 h8
                            have HBn : Hid (Below w.heap.size w w8) := hb8
                            clear h8 HApp hx hb8
                            go_wp2_with fail
                            refine HC8.mono ?_
                            rintro r w9 ⟨rfl, hw9⟩
                            replace hw9 := hw9.symm
                            subst hw9
                            go_wp2_with (go_at_call 9; go_must (refine (HAl.out _).mono ?_; rintro r wz ⟨rfl, hbz⟩; have HBz : Hid (Below w.heap.size w wz) := bnext HBn.out hbz; clear hbz))
                            go_ret
                            exact ⟨rfl, HBz.out⟩
                          · rw [e19] at HApp
                            have HDn : Hid (∀ w' o', JSt w w' o' db jb5 X.2.2 X.2.1 (.slice wa wn wc) ws (60 + 5 * k + pq) → Calls Try.prog 33 #[ptr db] w' (fun r w'' => r = .returned (.bool true) ∧ w'' = w') ∧ Below w.heap.size w w' ∧ Calls Try.prog 34 #[ptr db, .slice ka lk kc] w' (fun r w'' => r = .returned (.int .i64 0) ∧ ∃ o'', JSt w w'' o'' db jb5 (X.2.2.restart ks) X.2.1 (.slice wa wn wc) ws (60 + 5 * k + pq))) := fun w' o' h => by
                              have h9 := h.down
                              rw [hdn] at h9
                              exact ⟨h9, h.bel, h.restart (by omega) HKv.out⟩
                            obtain ⟨rcl, rlen, rlate, ⟨more, rmore⟩, r8⟩ := hre ks
                            have HOp : Hid (∀ w' o', JSt w w' o' db jb5 (X.2.2.restart ks) X.2.1 (.slice wa wn wc) ws (60 + 5 * k + pq) → Calls Try.prog 23 #[ptr db, .int .i64 0, .int .i64 60, .int .u32 8] w' fun r w'' => ∃ jb' v, r = .returned (.tuple #[ptr jb', v, .int .i64 0]) ∧ ∃ ga gc, v = .slice ga (wn) gc ∧ wn ≤ gc ∧ gc ≤ 9223372036854775807 ∧ Calls Try.prog 12 #[.slice ga wn gc, .slice wa wn wc] w'' (fun r w3 => r = .returned (.bool true) ∧ Below w.heap.size w w3)) := fun w' o' h => by
                              refine (h.open (base := 0) (size := 60) (gen := 8) (by unfold U32; omega) (wrong_clean rcl rlen (by omega) (by omega) 8 (by omega)) (by omega)).mono ?_
                              rintro r w'' ⟨jb', v, rfl, o2, st, kl⟩
                              rw [rmore] at kl
                              obtain ⟨a2, c2, e2, e3, e4⟩ := kl.slice
                              have el : (LL ws ++ more).length = wn := by
                                have hm : more = [] := by
                                  have h1 := r8 rfl
                                  rw [rmore] at h1
                                  simpa using h1
                                rw [hm, List.append_nil, LL_len, ← HWN.out]
                              rw [el] at e2 e3
                              refine ⟨jb', v, rfl, a2, c2, e2, e3, e4, ?_⟩
                              obtain ⟨qs, q1, q2⟩ := kl
                              have hql : qs.length = wn := by rw [← LL_len, q2, el]
                              have h12 := lists12 (rl_take (n := wn) (w := w'') (a := a2) (cap := c2) (qs := qs) (by rw [hql, ← e2]; exact q1.rl) (by omega)) st.wnt.rl (by rw [List.length_take]; omega)
                              have ht : LL (qs.take wn) = LL ws := by rw [LL_take, q2, List.take_left' (by rw [LL_len, ← HWN.out])]
                              rw [ht, decide_eq_true rfl] at h12
                              refine h12.mono ?_
                              rintro r w3 ⟨rfl, hb3⟩
                              exact ⟨rfl, bnext st.bel hb3⟩
                            clear e19 hdn hre rcl rlen rlate rmore r8
                            go_wp2_with fail
                            refine HApp.out.mono ?_
                            rintro r w8 ⟨rfl, o8, h8⟩
                            obtain ⟨HC8, hb8, hR8⟩ := HDn.out w8 o8 h8
                            have HBn : Hid (Below w.heap.size w w8) := hb8
                            clear h8 HApp hx hb8
                            go_wp2_with fail
                            refine HC8.mono ?_
                            rintro r w9 ⟨rfl, hw9⟩
                            replace hw9 := hw9.symm
                            subst hw9
                            clear HC8
                            by_cases hw0 : wn = 0
                            · have hw0' : ((wn : Int) == 0) = true := by simp [hw0]
                              clear hw0
                              go_wp2_with (go_at_call 9; go_must (refine (HAl.out _).mono ?_; rintro r wz ⟨rfl, hbz⟩; have HBz : Hid (Below w.heap.size w wz) := bnext HBn.out hbz; clear hbz))
                              go_ret
                              exact ⟨rfl, HBz.out⟩
                            · have hw0' : ((wn : Int) == 0) = false := by simpa using hw0
                              clear hw0
                              go_wp2_with fail
                              refine hR8.mono ?_
                              rintro r w9 ⟨rfl, o9, h9⟩
                              have HC9 := HOp.out w9 o9 h9
                              clear h9 hR8
                              go_wp2_with fail
                              refine HC9.mono ?_
                              rintro r w10 ⟨jb10, v10, rfl, ga, gc, hv10, hg1, hg2, hC10⟩
                              subst hv10
                              have HC10 : Hid (Calls Try.prog 12 #[.slice ga wn gc, .slice wa wn wc] w10 (fun r w3 => r = .returned (.bool true) ∧ Below w.heap.size w w3)) := hC10
                              clear hC10 HC9
                              go_wp2_with fail
                              refine HC10.out.mono ?_
                              rintro r w11 ⟨rfl, hb11⟩
                              replace HBn : Hid (Below w.heap.size w w11) := hb11
                              clear hb11
                              have heq : ((wn : Int) == (wn : Int)) = true := by simp
                              go_wp2_with fail
                              refine wp_region_ord (C := fun w' => ∃ z : WIn (fun w' => Below w11.heap.size w11 w'), w' = z.w) [(false, 0), (false, 1), (false, 2), (false, 3), (false, 4), (false, 5), (false, 6), (false, 7), (false, 8), (false, 9), (false, 10), (false, 11), (false, 12), (false, 13), (false, 14), (false, 15), (false, 16), (false, 17), (false, 18), (false, 19), (false, 20), (true, 21), (false, 22), (false, 23)] (by kernel_rfl) (by kernel_rfl) ⟨⟨w11.drew, (Below.refl _ _).drew⟩, rfl⟩ ?_
                              iterate 21 (first | (refine ord_still rfl rfl ?_; go_big_quiet_step (exact rfl); refine wpQuiet_nil ?_) | (refine ord_shut rfl rfl ?_; go_big_quiet_step (exact rfl); refine wpQuiet_nil ?_))
                              refine ord_mem rfl rfl ?_
                              go_simp
                              refine (alive9 w11.drew).mono ?_
                              rintro r w12 ⟨rfl, h1⟩
                              have HB12 : Hid (Below w11.heap.size w11 w12) := below_undrew h1
                              clear h1
                              refine ⟨⟨⟨w12, HB12.out⟩, rfl⟩, ?_⟩
                              iterate 2 (refine ord_still rfl rfl ?_; go_big_quiet_step (exact rfl); refine wpQuiet_nil ?_)
                              refine ord_end ?_
                              go_wp2
                              go_ret
                              exact ⟨rfl, bnext HBn.out HB12.out⟩
                        · obtain rfl : k = lb := by omega
                          have HC8 := HS.out.down
                          rw [HG.out.cl.d] at HC8
                          replace HBn : Hid (Below w.heap.size w wr) := HS.out.bel
                          clear HS HG
                          go_wp2_with fail
                          refine HC8.mono ?_
                          rintro r w9 ⟨rfl, hw9⟩
                          replace hw9 := hw9.symm
                          subst hw9
                          go_wp2_with (go_at_call 9; go_must (refine (HAl.out _).mono ?_; rintro r wz ⟨rfl, hbz⟩; have HBz : Hid (Below w.heap.size w wz) := bnext HBn.out hbz; clear hbz))
                          go_ret
                          exact ⟨rfl, HBz.out⟩
        · skip
          go_enter Try.func7, Try.ntmps7
          go_wp2
          go_loopw [11] (fun kv wr => ∃ (k : Nat), k ≤ la + lb ∧ kv = .int .i64 k ∧ Hid (Fit xs bs k ∧ wr = w)) (fun kv _ => la + lb - (intOf kv).toNat)
          case atStart => exact ⟨0, Nat.zero_le _, rfl, fit_zero xs bs, rfl⟩
          case round =>
            obtain ⟨k, hk, rfl, hF⟩ := hrel
            have hwr := hF.out.2.symm
            subst hwr
            by_cases hlt : k < la
            · obtain ⟨q, hq⟩ : ∃ q, xs[k]? = some q := ⟨_, List.getElem?_eq_getElem (by rw [← HLA.out]; exact hlt)⟩
              obtain ⟨ab, ao, ea, hcell⟩ := HAv.out.at hq
              subst ea
              obtain ⟨qa, qc, hqv⟩ := (HAv.out.rd q (List.mem_of_getElem? hq)).len
              have hqr := HAv.out.rd q (List.mem_of_getElem? hq)
              rw [hqv] at hcell hqr
              have hqc := hqr.cap
              by_cases h2 : 200 < q.2.length
              · generalize q.2.length = ql at *
                clear hqr hqv hq
                go_wp2_with (go_at_call 9; go_must (refine (HAl.out _).mono ?_; rintro r wz ⟨rfl, hbz⟩; have HBz : Hid (Below w.heap.size w wz) := bnext HBn.out hbz; clear hbz))
                go_ret
                exact ⟨rfl, HBz.out⟩
              · have HF2 : Hid (Fit xs bs (k + 1) ∧ True) := ⟨hF.out.1.a hq (by omega), trivial⟩
                generalize q.2.length = ql at *
                clear hqr hqv hq
                go_wp2
                go_roundw
                case rel => exact ⟨k + 1, by omega, by go_num, HF2⟩
                case measure => simp [intOf]; omega
            · by_cases hlt2 : k < la + lb
              · obtain ⟨jj, hjj⟩ : ∃ jj, k = la + jj := ⟨k - la, by omega⟩
                have hji : (k : Int) - (la : Int) = (jj : Int) := by omega
                have hjl : jj < lb := by omega
                obtain ⟨q, hq⟩ : ∃ q, bs[jj]? = some q := ⟨_, List.getElem?_eq_getElem (by rw [← HLB.out]; exact hjl)⟩
                obtain ⟨bb, bo, eb, hcell⟩ := HBv.out.at hq
                subst eb
                obtain ⟨qa, qc, hqv⟩ := (HBv.out.rd q (List.mem_of_getElem? hq)).len
                have hqr := HBv.out.rd q (List.mem_of_getElem? hq)
                rw [hqv] at hcell hqr
                have hqc := hqr.cap
                by_cases h2 : 200 < q.2.length
                · generalize q.2.length = ql at *
                  clear hqr hqv hq hjj
                  go_wp2_with (go_at_call 9; go_must (refine (HAl.out _).mono ?_; rintro r wz ⟨rfl, hbz⟩; have HBz : Hid (Below w.heap.size w wz) := bnext HBn.out hbz; clear hbz))
                  go_ret
                  exact ⟨rfl, HBz.out⟩
                · have HF2 : Hid (Fit xs bs (k + 1) ∧ True) := ⟨hF.out.1.b (by rw [← HLA.out]; exact hjj) hq (by omega), trivial⟩
                  generalize q.2.length = ql at *
                  clear hqr hqv hq hjj
                  go_wp2
                  go_roundw
                  case rel => exact ⟨k + 1, by omega, by go_num, HF2⟩
                  case measure => simp [intOf]; omega
              · obtain rfl : k = la + lb := by omega
                have HFa : Hid (∀ (j : Nat) (q : VB), xs[j]? = some q → q.2.length ≤ 200) := fun j q hq => hF.out.1.1 j q (by have := (List.getElem?_eq_some_iff.1 hq).1; rw [← HLA.out] at this; omega) hq
                have HFb : Hid (∀ (j : Nat) (q : VB), bs[j]? = some q → q.2.length ≤ 200) := fun j q hq => hF.out.1.2 j q (by have := (List.getElem?_eq_some_iff.1 hq).1; rw [← HLA.out]; rw [← HLB.out] at this; omega) hq
                clear hF hlt hlt2 hk
                go_wp2_with (first
                  | (go_at_call 19; go_must (refine H19'.out.mono ?_; rintro r w2 ⟨rfl, o2, h2⟩; have HC := HO1.out w2 o2 h2; clear h2))
                  | (go_at_call 23; go_must (refine HC.mono ?_; rintro r w3 ⟨jb3, v3, rfl, ⟨a3, n3, c3, hv3⟩, o3, h3⟩; subst hv3; have HS3 : Hid (JSt w w3 o3 db jb3 (newD 60) (openJ (cont (newD 60) 0 60) 0 60 7) (.slice none 0 0) [] 0) := h3; clear h3)))
                clear HC
                go_loopw [17] (fun iv wr => ∃ (k : Nat) (o' : Nat → Nat) (D : Dk) (J : Jk), k ≤ la ∧ iv = .int .i64 k ∧ Hid (JSt w wr o' db jb3 D J (.slice none 0 0) [] (5 * k) ∧ GI1 D J)) (fun iv _ => la - (intOf iv).toNat)
                case atStart => exact ⟨0, o3, newD 60, _, Nat.zero_le _, rfl, HS3.out, gi1_start⟩
                case round =>
                  obtain ⟨k, o', D, J, hk, rfl, hK⟩ := hrel
                  by_cases hlt : k < la
                  · obtain ⟨q, hq⟩ : ∃ q, xs[k]? = some q := ⟨_, List.getElem?_eq_getElem (by rw [← HLA.out]; exact hlt)⟩
                    have hl2 := HFa.out k q hq
                    have hrl := HAv.out
                    obtain ⟨ab, ao, ea, hcell⟩ := (hrl.below hK.out.1.bel).at hq
                    have hqr := hrl.rd q (List.mem_of_getElem? hq)
                    subst ea
                    obtain ⟨qa, qc, hqv⟩ := hqr.len
                    rw [hqv] at hcell hqr
                    have hp5 := parts5 hl2
                    have hApp := hK.out.1.append hK.out.2.ok (by omega) hqr (by omega)
                    have HApp : Hid (Calls Try.prog 29 #[ptr jb3, .slice qa q.2.length qc] wr fun r w' => r = .returned (.int .i64 (J.append D q.2).1) ∧ ∃ o', JSt w w' o' db jb3 (J.append D q.2).2.2 (J.append D q.2).2.1 (.slice none 0 0) [] (5 * k + partsN q.2.length)) := hApp
                    have HG2 : Hid (GI1 (J.append D q.2).2.2 (J.append D q.2).2.1) := hK.out.2.append (by omega) hqr.oct
                    generalize hqq : q.2.length = ql at *
                    generalize J.append D q.2 = X at *
                    generalize partsN ql = pq at *
                    clear hApp hqr hqv hq hK hrl hqq
                    go_wp2_with (go_at_call 29; go_must (refine HApp.out.mono ?_; rintro r w4 ⟨rfl, o4, h4⟩; have HS4 : Hid (JSt w w4 o4 db jb3 X.2.2 X.2.1 (.slice none 0 0) [] (5 * k + pq)) := h4; clear h4))
                    go_roundw
                    case rel => exact ⟨k + 1, o4, X.2.2, X.2.1, by omega, by go_num, HS4.out.mono (by omega), HG2.out⟩
                    case measure => simp [intOf]; omega
                  · obtain rfl : k = la := by omega
                    have HS5 : Hid (JSt w wr o' db jb3 D J (.slice none 0 0) [] 60) := hK.out.1.mono (by omega)
                    have HG5 : Hid (GI1 D J) := hK.out.2
                    have HOp8 : Hid (Calls Try.prog 23 #[ptr db, .int .i64 0, .int .i64 60, .int .u32 8] wr fun r w' => ∃ jb v, r = .returned (.tuple #[ptr jb, v, .int .i64 0]) ∧ (∃ a c, v = .slice a 0 c) ∧ ∃ o' J', JSt w w' o' db jb D J' (.slice none 0 0) [] 60) := by
                      refine (HS5.out.open (base := 0) (size := 60) (gen := 8) (by unfold U32; omega) (wrong_clean HG5.out.cl HG5.out.len (by omega) (by omega) 8 (by omega)) (by have := HG5.out.late 8; omega)).mono ?_
                      rintro r w' ⟨jb, v, rfl, o', st, kl⟩
                      rw [HG5.out.scan8] at kl
                      obtain ⟨a, c, e, _⟩ := kl.slice
                      exact ⟨jb, v, rfl, ⟨a, c, e⟩, o', _, st⟩
                    have HCre : Hid (∀ w1 o1 jb J', JSt w w1 o1 db jb D J' (.slice none 0 0) [] 60 → Calls Try.prog 24 #[ptr db, .int .i64 0, .int .i64 60, .int .u32 7] w1 fun r w' => ∃ jb', r = .returned (.tuple #[ptr jb', .int .i64 0]) ∧ ∃ o', JSt w w' o' db jb' D (beginJ (cont D 0 60) 0 60 7) (.slice none 0 0) [] 60) := fun w1 o1 jb J' h1 => h1.create (base := 0) (size := 60) (gen := 7) (by unfold U32; omega) (wrong_clean HG5.out.cl HG5.out.len (by omega) (by omega) 7 (by omega)) (by have := HG5.out.late 7; omega)
                    have HG6 : Hid (GI4 D (beginJ (cont D 0 60) 0 60 7) (LL []) 7) := HG5.out.create (by omega)
                    generalize beginJ (cont D 0 60) 0 60 7 = J6 at *
                    clear hK HS5 HG5 hlt hk
                    by_cases ham : 0 ≤ armed
                    · skip
                      go_wp2_with (first
                        | (go_at_call 23; go_must (refine HOp8.out.mono ?_; rintro r w4 ⟨jb4, v4, rfl, ⟨a4, c4, hv4⟩, o4, J4, h4⟩; subst hv4; have HC5 := HCre.out w4 o4 jb4 J4 h4; clear h4))
                        | (go_at_call 24; go_must (refine HC5.mono ?_; rintro r w5 ⟨jb5, rfl, o5, h5⟩; have HS5 : Hid (JSt w w5 o5 db jb5 D J6 (.slice none 0 0) [] 60) := h5; clear h5 HC5)))
                      have HArm : Hid (Calls Try.prog 32 #[ptr db, .int .i64 armed] w5 fun r w' => ∃ c, r = .returned (.int .i64 c) ∧ ∃ o', JSt w w' o' db jb5 (D.arm armed).2 J6 (.slice none 0 0) [] 60) := HS5.out.arm armed m1
                      have HG7 : Hid (GI4 (D.arm armed).2 J6 (LL []) 7) := HG6.out.arm armed
                      clear HS5 HG6 HOp8 HCre
                      generalize (D.arm armed).2 = D7 at *
                      go_wp2_with (go_at_call 32; go_must (refine HArm.out.mono ?_; rintro r w7 ⟨c7, rfl, o7, h7⟩; have HS7 : Hid (JSt w w7 o7 db jb5 D7 J6 (.slice none 0 0) [] 60) := h7; clear h7))
                      clear HArm
                      generalize wr = wold at *
                      go_loopw [23, 24] (fun wv iv wr => ∃ (k : Nat) (o' : Nat → Nat) (D : Dk) (J : Jk) (ws : List VB) (wa : Option Addr) (wn wc : Nat), k ≤ lb ∧ iv = .int .i64 k ∧ wv = .slice wa wn wc ∧ Hid (wn = ws.length ∧ JSt w wr o' db jb5 D J (.slice wa wn wc) ws (60 + 5 * k) ∧ GI4 D J (LL ws) 7)) (fun _ iv _ => lb - (intOf iv).toNat)
                      case atStart => exact ⟨0, o7, D7, J6, [], none, 0, 0, Nat.zero_le _, rfl, rfl, rfl, HS7.out, HG7.out⟩
                      case round =>
                        obtain ⟨k, o', D, J, ws, wa, wn, wc, hk, rfl, rfl, hK⟩ := hrel
                        have HWN : Hid (wn = ws.length) := hK.out.1
                        have HS : Hid (JSt w wr o' db jb5 D J (.slice wa wn wc) ws (60 + 5 * k)) := hK.out.2.1
                        have HG : Hid (GI4 D J (LL ws) 7) := hK.out.2.2
                        have hwl : wn ≤ 60 := by
                          have h1 := HG.out.ok.cc
                          have h2 := HG.out.ok.nf
                          have h3 := HG.out.fin
                          have h4 := HG.out.cnt
                          rw [LL_len, ← HWN.out] at h4
                          omega
                        obtain ⟨wa', wc', hwa, hwc1, hwc2⟩ := slice_of_own HS.out.wnt.own
                        obtain ⟨rfl, hx9, rfl⟩ : wa = wa' ∧ wn = ws.length ∧ wc = wc' := by simpa using hwa
                        rw [← HWN.out] at hwc1
                        clear hwa hx9 hK
                        by_cases hlt : k < lb
                        · obtain ⟨q, hq⟩ : ∃ q, bs[k]? = some q := ⟨_, List.getElem?_eq_getElem (by rw [← HLB.out]; exact hlt)⟩
                          have hl2 := HFb.out k q hq
                          have hrl := HBv.out
                          obtain ⟨bb, bo, eb, hcell0⟩ := hrl.at hq
                          have hqr := hrl.rd q (List.mem_of_getElem? hq)
                          subst eb
                          obtain ⟨qa, qc, hqv⟩ := hqr.len
                          rw [hqv] at hcell0 hqr
                          have hp5 := parts5 hl2
                          have hqc := hqr.cap
                          have HCell : Hid (∀ w', Below w.heap.size w w' → w'.cell? ⟨bb, bo + k, none⟩ = some (.slice qa q.2.length qc)) := fun w' hb => (hb.cell (World.block_lt_of_cell? w _ hcell0)).trans hcell0
                          have HApp : Hid (Calls Try.prog 29 #[ptr jb5, .slice qa q.2.length qc] wr fun r w' => r = .returned (.int .i64 (J.append D q.2).1) ∧ ∃ o', JSt w w' o' db jb5 (J.append D q.2).2.2 (J.append D q.2).2.1 (.slice wa wn wc) ws (60 + 5 * k + partsN q.2.length)) := HS.out.append HG.out.ok (by omega) hqr (by omega)
                          have hCs := HG.out.cases (b := q.2) (by omega) hqr.oct
                          have HQr : Hid (Rd w (.slice qa q.2.length qc) q.2) := hqr
                          have hx := HCell.out wr HS.out.bel
                          clear hcell0 hqv hq hrl hqr
                          generalize hqq : q.2.length = ql at *
                          generalize q.2 = qb at *
                          generalize J.append D qb = X at *
                          generalize partsN ql = pq at *
                          clear hqq HS
                          rcases hCs with ⟨e0, g0⟩ | ⟨e18, hdn⟩ | ⟨e19, hdn, hre⟩
                          · rw [e0] at HApp
                            have HG8 : Hid (GI4 X.2.2 X.2.1 (LL ws ++ [qb]) 7) := g0
                            clear e0 g0
                            go_wp2_with fail
                            refine HApp.out.mono ?_
                            rintro r w8 ⟨rfl, o8, h8⟩
                            have hx8 := HCell.out w8 h8.bel
                            have HS8 : Hid (JSt w w8 o8 db jb5 X.2.2 X.2.1 (.slice wa wn wc) ws (60 + 5 * k + pq)) := h8
                            have HRow8 : Hid ((w8.alloc (.cells #[.slice qa ql qc] 23)).ownsRow 0 23 1 (.slice wa wn wc) ws.length (flat lc ws)) := h8.wnt.own.alloc _
                            clear h8 HApp hx
                            go_wp2_with (at_builtin; go_must (refine wpList_append_rows ty25 lc_len (by omega) rfl (.tmp 141) (.tmp 146) rfl _ ws rfl HRow8.out _ [(.slice qa ql qc, qb)] rfl (rowF_one (f := lc) w8 (.slice qa ql qc, qb) 23) (flat_lc_one _ (fun q hq => by simp at hq; subst hq; rfl)) (by have := HWN.out; simp; omega) ?_; intro v9 w9 k1 k2 k3; obtain ⟨o9, h9⟩ := HS8.out.more HQr.out k1 k2 k3; obtain ⟨a9, c9, hv9, hc91, hc92⟩ := slice_of_own k1; rw [len_snoc HWN.out.symm] at hv9; subst hv9; have HS9 : Hid (JSt w w9 o9 db jb5 X.2.2 X.2.1 (.slice a9 (wn + 1) c9) (ws ++ [(.slice qa ql qc, qb)]) (60 + 5 * k + pq)) := h9; clear k1 k2 k3 h9))
                            go_roundw
                            case rel => exact ⟨k + 1, o9, X.2.2, X.2.1, ws ++ [(.slice qa ql qc, qb)], a9, wn + 1, c9, by omega, by go_num, rfl, (len_snoc HWN.out.symm).symm, HS9.out.mono (by omega), by rw [LL_snoc]; exact HG8.out⟩
                            case measure => simp [intOf]; omega
                          · rw [e18] at HApp
                            have HDn : Hid (∀ w' o', JSt w w' o' db jb5 X.2.2 X.2.1 (.slice wa wn wc) ws (60 + 5 * k + pq) → Calls Try.prog 33 #[ptr db] w' (fun r w'' => r = .returned (.bool false) ∧ w'' = w') ∧ Below w.heap.size w w') := fun w' o' h => by
                              have h9 := h.down
                              rw [hdn] at h9
                              exact ⟨h9, h.bel⟩
                            clear e18 hdn
                            go_wp2_with fail
                            refine HApp.out.mono ?_
                            rintro r w8 ⟨rfl, o8, h8⟩
                            obtain ⟨HC8, hb8⟩ := HDn.out w8 o8 h8
                            have HBn : Hid (Below w.heap.size w w8) := hb8
                            clear h8 HApp hx hb8
                            go_wp2_with fail
                            refine HC8.mono ?_
                            rintro r w9 ⟨rfl, hw9⟩
                            replace hw9 := hw9.symm
                            subst hw9
                            go_wp2_with (go_at_call 9; go_must (refine (HAl.out _).mono ?_; rintro r wz ⟨rfl, hbz⟩; have HBz : Hid (Below w.heap.size w wz) := bnext HBn.out hbz; clear hbz))
                            go_ret
                            exact ⟨rfl, HBz.out⟩
                          · rw [e19] at HApp
                            have HDn : Hid (∀ w' o', JSt w w' o' db jb5 X.2.2 X.2.1 (.slice wa wn wc) ws (60 + 5 * k + pq) → Calls Try.prog 33 #[ptr db] w' (fun r w'' => r = .returned (.bool true) ∧ w'' = w') ∧ Below w.heap.size w w' ∧ Calls Try.prog 34 #[ptr db, .slice ka lk kc] w' (fun r w'' => r = .returned (.int .i64 0) ∧ ∃ o'', JSt w w'' o'' db jb5 (X.2.2.restart ks) X.2.1 (.slice wa wn wc) ws (60 + 5 * k + pq))) := fun w' o' h => by
                              have h9 := h.down
                              rw [hdn] at h9
                              exact ⟨h9, h.bel, h.restart (by omega) HKv.out⟩
                            obtain ⟨rcl, rlen, rlate, ⟨more, rmore⟩, r8⟩ := hre ks
                            have HOp : Hid (∀ w' o', JSt w w' o' db jb5 (X.2.2.restart ks) X.2.1 (.slice wa wn wc) ws (60 + 5 * k + pq) → Calls Try.prog 23 #[ptr db, .int .i64 0, .int .i64 60, .int .u32 7] w' fun r w'' => ∃ jb' v, r = .returned (.tuple #[ptr jb', v, .int .i64 0]) ∧ ∃ ga gc, v = .slice ga (wn + more.length) gc ∧ wn + more.length ≤ gc ∧ gc ≤ 9223372036854775807 ∧ Calls Try.prog 12 #[.slice ga wn gc, .slice wa wn wc] w'' (fun r w3 => r = .returned (.bool true) ∧ Below w.heap.size w w3)) := fun w' o' h => by
                              refine (h.open (base := 0) (size := 60) (gen := 7) (by unfold U32; omega) (wrong_clean rcl rlen (by omega) (by omega) 7 (by omega)) (by omega)).mono ?_
                              rintro r w'' ⟨jb', v, rfl, o2, st, kl⟩
                              rw [rmore] at kl
                              obtain ⟨a2, c2, e2, e3, e4⟩ := kl.slice
                              have el : (LL ws ++ more).length = wn + more.length := by
                                rw [List.length_append, LL_len, ← HWN.out]
                              rw [el] at e2 e3
                              refine ⟨jb', v, rfl, a2, c2, e2, e3, e4, ?_⟩
                              obtain ⟨qs, q1, q2⟩ := kl
                              have hql : qs.length = wn + more.length := by rw [← LL_len, q2, el]
                              have h12 := lists12 (rl_take (n := wn) (w := w'') (a := a2) (cap := c2) (qs := qs) (by rw [hql, ← e2]; exact q1.rl) (by omega)) st.wnt.rl (by rw [List.length_take]; omega)
                              have ht : LL (qs.take wn) = LL ws := by rw [LL_take, q2, List.take_left' (by rw [LL_len, ← HWN.out])]
                              rw [ht, decide_eq_true rfl] at h12
                              refine h12.mono ?_
                              rintro r w3 ⟨rfl, hb3⟩
                              exact ⟨rfl, bnext st.bel hb3⟩
                            generalize more.length = ml at *
                            clear e19 hdn hre rcl rlen rlate rmore r8
                            go_wp2_with fail
                            refine HApp.out.mono ?_
                            rintro r w8 ⟨rfl, o8, h8⟩
                            obtain ⟨HC8, hb8, hR8⟩ := HDn.out w8 o8 h8
                            have HBn : Hid (Below w.heap.size w w8) := hb8
                            clear h8 HApp hx hb8
                            go_wp2_with fail
                            refine HC8.mono ?_
                            rintro r w9 ⟨rfl, hw9⟩
                            replace hw9 := hw9.symm
                            subst hw9
                            clear HC8
                            by_cases hw0 : wn = 0
                            · have hw0' : ((wn : Int) == 0) = true := by simp [hw0]
                              clear hw0
                              go_wp2_with (go_at_call 9; go_must (refine (HAl.out _).mono ?_; rintro r wz ⟨rfl, hbz⟩; have HBz : Hid (Below w.heap.size w wz) := bnext HBn.out hbz; clear hbz))
                              go_ret
                              exact ⟨rfl, HBz.out⟩
                            · have hw0' : ((wn : Int) == 0) = false := by simpa using hw0
                              clear hw0
                              go_wp2_with fail
                              refine hR8.mono ?_
                              rintro r w9 ⟨rfl, o9, h9⟩
                              have HC9 := HOp.out w9 o9 h9
                              clear h9 hR8
                              go_wp2_with fail
                              refine HC9.mono ?_
                              rintro r w10 ⟨jb10, v10, rfl, ga, gc, hv10, hg1, hg2, hC10⟩
                              subst hv10
                              have HC10 : Hid (Calls Try.prog 12 #[.slice ga wn gc, .slice wa wn wc] w10 (fun r w3 => r = .returned (.bool true) ∧ Below w.heap.size w w3)) := hC10
                              clear hC10 HC9
                              go_wp2_with fail
                              refine HC10.out.mono ?_
                              rintro r w11 ⟨rfl, hb11⟩
                              replace HBn : Hid (Below w.heap.size w w11) := hb11
                              clear hb11
                              by_cases hm0 : ml = 0
                              · subst hm0
                                have heq : ((wn : Int) == (wn : Int)) = true := by simp
                                go_wp2_with fail
                                refine wp_region_ord (C := fun w' => ∃ z : WIn (fun w' => Below w11.heap.size w11 w'), w' = z.w) [(false, 0), (false, 1), (false, 2), (false, 3), (false, 4), (false, 5), (false, 6), (false, 7), (false, 8), (false, 9), (false, 10), (false, 11), (false, 12), (false, 13), (false, 14), (false, 15), (false, 16), (false, 17), (false, 18), (false, 19), (false, 20), (true, 21), (false, 22), (false, 23)] (by kernel_rfl) (by kernel_rfl) ⟨⟨w11.drew, (Below.refl _ _).drew⟩, rfl⟩ ?_
                                iterate 21 (first | (refine ord_still rfl rfl ?_; go_big_quiet_step (exact rfl); refine wpQuiet_nil ?_) | (refine ord_shut rfl rfl ?_; go_big_quiet_step (exact rfl); refine wpQuiet_nil ?_))
                                refine ord_mem rfl rfl ?_
                                go_simp
                                refine (alive9 w11.drew).mono ?_
                                rintro r w12 ⟨rfl, h1⟩
                                have HB12 : Hid (Below w11.heap.size w11 w12) := below_undrew h1
                                clear h1
                                refine ⟨⟨⟨w12, HB12.out⟩, rfl⟩, ?_⟩
                                iterate 2 (refine ord_still rfl rfl ?_; go_big_quiet_step (exact rfl); refine wpQuiet_nil ?_)
                                refine ord_end ?_
                                go_wp2
                                go_ret
                                exact ⟨rfl, bnext HBn.out HB12.out⟩
                              · have heq : (((wn + ml : Nat) : Int) == (wn : Int)) = false := by simp; omega
                                have heq' : ((wn : Int) + (ml : Int) == (wn : Int)) = false := by simp; omega
                                go_wp2_with fail
                                refine wp_region_ord (C := fun w' => ∃ z : WIn (fun w' => Below w11.heap.size w11 w'), w' = z.w) [(false, 0), (false, 1), (false, 2), (false, 3), (false, 4), (false, 5), (false, 6), (false, 7), (false, 8), (false, 9), (false, 10), (false, 11), (false, 12), (false, 13), (false, 14), (false, 15), (false, 16), (false, 17), (false, 18), (false, 19), (false, 20), (true, 21), (false, 22), (false, 23)] (by kernel_rfl) (by kernel_rfl) ⟨⟨w11.drew, (Below.refl _ _).drew⟩, rfl⟩ ?_
                                iterate 21 (first | (refine ord_still rfl rfl ?_; go_big_quiet_step (exact rfl); refine wpQuiet_nil ?_) | (refine ord_shut rfl rfl ?_; go_big_quiet_step (exact rfl); refine wpQuiet_nil ?_))
                                refine ord_mem rfl rfl ?_
                                go_simp
                                refine (alive9 w11.drew).mono ?_
                                rintro r w12 ⟨rfl, h1⟩
                                have HB12 : Hid (Below w11.heap.size w11 w12) := below_undrew h1
                                clear h1
                                refine ⟨⟨⟨w12, HB12.out⟩, rfl⟩, ?_⟩
                                iterate 2 (refine ord_still rfl rfl ?_; go_big_quiet_step (exact rfl); refine wpQuiet_nil ?_)
                                refine ord_end ?_
                                go_wp2
                                go_ret
                                exact ⟨rfl, bnext HBn.out HB12.out⟩
                        · obtain rfl : k = lb := by omega
                          have HC8 := HS.out.down
                          rw [HG.out.cl.d] at HC8
                          replace HBn : Hid (Below w.heap.size w wr) := HS.out.bel
                          clear HS HG
                          go_wp2_with fail
                          refine HC8.mono ?_
                          rintro r w9 ⟨rfl, hw9⟩
                          replace hw9 := hw9.symm
                          subst hw9
                          go_wp2_with (go_at_call 9; go_must (refine (HAl.out _).mono ?_; rintro r wz ⟨rfl, hbz⟩; have HBz : Hid (Below w.heap.size w wz) := bnext HBn.out hbz; clear hbz))
                          go_ret
                          exact ⟨rfl, HBz.out⟩
                    · skip
                      go_wp2_with (first
                        | (go_at_call 23; go_must (refine HOp8.out.mono ?_; rintro r w4 ⟨jb4, v4, rfl, ⟨a4, c4, hv4⟩, o4, J4, h4⟩; subst hv4; have HC5 := HCre.out w4 o4 jb4 J4 h4; clear h4))
                        | (go_at_call 24; go_must (refine HC5.mono ?_; rintro r w5 ⟨jb5, rfl, o5, h5⟩; have HS5 : Hid (JSt w w5 o5 db jb5 D J6 (.slice none 0 0) [] 60) := h5; clear h5 HC5)))
                      have HS7 : Hid (JSt w w5 o5 db jb5 D J6 (.slice none 0 0) [] 60) := HS5
                      have HG7 : Hid (GI4 D J6 (LL []) 7) := HG6
                      clear HS5 HG6 HOp8 HCre
                      generalize D = D7 at *
                      generalize w5 = w7 at *
                      generalize o5 = o7 at *
                      generalize wr = wold at *
                      go_loopw [23, 24] (fun wv iv wr => ∃ (k : Nat) (o' : Nat → Nat) (D : Dk) (J : Jk) (ws : List VB) (wa : Option Addr) (wn wc : Nat), k ≤ lb ∧ iv = .int .i64 k ∧ wv = .slice wa wn wc ∧ Hid (wn = ws.length ∧ JSt w wr o' db jb5 D J (.slice wa wn wc) ws (60 + 5 * k) ∧ GI4 D J (LL ws) 7)) (fun _ iv _ => lb - (intOf iv).toNat)
                      case atStart => exact ⟨0, o7, D7, J6, [], none, 0, 0, Nat.zero_le _, rfl, rfl, rfl, HS7.out, HG7.out⟩
                      case round =>
                        obtain ⟨k, o', D, J, ws, wa, wn, wc, hk, rfl, rfl, hK⟩ := hrel
                        have HWN : Hid (wn = ws.length) := hK.out.1
                        have HS : Hid (JSt w wr o' db jb5 D J (.slice wa wn wc) ws (60 + 5 * k)) := hK.out.2.1
                        have HG : Hid (GI4 D J (LL ws) 7) := hK.out.2.2
                        have hwl : wn ≤ 60 := by
                          have h1 := HG.out.ok.cc
                          have h2 := HG.out.ok.nf
                          have h3 := HG.out.fin
                          have h4 := HG.out.cnt
                          rw [LL_len, ← HWN.out] at h4
                          omega
                        obtain ⟨wa', wc', hwa, hwc1, hwc2⟩ := slice_of_own HS.out.wnt.own
                        obtain ⟨rfl, hx9, rfl⟩ : wa = wa' ∧ wn = ws.length ∧ wc = wc' := by simpa using hwa
                        rw [← HWN.out] at hwc1
                        clear hwa hx9 hK
                        by_cases hlt : k < lb
                        · obtain ⟨q, hq⟩ : ∃ q, bs[k]? = some q := ⟨_, List.getElem?_eq_getElem (by rw [← HLB.out]; exact hlt)⟩
                          have hl2 := HFb.out k q hq
                          have hrl := HBv.out
                          obtain ⟨bb, bo, eb, hcell0⟩ := hrl.at hq
                          have hqr := hrl.rd q (List.mem_of_getElem? hq)
                          subst eb
                          obtain ⟨qa, qc, hqv⟩ := hqr.len
                          rw [hqv] at hcell0 hqr
                          have hp5 := parts5 hl2
                          have hqc := hqr.cap
                          have HCell : Hid (∀ w', Below w.heap.size w w' → w'.cell? ⟨bb, bo + k, none⟩ = some (.slice qa q.2.length qc)) := fun w' hb => (hb.cell (World.block_lt_of_cell? w _ hcell0)).trans hcell0
                          have HApp : Hid (Calls Try.prog 29 #[ptr jb5, .slice qa q.2.length qc] wr fun r w' => r = .returned (.int .i64 (J.append D q.2).1) ∧ ∃ o', JSt w w' o' db jb5 (J.append D q.2).2.2 (J.append D q.2).2.1 (.slice wa wn wc) ws (60 + 5 * k + partsN q.2.length)) := HS.out.append HG.out.ok (by omega) hqr (by omega)
                          have hCs := HG.out.cases (b := q.2) (by omega) hqr.oct
                          have HQr : Hid (Rd w (.slice qa q.2.length qc) q.2) := hqr
                          have hx := HCell.out wr HS.out.bel
                          clear hcell0 hqv hq hrl hqr
                          generalize hqq : q.2.length = ql at *
                          generalize q.2 = qb at *
                          generalize J.append D qb = X at *
                          generalize partsN ql = pq at *
                          clear hqq HS
                          rcases hCs with ⟨e0, g0⟩ | ⟨e18, hdn⟩ | ⟨e19, hdn, hre⟩
                          · rw [e0] at HApp
                            have HG8 : Hid (GI4 X.2.2 X.2.1 (LL ws ++ [qb]) 7) := g0
                            clear e0 g0
                            go_wp2_with fail
                            refine HApp.out.mono ?_
                            rintro r w8 ⟨rfl, o8, h8⟩
                            have hx8 := HCell.out w8 h8.bel
                            have HS8 : Hid (JSt w w8 o8 db jb5 X.2.2 X.2.1 (.slice wa wn wc) ws (60 + 5 * k + pq)) := h8
                            have HRow8 : Hid ((w8.alloc (.cells #[.slice qa ql qc] 23)).ownsRow 0 23 1 (.slice wa wn wc) ws.length (flat lc ws)) := h8.wnt.own.alloc _
                            clear h8 HApp hx
                            go_wp2_with (at_builtin; go_must (refine wpList_append_rows ty25 lc_len (by omega) rfl (.tmp 141) (.tmp 146) rfl _ ws rfl HRow8.out _ [(.slice qa ql qc, qb)] rfl (rowF_one (f := lc) w8 (.slice qa ql qc, qb) 23) (flat_lc_one _ (fun q hq => by simp at hq; subst hq; rfl)) (by have := HWN.out; simp; omega) ?_; intro v9 w9 k1 k2 k3; obtain ⟨o9, h9⟩ := HS8.out.more HQr.out k1 k2 k3; obtain ⟨a9, c9, hv9, hc91, hc92⟩ := slice_of_own k1; rw [len_snoc HWN.out.symm] at hv9; subst hv9; have HS9 : Hid (JSt w w9 o9 db jb5 X.2.2 X.2.1 (.slice a9 (wn + 1) c9) (ws ++ [(.slice qa ql qc, qb)]) (60 + 5 * k + pq)) := h9; clear k1 k2 k3 h9))
                            go_roundw
                            case rel => exact ⟨k + 1, o9, X.2.2, X.2.1, ws ++ [(.slice qa ql qc, qb)], a9, wn + 1, c9, by omega, by go_num, rfl, (len_snoc HWN.out.symm).symm, HS9.out.mono (by omega), by rw [LL_snoc]; exact HG8.out⟩
                            case measure => simp [intOf]; omega
                          · rw [e18] at HApp
                            have HDn : Hid (∀ w' o', JSt w w' o' db jb5 X.2.2 X.2.1 (.slice wa wn wc) ws (60 + 5 * k + pq) → Calls Try.prog 33 #[ptr db] w' (fun r w'' => r = .returned (.bool false) ∧ w'' = w') ∧ Below w.heap.size w w') := fun w' o' h => by
                              have h9 := h.down
                              rw [hdn] at h9
                              exact ⟨h9, h.bel⟩
                            clear e18 hdn
                            go_wp2_with fail
                            refine HApp.out.mono ?_
                            rintro r w8 ⟨rfl, o8, h8⟩
                            obtain ⟨HC8, hb8⟩ := HDn.out w8 o8 h8
                            have HBn : Hid (Below w.heap.size w w8) := hb8
                            clear h8 HApp hx hb8
                            go_wp2_with fail
                            refine HC8.mono ?_
                            rintro r w9 ⟨rfl, hw9⟩
                            replace hw9 := hw9.symm
                            subst hw9
                            go_wp2_with (go_at_call 9; go_must (refine (HAl.out _).mono ?_; rintro r wz ⟨rfl, hbz⟩; have HBz : Hid (Below w.heap.size w wz) := bnext HBn.out hbz; clear hbz))
                            go_ret
                            exact ⟨rfl, HBz.out⟩
                          · rw [e19] at HApp
                            have HDn : Hid (∀ w' o', JSt w w' o' db jb5 X.2.2 X.2.1 (.slice wa wn wc) ws (60 + 5 * k + pq) → Calls Try.prog 33 #[ptr db] w' (fun r w'' => r = .returned (.bool true) ∧ w'' = w') ∧ Below w.heap.size w w' ∧ Calls Try.prog 34 #[ptr db, .slice ka lk kc] w' (fun r w'' => r = .returned (.int .i64 0) ∧ ∃ o'', JSt w w'' o'' db jb5 (X.2.2.restart ks) X.2.1 (.slice wa wn wc) ws (60 + 5 * k + pq))) := fun w' o' h => by
                              have h9 := h.down
                              rw [hdn] at h9
                              exact ⟨h9, h.bel, h.restart (by omega) HKv.out⟩
                            obtain ⟨rcl, rlen, rlate, ⟨more, rmore⟩, r8⟩ := hre ks
                            have HOp : Hid (∀ w' o', JSt w w' o' db jb5 (X.2.2.restart ks) X.2.1 (.slice wa wn wc) ws (60 + 5 * k + pq) → Calls Try.prog 23 #[ptr db, .int .i64 0, .int .i64 60, .int .u32 7] w' fun r w'' => ∃ jb' v, r = .returned (.tuple #[ptr jb', v, .int .i64 0]) ∧ ∃ ga gc, v = .slice ga (wn + more.length) gc ∧ wn + more.length ≤ gc ∧ gc ≤ 9223372036854775807 ∧ Calls Try.prog 12 #[.slice ga wn gc, .slice wa wn wc] w'' (fun r w3 => r = .returned (.bool true) ∧ Below w.heap.size w w3)) := fun w' o' h => by
                              refine (h.open (base := 0) (size := 60) (gen := 7) (by unfold U32; omega) (wrong_clean rcl rlen (by omega) (by omega) 7 (by omega)) (by omega)).mono ?_
                              rintro r w'' ⟨jb', v, rfl, o2, st, kl⟩
                              rw [rmore] at kl
                              obtain ⟨a2, c2, e2, e3, e4⟩ := kl.slice
                              have el : (LL ws ++ more).length = wn + more.length := by
                                rw [List.length_append, LL_len, ← HWN.out]
                              rw [el] at e2 e3
                              refine ⟨jb', v, rfl, a2, c2, e2, e3, e4, ?_⟩
                              obtain ⟨qs, q1, q2⟩ := kl
                              have hql : qs.length = wn + more.length := by rw [← LL_len, q2, el]
                              have h12 := lists12 (rl_take (n := wn) (w := w'') (a := a2) (cap := c2) (qs := qs) (by rw [hql, ← e2]; exact q1.rl) (by omega)) st.wnt.rl (by rw [List.length_take]; omega)
                              have ht : LL (qs.take wn) = LL ws := by rw [LL_take, q2, List.take_left' (by rw [LL_len, ← HWN.out])]
                              rw [ht, decide_eq_true rfl] at h12
                              refine h12.mono ?_
                              rintro r w3 ⟨rfl, hb3⟩
                              exact ⟨rfl, bnext st.bel hb3⟩
                            generalize more.length = ml at *
                            clear e19 hdn hre rcl rlen rlate rmore r8
                            go_wp2_with fail
                            refine HApp.out.mono ?_
                            rintro r w8 ⟨rfl, o8, h8⟩
                            obtain ⟨HC8, hb8, hR8⟩ := HDn.out w8 o8 h8
                            have HBn : Hid (Below w.heap.size w w8) := hb8
                            clear h8 HApp hx hb8
                            go_wp2_with fail
                            refine HC8.mono ?_
                            rintro r w9 ⟨rfl, hw9⟩
                            replace hw9 := hw9.symm
                            subst hw9
                            clear HC8
                            by_cases hw0 : wn = 0
                            · have hw0' : ((wn : Int) == 0) = true := by simp [hw0]
                              clear hw0
                              go_wp2_with (go_at_call 9; go_must (refine (HAl.out _).mono ?_; rintro r wz ⟨rfl, hbz⟩; have HBz : Hid (Below w.heap.size w wz) := bnext HBn.out hbz; clear hbz))
                              go_ret
                              exact ⟨rfl, HBz.out⟩
                            · have hw0' : ((wn : Int) == 0) = false := by simpa using hw0
                              clear hw0
                              go_wp2_with fail
                              refine hR8.mono ?_
                              rintro r w9 ⟨rfl, o9, h9⟩
                              have HC9 := HOp.out w9 o9 h9
                              clear h9 hR8
                              go_wp2_with fail
                              refine HC9.mono ?_
                              rintro r w10 ⟨jb10, v10, rfl, ga, gc, hv10, hg1, hg2, hC10⟩
                              subst hv10
                              have HC10 : Hid (Calls Try.prog 12 #[.slice ga wn gc, .slice wa wn wc] w10 (fun r w3 => r = .returned (.bool true) ∧ Below w.heap.size w w3)) := hC10
                              clear hC10 HC9
                              go_wp2_with fail
                              refine HC10.out.mono ?_
                              rintro r w11 ⟨rfl, hb11⟩
                              replace HBn : Hid (Below w.heap.size w w11) := hb11
                              clear hb11
                              by_cases hm0 : ml = 0
                              · subst hm0
                                have heq : ((wn : Int) == (wn : Int)) = true := by simp
                                go_wp2_with fail
                                refine wp_region_ord (C := fun w' => ∃ z : WIn (fun w' => Below w11.heap.size w11 w'), w' = z.w) [(false, 0), (false, 1), (false, 2), (false, 3), (false, 4), (false, 5), (false, 6), (false, 7), (false, 8), (false, 9), (false, 10), (false, 11), (false, 12), (false, 13), (false, 14), (false, 15), (false, 16), (false, 17), (false, 18), (false, 19), (false, 20), (true, 21), (false, 22), (false, 23)] (by kernel_rfl) (by kernel_rfl) ⟨⟨w11.drew, (Below.refl _ _).drew⟩, rfl⟩ ?_
                                iterate 21 (first | (refine ord_still rfl rfl ?_; go_big_quiet_step (exact rfl); refine wpQuiet_nil ?_) | (refine ord_shut rfl rfl ?_; go_big_quiet_step (exact rfl); refine wpQuiet_nil ?_))
                                refine ord_mem rfl rfl ?_
                                go_simp
                                refine (alive9 w11.drew).mono ?_
                                rintro r w12 ⟨rfl, h1⟩
                                have HB12 : Hid (Below w11.heap.size w11 w12) := below_undrew h1
                                clear h1
                                refine ⟨⟨⟨w12, HB12.out⟩, rfl⟩, ?_⟩
                                iterate 2 (refine ord_still rfl rfl ?_; go_big_quiet_step (exact rfl); refine wpQuiet_nil ?_)
                                refine ord_end ?_
                                go_wp2
                                go_ret
                                exact ⟨rfl, bnext HBn.out HB12.out⟩
                              · have heq : (((wn + ml : Nat) : Int) == (wn : Int)) = false := by simp; omega
                                have heq' : ((wn : Int) + (ml : Int) == (wn : Int)) = false := by simp; omega
                                go_wp2_with fail
                                refine wp_region_ord (C := fun w' => ∃ z : WIn (fun w' => Below w11.heap.size w11 w'), w' = z.w) [(false, 0), (false, 1), (false, 2), (false, 3), (false, 4), (false, 5), (false, 6), (false, 7), (false, 8), (false, 9), (false, 10), (false, 11), (false, 12), (false, 13), (false, 14), (false, 15), (false, 16), (false, 17), (false, 18), (false, 19), (false, 20), (true, 21), (false, 22), (false, 23)] (by kernel_rfl) (by kernel_rfl) ⟨⟨w11.drew, (Below.refl _ _).drew⟩, rfl⟩ ?_
                                iterate 21 (first | (refine ord_still rfl rfl ?_; go_big_quiet_step (exact rfl); refine wpQuiet_nil ?_) | (refine ord_shut rfl rfl ?_; go_big_quiet_step (exact rfl); refine wpQuiet_nil ?_))
                                refine ord_mem rfl rfl ?_
                                go_simp
                                refine (alive9 w11.drew).mono ?_
                                rintro r w12 ⟨rfl, h1⟩
                                have HB12 : Hid (Below w11.heap.size w11 w12) := below_undrew h1
                                clear h1
                                refine ⟨⟨⟨w12, HB12.out⟩, rfl⟩, ?_⟩
                                iterate 2 (refine ord_still rfl rfl ?_; go_big_quiet_step (exact rfl); refine wpQuiet_nil ?_)
                                refine ord_end ?_
                                go_wp2
                                go_ret
                                exact ⟨rfl, bnext HBn.out HB12.out⟩
                        · obtain rfl : k = lb := by omega
                          have HC8 := HS.out.down
                          rw [HG.out.cl.d] at HC8
                          replace HBn : Hid (Below w.heap.size w wr) := HS.out.bel
                          clear HS HG
                          go_wp2_with fail
                          refine HC8.mono ?_
                          rintro r w9 ⟨rfl, hw9⟩
                          replace hw9 := hw9.symm
                          subst hw9
                          go_wp2_with (go_at_call 9; go_must (refine (HAl.out _).mono ?_; rintro r wz ⟨rfl, hbz⟩; have HBz : Hid (Below w.heap.size w wz) := bnext HBn.out hbz; clear hbz))
                          go_ret
                          exact ⟨rfl, HBz.out⟩
end Go.Proofs.Ytngmgdngimnljaa
