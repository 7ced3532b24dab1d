/-
  The walk of JournalCrash: whatever crashes, and whatever then survives, what was appended is there, in order.
-/
import Derived.Test.YtngmgdngimnljaaStt
namespace Go.Proofs.Ytngmgdngimnljaa
set_option linter.unusedVariables false
set_option linter.unusedSimpArgs false
set_option synthInstance.maxSize 20000
set_option maxHeartbeats 4000000
set_option maxRecDepth 20000
open Go.RowKit Go.Maps

theorem CrI.mono {D : Dk} {J : Jk} {want : List (List Int)} {size i k : Nat} (h : CrI D J want size i) (hk : i ≤ k) : CrI D J want size k :=
  ⟨h.cl, h.len, h.sz, h.gen, h.fin, h.ok, h.fl, h.cnt, h.scn, h.top, h.rnd, h.seq, by have := h.rr; omega⟩
theorem JSt.mono {w wr : World} {o : Nat → Nat} {db jb : Nat} {D : Dk} {J : Jk} {wv : Value} {ws : List VB} {N M : Nat} (h : JSt w wr o db jb D J wv ws N) (hN : N ≤ M) : JSt w wr o db jb D J wv ws M := ⟨h.dis, h.jat, h.dok.mono hN, h.wnt, h.mv⟩
theorem append_failed {J : Jk} {D : Dk} (h : J.failed = true) : J.append D [] = (19, J, D) := by
  unfold Jk.append
  rw [if_neg (by simp), if_pos h]
theorem parts11 {n : Nat} (h : n ≤ 500) : partsN n ≤ 11 := by unfold partsN; split <;> omega
theorem len_snoc {rs : List VB} {q : VB} {i : Nat} (h : rs.length = i) : (rs ++ [q]).length = i + 1 := by simp [h]
theorem LL_snoc (ws : List VB) (q : VB) : LL (ws ++ [q]) = LL ws ++ [q.2] := by simp [LL]

theorem crash_walk (size : Int) (v : Value) (qs : List ActJ) (w : World) (hs : I64 size) (hv : RowF acc w v qs) (hq : ∀ q ∈ qs, ActOk w q) : Calls Try.prog 6 #[.int .i64 size, v] w fun r w' => r = .returned (.bool true) ∧ Below w.heap.size w w' := by
  obtain ⟨a, cap, rfl⟩ := hv.len
  have hcap := hv.caps
  have hm1 : qs.length ≤ cap := hcap.2.1
  have hm2 : cap ≤ 9223372036854775807 := hcap.2.2
  obtain ⟨s0, s1⟩ := hs
  have HAl : Hid (∀ w, Calls Try.prog 9 #[] w fun r w' => r = .returned (.bool true) ∧ Below w.heap.size w w') := alive9
  have H31 : Hid (Calls Try.prog 31 #[.slice a qs.length cap] w fun r w' => r = .returned (.bool (lightA qs)) ∧ w' = w) := lightActs31 hv hq
  clear hcap
  by_cases hs1 : size < 1
  · generalize qs.length = m at *
    clear hv hq H31
    go_enter Try.func6, Try.ntmps6
    go_wp2_with (go_at_call 9; go_must (refine (HAl.out _).mono ?_; rintro r w2 ⟨rfl, hb2⟩; have HB2 : Hid (Below w.heap.size w w2) := hb2; clear hb2))
    go_ret
    exact ⟨rfl, HB2.out⟩
  · by_cases hs2 : 60 < size
    · generalize qs.length = m at *
      clear hv hq H31
      go_enter Try.func6, Try.ntmps6
      go_wp2_with (go_at_call 9; go_must (refine (HAl.out _).mono ?_; rintro r w2 ⟨rfl, hb2⟩; have HB2 : Hid (Below w.heap.size w w2) := hb2; clear hb2))
      go_ret
      exact ⟨rfl, HB2.out⟩
    · cases hlt : lightA qs
      · rw [hlt] at H31
        generalize qs.length = m at *
        clear hv hq
        go_enter Try.func6, Try.ntmps6
        go_wp2_with (first
          | (go_at_call 31; go_must (refine H31.out.mono ?_; rintro r w2 ⟨rfl, hw2⟩; replace hw2 := hw2.symm; subst hw2))
          | (go_at_call 9; go_must (refine (HAl.out _).mono ?_; rintro r w2 ⟨rfl, hb2⟩; have HB2 : Hid (Below w.heap.size w w2) := hb2; clear hb2)))
        go_ret
        exact ⟨rfl, HB2.out⟩
      · rw [hlt] at H31
        obtain ⟨l30, l500⟩ := lightA_true hlt
        obtain ⟨sn, hsn⟩ := Int.eq_ofNat_of_zero_le (show 0 ≤ size by omega)
        subst hsn
        have hsz : 1 ≤ sn ∧ sn ≤ 60 := by omega
        have HV : Hid (RowF acc w (.slice a qs.length cap) qs) := hv
        have HQ : Hid (∀ q ∈ qs, ActOk w q ∧ q.b.length ≤ 500) := fun q h => ⟨hq q h, (l500 q h).1⟩
        obtain ⟨m, hm⟩ : ∃ m, m = qs.length := ⟨_, rfl⟩
        have HM : Hid (m = qs.length) := hm
        obtain ⟨db, hdb⟩ : ∃ db, db = w.heap.size + 2 := ⟨_, rfl⟩
        have H19 := js0_new w
        rw [← hdb] at H19
        have H19' : Hid (Calls Try.prog 19 #[.int .i64 60] w fun r w' => r = .returned (.tuple #[ptr db, .int .i64 0]) ∧ ∃ o', JS0 w w' o' db (newD 60) 0) := H19
        have HO1 : Hid (∀ w1 o1, JS0 w w1 o1 db (newD 60) 0 → Calls Try.prog 23 #[ptr db, .int .i64 0, .int .i64 (sn : Int), .int .u32 7] w1 fun r w' => ∃ jb v, r = .returned (.tuple #[ptr jb, v, .int .i64 0]) ∧ (∃ a c, v = .slice a 0 c) ∧ ∃ o', JSt w w' o' db jb (newD 60) (openJ (cont (newD 60) 0 sn) 0 sn 7) (.slice none 0 0) [] 0) := fun w1 o1 h1 => by
          refine (h1.open (base := 0) (size := sn) (gen := 7) (by unfold U32; omega) (wrong_clean (new_clean 60) (by simp [newD]) hsz.1 hsz.2 7 (by omega)) (by rw [new_late]; omega)).mono ?_
          rintro r w' ⟨jb, v, rfl, o', st, kl⟩
          rw [new_scan] at kl
          obtain ⟨a, c, e, _⟩ := kl.slice
          exact ⟨jb, v, rfl, ⟨a, c, e⟩, o', st⟩
        have HCr0 : Hid (CrI (newD 60) (openJ (cont (newD 60) 0 sn) 0 sn 7) (LL []) sn 0) := crI_start hsz
        rw [← hm] at hm1 l30 HV H31 ⊢
        clear hv hq hm hlt l500 H19 hdb hs1 hs2 s0 s1
        go_enter Try.func6, Try.ntmps6
        go_wp2_with (first
          | (go_at_call 31; go_must (refine H31.out.mono ?_; rintro r w2 ⟨rfl, hw2⟩; replace hw2 := hw2.symm; subst hw2))
          | (go_at_call 19; go_must (refine H19'.out.mono ?_; rintro r w2 ⟨rfl, o2, h2⟩; have HC := HO1.out w2 o2 h2; clear h2))
          | (go_at_call 23; go_must (refine HC.mono ?_; rintro r w3 ⟨jb3, v3, rfl, ⟨a3, c3, hv3⟩, o3, h3⟩; subst hv3; have HS3 : Hid (JSt w w3 o3 db jb3 (newD 60) (openJ (cont (newD 60) 0 sn) 0 sn 7) (.slice none 0 0) [] 0) := h3; clear h3)))
        go_loopw [7, 10, 11] (fun jv wv iv wr => ∃ (k : Nat) (o' : Nat → Nat) (D : Dk) (J : Jk) (jb : Nat) (ws : List VB) (wa : Option Addr) (wn wc : Nat), k ≤ m ∧ iv = .int .i64 k ∧ jv = ptr jb ∧ wv = .slice wa wn wc ∧ Hid (wn = ws.length ∧ JSt w wr o' db jb D J (.slice wa wn wc) ws (12 * k) ∧ CrI D J (LL ws) sn k)) (fun _ _ iv _ => m - (intOf iv).toNat)
        case atStart => exact ⟨0, o3, newD 60, _, jb3, [], none, 0, 0, Nat.zero_le _, rfl, rfl, rfl, rfl, HS3.out, HCr0.out⟩
        case round =>
          obtain ⟨k, o', D, J, jb, ws, wa, wn, wc, hk, rfl, rfl, rfl, hK⟩ := hrel
          have HWN : Hid (wn = ws.length) := hK.out.1
          have HS : Hid (JSt w wr o' db jb D J (.slice wa wn wc) ws (12 * k)) := hK.out.2.1
          have HC : Hid (CrI D J (LL ws) sn k) := hK.out.2.2
          have hwl : wn ≤ 60 := by
            have h1 := HC.out.ok.cc
            have h2 := HC.out.ok.nf
            have h3 := HC.out.fin
            have h4 := HC.out.cnt
            rw [LL_len, ← HWN.out] at h4
            omega
          have hwcc := slice_of_own HS.out.wnt.own
          obtain ⟨wa', wc', hwa, hwc1, hwc2⟩ := hwcc
          obtain ⟨rfl, hx9, rfl⟩ : wa = wa' ∧ wn = ws.length ∧ wc = wc' := by simpa using hwa
          rw [← HWN.out] at hwc1
          clear hwa hx9 hK
          by_cases hlt : k < m
          · obtain ⟨q, hq⟩ : ∃ q, qs[k]? = some q := ⟨_, List.getElem?_eq_getElem (by rw [← HM.out]; exact hlt)⟩
            obtain ⟨bb, off, rfl, hr⟩ := acc_cell HV.out hq
            obtain ⟨hqo, hq500⟩ := HQ.out q (List.mem_of_getElem? hq)
            obtain ⟨qa, qc, hqv⟩ := hqo.b.len
            obtain ⟨ka, kc, hkv⟩ := hqo.k.len
            have hqb := hqo.b
            have hqk := hqo.k
            have hqa := hqo.a
            obtain ⟨bv, b, armed, kv, ks⟩ := q
            simp only at hqv hkv hqb hqk hqa hq500
            subst hqv
            subst hkv
            have hbcap := hqb.cap
            have hkcap := hqk.caps
            have y0 := hr 0 _ rfl
            have y1 := hr 1 _ rfl
            have y2 := hr 2 _ rfl
            rw [Nat.add_zero] at y0
            simp only at y0 y1 y2
            have HCell : Hid (∀ w', Below w.heap.size w w' → w'.cell? ⟨bb, off + k * 3, none⟩ = some (.slice qa b.length qc) ∧ w'.cell? ⟨bb, off + k * 3 + 1, none⟩ = some (.int .i64 armed) ∧ w'.cell? ⟨bb, off + k * 3 + 2, none⟩ = some (.slice ka ks.length kc)) := fun w' hb =>
              ⟨(hb.cell (World.block_lt_of_cell? w _ y0)).trans y0, (hb.cell (World.block_lt_of_cell? w _ y1)).trans y1, (hb.cell (World.block_lt_of_cell? w _ y2)).trans y2⟩
            have HQb : Hid (Rd w (.slice qa b.length qc) b) := hqb
            have HQk : Hid (RowF bc w (.slice ka ks.length kc) ks) := hqk
            obtain ⟨aa0, aa1⟩ := hqa
            have hp11 := parts11 hq500
            obtain ⟨bl, hbl⟩ : ∃ bl, bl = b.length := ⟨_, rfl⟩
            have HBL : Hid (bl = b.length) := hbl
            have HP13 : Hid (∀ w1, Calls Try.prog 13 #[.int .i64 (bl : Int)] w1 fun r w' => r = .returned (.int .i64 ((partsN b.length : Nat) : Int)) ∧ w' = w1) := fun w1 => by
              have := parts13 (b.length : Int) w1 (by unfold I64; omega)
              rw [partsI_nat (by omega)] at this
              rw [hbl]
              exact this
            rw [← hbl] at HCell HQb
            obtain ⟨kl, hkl⟩ : ∃ kl, kl = ks.length := ⟨_, rfl⟩
            rw [← hkl] at HCell HQk
            have hb1 : bl ≤ qc := by rw [hbl]; exact hbcap.2.1
            have hb2 : qc ≤ 9223372036854775807 := hbcap.2.2
            have hb5 : bl ≤ 500 := by rw [hbl]; exact hq500
            have hk1 : kl ≤ kc := by rw [hkl]; exact hkcap.2.1
            have hk2 : kc ≤ 9223372036854775807 := hkcap.2.2
            clear hr hqo hq y0 y1 y2 hqb hqk hbcap hkcap hbl hkl
            obtain ⟨x0, x1, x2⟩ := HCell.out wr HS.out.bel
            by_cases harm : 0 ≤ armed
            · have hArm := HS.out.arm armed aa1
              have HArm : Hid (Calls Try.prog 32 #[ptr db, .int .i64 armed] wr fun r w' => ∃ c, r = .returned (.int .i64 c) ∧ ∃ o', JSt w w' o' db jb (D.arm armed).2 J (.slice wa wn wc) ws (12 * k)) := hArm
              have HC1 : Hid (CrI (D.arm armed).2 J (LL ws) sn k) := HC.out.arm armed
              clear hArm HC HS
              generalize (D.arm armed).2 = D1 at *
              go_wp2_with fail
              refine HArm.out.mono ?_
              rintro r w1 ⟨c1', rfl, o1, h1⟩
              have HS1 : Hid (JSt w w1 o1 db jb D1 J (.slice wa wn wc) ws (12 * k)) := h1
              clear h1 x0 x1 x2 HArm
              go_wp2_with fail
              refine (HS1.out.room HC1.out.ok).mono ?_
              rintro r w2 ⟨rfl, o2, h2⟩
              obtain ⟨z0, z1, z2⟩ := HCell.out w2 h2.bel
              have hApp := h2.append HC1.out.ok (by omega) HQb.out (by have := HBL.out; omega)
              have HApp : Hid (Calls Try.prog 29 #[ptr jb, .slice qa bl qc] w2 fun r w' => r = .returned (.int .i64 (J.append D1 b).1) ∧ ∃ o', JSt w w' o' db jb (J.append D1 b).2.2 (J.append D1 b).2.1 (.slice wa wn wc) ws (12 * k + partsN b.length)) := hApp
              clear h2 hApp
              have HCs := append_cases (base := 0) (size := sn) HC1.out.cl HC1.out.ok (Nat.zero_le _) (by rw [HC1.out.fin]; omega) (by rw [HC1.out.len]; omega) HC1.out.fl (b := b) (by have := HBL.out; omega) HQb.out.oct
              rcases HCs with ⟨D', eA, hcl, hlen, harmd, hroom, c1, c2, c3⟩ | ⟨eB, hfull⟩ | ⟨harmd, D', kk, eC, hdn, hgl, hkk, heach⟩
              · have HCr : Hid (CrI D' { J with next := J.next + partsN b.length, count := J.count + 1 } (LL ws ++ [b]) sn k) := HC1.out.done (by have := HBL.out; omega) hcl hlen hroom c1 c2 c3
                have hdn : D'.down = false := hcl.d
                have hrml : J.fin - J.next ≤ 400 := by have := HC1.out.ok.ff; omega
                have HDn : Hid (∀ w' o' wv ws' N, JSt w w' o' db jb D' { J with next := J.next + partsN b.length, count := J.count + 1 } wv ws' N → Calls Try.prog 33 #[ptr db] w' fun r w'' => r = .returned (.bool false) ∧ w'' = w') := fun w' o' wv ws' N h => by
                  have := h.down
                  rwa [hdn] at this
                clear hcl hlen harmd hroom c1 c2 c3 hdn
                rw [eA] at HApp
                clear eA
                generalize J.fin - J.next = rm at *
                go_wp2_with fail
                refine HApp.out.mono ?_
                rintro r w3 ⟨rfl, o3, h3⟩
                obtain ⟨t0, t1, t2⟩ := HCell.out w3 h3.bel
                have HS3 : Hid (JSt w w3 o3 db jb D' { J with next := J.next + partsN b.length, count := J.count + 1 } (.slice wa wn wc) ws (12 * k + partsN b.length)) := h3
                have HRow3 : Hid ((w3.alloc (.cells #[.slice qa bl qc] 23)).ownsRow 0 23 1 (.slice wa wn wc) ws.length (flat lc ws)) := h3.wnt.own.alloc _
                clear h3 HApp z0 z1 z2
                go_wp2_with (at_builtin; go_must (refine wpList_append_rows ty25 lc_len (by omega) rfl (.tmp 81) (.tmp 87) rfl _ ws rfl HRow3.out _ [(.slice qa bl qc, b)] rfl (rowF_one (f := lc) w3 (.slice qa bl qc, b) 23) (flat_lc_one _ (fun q hq => by simp at hq; subst hq; rfl)) (by have := HWN.out; simp; omega) ?_; intro v4 w4 k1 k2 k3; obtain ⟨o4, h4⟩ := HS3.out.more HQb.out k1 k2 k3; obtain ⟨a4, c4, hv4, hc41, hc42⟩ := slice_of_own k1; rw [len_snoc HWN.out.symm] at hv4; subst hv4; have HS4 : Hid (JSt w w4 o4 db jb D' { J with next := J.next + partsN b.length, count := J.count + 1 } (.slice a4 (wn + 1) c4) (ws ++ [(.slice qa bl qc, b)]) (12 * k + partsN b.length)) := h4; have HC4 := HDn.out w4 o4 _ _ _ h4; clear k1 k2 k3 h4))
                refine HC4.mono ?_
                rintro r w5 ⟨rfl, hw5⟩
                replace hw5 := hw5.symm
                subst hw5
                go_wp2
                go_roundw
                case rel => exact ⟨k + 1, o4, D', _, jb, ws ++ [(.slice qa bl qc, b)], a4, wn + 1, c4, by omega, by go_num, rfl, rfl, (len_snoc HWN.out.symm).symm, HS4.out.mono (by omega), by rw [LL_snoc]; exact HCr.out.mono (by omega)⟩
                case measure => simp [intOf]; omega
              · have hdn : D1.down = false := HC1.out.cl.d
                have hrml : J.fin - J.next ≤ 400 := by have := HC1.out.ok.ff; omega
                have HDn : Hid (∀ w' o' N, JSt w w' o' db jb D1 J (.slice wa wn wc) ws N → Calls Try.prog 33 #[ptr db] w' fun r w'' => r = .returned (.bool false) ∧ w'' = w') := fun w' o' N h => by
                  have := h.down
                  rwa [hdn] at this
                rw [eB] at HApp
                clear eB hdn
                generalize J.fin - J.next = rm at *
                generalize partsN b.length = pn at *
                go_wp2_with fail
                refine HApp.out.mono ?_
                rintro r w3 ⟨rfl, o3, h3⟩
                obtain ⟨t0, t1, t2⟩ := HCell.out w3 h3.bel
                have HS3 : Hid (JSt w w3 o3 db jb D1 J (.slice wa wn wc) ws (12 * k + pn)) := h3
                have HC4 := HDn.out w3 o3 _ h3
                clear h3 HApp z0 z1 z2
                go_wp2_with (go_at_call 13; go_must (refine (HP13.out _).mono ?_; rintro r w5 ⟨rfl, hw5⟩; replace hw5 := hw5.symm; subst hw5))
                refine HC4.mono ?_
                rintro r w5 ⟨rfl, hw5⟩
                replace hw5 := hw5.symm
                subst hw5
                go_wp2
                go_roundw
                case rel => exact ⟨k + 1, o3, D1, J, jb, ws, wa, wn, wc, by omega, by go_num, rfl, rfl, HWN.out, HS3.out.mono (by omega), HC1.out.mono (by omega)⟩
                case measure => simp [intOf]; omega
              · have hCr := HC1.out.crash (by omega) hkk hgl ks (heach ks)
                have HCr : Hid (CrI (D'.restart ks) (openJ (cont (D'.restart ks) 0 sn) 0 sn 7) (LL ws) sn (k + 1)) := hCr
                have hrml : J.fin - J.next ≤ 400 := by have := HC1.out.ok.ff; omega
                have hJf : JOk { J with failed := true } := ⟨HC1.out.ok.g, HC1.out.ok.g0, HC1.out.ok.r, HC1.out.ok.r0, HC1.out.ok.nf, HC1.out.ok.ff, HC1.out.ok.cc⟩
                have HAp2 : Hid (∀ w' o', JSt w w' o' db jb D' { J with failed := true } (.slice wa wn wc) ws (12 * k + partsN b.length) → Calls Try.prog 29 #[ptr jb, .slice none 0 0] w' fun r w'' => r = .returned (.int .i64 19) ∧ ∃ o'', JSt w w'' o'' db jb D' { J with failed := true } (.slice wa wn wc) ws (12 * k + 12)) := fun w' o' h => by
                  refine (h.append hJf (by omega) (rd_nil w) (by simp)).mono ?_
                  rintro r w'' ⟨rfl, o'', st⟩
                  rw [append_failed rfl] at st ⊢
                  exact ⟨rfl, o'', st.mono (by have : partsN ([] : List Int).length = 1 := rfl; omega)⟩
                have HDn : Hid (∀ w' o' N, JSt w w' o' db jb D' { J with failed := true } (.slice wa wn wc) ws N → Calls Try.prog 33 #[ptr db] w' fun r w'' => r = .returned (.bool true) ∧ w'' = w') := fun w' o' N h => by
                  have := h.down
                  rwa [hdn] at this
                have HRs : Hid (∀ w' o', JSt w w' o' db jb D' { J with failed := true } (.slice wa wn wc) ws (12 * k + 12) → Calls Try.prog 34 #[ptr db, .slice ka kl kc] w' fun r w'' => r = .returned (.int .i64 0) ∧ ∃ o'', JSt w w'' o'' db jb (D'.restart ks) { J with failed := true } (.slice wa wn wc) ws (12 * k + 12)) := fun w' o' h => h.restart (by omega) HQk.out
                have HOp : Hid (∀ w' o', JSt w w' o' db jb (D'.restart ks) { J with failed := true } (.slice wa wn wc) ws (12 * k + 12) → Calls Try.prog 23 #[ptr db, .int .i64 0, .int .i64 (sn : Int), .int .u32 7] w' fun r w'' => ∃ jb' v, r = .returned (.tuple #[ptr jb', v, .int .i64 0]) ∧ (∃ a c, v = .slice a wn c ∧ wn ≤ c ∧ c ≤ 9223372036854775807) ∧ Calls Try.prog 12 #[v, .slice wa wn wc] w'' (fun r w3 => r = .returned (.bool true) ∧ ∃ o3, JSt w w3 o3 db jb' (D'.restart ks) (openJ (cont (D'.restart ks) 0 sn) 0 sn 7) (.slice wa wn wc) ws (12 * k + 12))) := fun w' o' h => by
                  refine (h.open (base := 0) (size := sn) (gen := 7) (by unfold U32; omega) (wrong_clean HCr.out.cl HCr.out.len hsz.1 hsz.2 7 (by omega)) (HCr.out.late (by omega))).mono ?_
                  rintro r w'' ⟨jb', v, rfl, o2, st, kl⟩
                  rw [HCr.out.scn] at kl
                  obtain ⟨a2, c2, e2, e3, e4⟩ := kl.slice
                  rw [LL_len, ← HWN.out] at e2 e3
                  refine ⟨jb', v, rfl, ⟨a2, c2, e2, e3, e4⟩, (st.lists kl (by rw [LL_len, ← HWN.out]; omega)).mono ?_⟩
                  rintro r w3 ⟨rfl, o3, st3⟩
                  rw [decide_eq_true rfl]
                  exact ⟨rfl, o3, st3⟩
                rw [eC] at HApp
                clear eC hdn harmd hgl hkk heach hCr hJf
                generalize J.fin - J.next = rm at *
                go_wp2_with fail
                refine HApp.out.mono ?_
                rintro r w3 ⟨rfl, o3, h3⟩
                have HC4 := HAp2.out w3 o3 h3
                clear h3 HApp z0 z1 z2
                go_wp2_with fail
                refine HC4.mono ?_
                rintro r w4 ⟨rfl, o4, h4⟩
                obtain ⟨t0, t1, t2⟩ := HCell.out w4 h4.bel
                have HC5 := HDn.out w4 o4 _ h4
                have HC6 := HRs.out w4 o4 h4
                clear h4 HC4
                go_wp2_with fail
                refine HC5.mono ?_
                rintro r w5 ⟨rfl, hw5⟩
                replace hw5 := hw5.symm
                subst hw5
                clear HC5
                go_wp2_with fail
                refine HC6.mono ?_
                rintro r w6 ⟨rfl, o6, h6⟩
                have HC7 := HOp.out w6 o6 h6
                clear h6 HC6 t0 t1 t2
                go_wp2_with fail
                refine HC7.mono ?_
                rintro r w7 ⟨jb7, v7, rfl, ⟨a7, c7, hv7, hc71, hc72⟩, hC8⟩
                subst hv7
                clear HC7
                have hne : ((wn : Int) == (wn : Int) + 1) = false := by simp; omega
                go_wp2_with fail
                refine hC8.mono ?_
                rintro r w8 ⟨rfl, o8, h8⟩
                have HS8 : Hid (JSt w w8 o8 db jb7 (D'.restart ks) (openJ (cont (D'.restart ks) 0 sn) 0 sn 7) (.slice wa wn wc) ws (12 * k + 12)) := h8
                clear h8 hC8
                go_wp2
                go_roundw
                case rel => exact ⟨k + 1, o8, _, _, jb7, ws, wa, wn, wc, by omega, by go_num, rfl, rfl, HWN.out, HS8.out.mono (by omega), HCr.out⟩
                case measure => simp [intOf]; omega
            · skip
              skip
              have HS1 : Hid (JSt w wr o' db jb D J (.slice wa wn wc) ws (12 * k)) := HS
              have HC1 : Hid (CrI D J (LL ws) sn k) := HC
              clear HS HC
              generalize D = D1 at *
              go_wp2_with fail
              clear x0 x1 x2
              refine (HS1.out.room HC1.out.ok).mono ?_
              rintro r w2 ⟨rfl, o2, h2⟩
              obtain ⟨z0, z1, z2⟩ := HCell.out w2 h2.bel
              have hApp := h2.append HC1.out.ok (by omega) HQb.out (by have := HBL.out; omega)
              have HApp : Hid (Calls Try.prog 29 #[ptr jb, .slice qa bl qc] w2 fun r w' => r = .returned (.int .i64 (J.append D1 b).1) ∧ ∃ o', JSt w w' o' db jb (J.append D1 b).2.2 (J.append D1 b).2.1 (.slice wa wn wc) ws (12 * k + partsN b.length)) := hApp
              clear h2 hApp
              have HCs := append_cases (base := 0) (size := sn) HC1.out.cl HC1.out.ok (Nat.zero_le _) (by rw [HC1.out.fin]; omega) (by rw [HC1.out.len]; omega) HC1.out.fl (b := b) (by have := HBL.out; omega) HQb.out.oct
              rcases HCs with ⟨D', eA, hcl, hlen, harmd, hroom, c1, c2, c3⟩ | ⟨eB, hfull⟩ | ⟨harmd, D', kk, eC, hdn, hgl, hkk, heach⟩
              · have HCr : Hid (CrI D' { J with next := J.next + partsN b.length, count := J.count + 1 } (LL ws ++ [b]) sn k) := HC1.out.done (by have := HBL.out; omega) hcl hlen hroom c1 c2 c3
                have hdn : D'.down = false := hcl.d
                have hrml : J.fin - J.next ≤ 400 := by have := HC1.out.ok.ff; omega
                have HDn : Hid (∀ w' o' wv ws' N, JSt w w' o' db jb D' { J with next := J.next + partsN b.length, count := J.count + 1 } wv ws' N → Calls Try.prog 33 #[ptr db] w' fun r w'' => r = .returned (.bool false) ∧ w'' = w') := fun w' o' wv ws' N h => by
                  have := h.down
                  rwa [hdn] at this
                clear hcl hlen harmd hroom c1 c2 c3 hdn
                rw [eA] at HApp
                clear eA
                generalize J.fin - J.next = rm at *
                go_wp2_with fail
                refine HApp.out.mono ?_
                rintro r w3 ⟨rfl, o3, h3⟩
                obtain ⟨t0, t1, t2⟩ := HCell.out w3 h3.bel
                have HS3 : Hid (JSt w w3 o3 db jb D' { J with next := J.next + partsN b.length, count := J.count + 1 } (.slice wa wn wc) ws (12 * k + partsN b.length)) := h3
                have HRow3 : Hid ((w3.alloc (.cells #[.slice qa bl qc] 23)).ownsRow 0 23 1 (.slice wa wn wc) ws.length (flat lc ws)) := h3.wnt.own.alloc _
                clear h3 HApp z0 z1 z2
                go_wp2_with (at_builtin; go_must (refine wpList_append_rows ty25 lc_len (by omega) rfl (.tmp 81) (.tmp 87) rfl _ ws rfl HRow3.out _ [(.slice qa bl qc, b)] rfl (rowF_one (f := lc) w3 (.slice qa bl qc, b) 23) (flat_lc_one _ (fun q hq => by simp at hq; subst hq; rfl)) (by have := HWN.out; simp; omega) ?_; intro v4 w4 k1 k2 k3; obtain ⟨o4, h4⟩ := HS3.out.more HQb.out k1 k2 k3; obtain ⟨a4, c4, hv4, hc41, hc42⟩ := slice_of_own k1; rw [len_snoc HWN.out.symm] at hv4; subst hv4; have HS4 : Hid (JSt w w4 o4 db jb D' { J with next := J.next + partsN b.length, count := J.count + 1 } (.slice a4 (wn + 1) c4) (ws ++ [(.slice qa bl qc, b)]) (12 * k + partsN b.length)) := h4; have HC4 := HDn.out w4 o4 _ _ _ h4; clear k1 k2 k3 h4))
                refine HC4.mono ?_
                rintro r w5 ⟨rfl, hw5⟩
                replace hw5 := hw5.symm
                subst hw5
                go_wp2
                go_roundw
                case rel => exact ⟨k + 1, o4, D', _, jb, ws ++ [(.slice qa bl qc, b)], a4, wn + 1, c4, by omega, by go_num, rfl, rfl, (len_snoc HWN.out.symm).symm, HS4.out.mono (by omega), by rw [LL_snoc]; exact HCr.out.mono (by omega)⟩
                case measure => simp [intOf]; omega
              · have hdn : D1.down = false := HC1.out.cl.d
                have hrml : J.fin - J.next ≤ 400 := by have := HC1.out.ok.ff; omega
                have HDn : Hid (∀ w' o' N, JSt w w' o' db jb D1 J (.slice wa wn wc) ws N → Calls Try.prog 33 #[ptr db] w' fun r w'' => r = .returned (.bool false) ∧ w'' = w') := fun w' o' N h => by
                  have := h.down
                  rwa [hdn] at this
                rw [eB] at HApp
                clear eB hdn
                generalize J.fin - J.next = rm at *
                generalize partsN b.length = pn at *
                go_wp2_with fail
                refine HApp.out.mono ?_
                rintro r w3 ⟨rfl, o3, h3⟩
                obtain ⟨t0, t1, t2⟩ := HCell.out w3 h3.bel
                have HS3 : Hid (JSt w w3 o3 db jb D1 J (.slice wa wn wc) ws (12 * k + pn)) := h3
                have HC4 := HDn.out w3 o3 _ h3
                clear h3 HApp z0 z1 z2
                go_wp2_with (go_at_call 13; go_must (refine (HP13.out _).mono ?_; rintro r w5 ⟨rfl, hw5⟩; replace hw5 := hw5.symm; subst hw5))
                refine HC4.mono ?_
                rintro r w5 ⟨rfl, hw5⟩
                replace hw5 := hw5.symm
                subst hw5
                go_wp2
                go_roundw
                case rel => exact ⟨k + 1, o3, D1, J, jb, ws, wa, wn, wc, by omega, by go_num, rfl, rfl, HWN.out, HS3.out.mono (by omega), HC1.out.mono (by omega)⟩
                case measure => simp [intOf]; omega
              · have hCr := HC1.out.crash (by omega) hkk hgl ks (heach ks)
                have HCr : Hid (CrI (D'.restart ks) (openJ (cont (D'.restart ks) 0 sn) 0 sn 7) (LL ws) sn (k + 1)) := hCr
                have hrml : J.fin - J.next ≤ 400 := by have := HC1.out.ok.ff; omega
                have hJf : JOk { J with failed := true } := ⟨HC1.out.ok.g, HC1.out.ok.g0, HC1.out.ok.r, HC1.out.ok.r0, HC1.out.ok.nf, HC1.out.ok.ff, HC1.out.ok.cc⟩
                have HAp2 : Hid (∀ w' o', JSt w w' o' db jb D' { J with failed := true } (.slice wa wn wc) ws (12 * k + partsN b.length) → Calls Try.prog 29 #[ptr jb, .slice none 0 0] w' fun r w'' => r = .returned (.int .i64 19) ∧ ∃ o'', JSt w w'' o'' db jb D' { J with failed := true } (.slice wa wn wc) ws (12 * k + 12)) := fun w' o' h => by
                  refine (h.append hJf (by omega) (rd_nil w) (by simp)).mono ?_
                  rintro r w'' ⟨rfl, o'', st⟩
                  rw [append_failed rfl] at st ⊢
                  exact ⟨rfl, o'', st.mono (by have : partsN ([] : List Int).length = 1 := rfl; omega)⟩
                have HDn : Hid (∀ w' o' N, JSt w w' o' db jb D' { J with failed := true } (.slice wa wn wc) ws N → Calls Try.prog 33 #[ptr db] w' fun r w'' => r = .returned (.bool true) ∧ w'' = w') := fun w' o' N h => by
                  have := h.down
                  rwa [hdn] at this
                have HRs : Hid (∀ w' o', JSt w w' o' db jb D' { J with failed := true } (.slice wa wn wc) ws (12 * k + 12) → Calls Try.prog 34 #[ptr db, .slice ka kl kc] w' fun r w'' => r = .returned (.int .i64 0) ∧ ∃ o'', JSt w w'' o'' db jb (D'.restart ks) { J with failed := true } (.slice wa wn wc) ws (12 * k + 12)) := fun w' o' h => h.restart (by omega) HQk.out
                have HOp : Hid (∀ w' o', JSt w w' o' db jb (D'.restart ks) { J with failed := true } (.slice wa wn wc) ws (12 * k + 12) → Calls Try.prog 23 #[ptr db, .int .i64 0, .int .i64 (sn : Int), .int .u32 7] w' fun r w'' => ∃ jb' v, r = .returned (.tuple #[ptr jb', v, .int .i64 0]) ∧ (∃ a c, v = .slice a wn c ∧ wn ≤ c ∧ c ≤ 9223372036854775807) ∧ Calls Try.prog 12 #[v, .slice wa wn wc] w'' (fun r w3 => r = .returned (.bool true) ∧ ∃ o3, JSt w w3 o3 db jb' (D'.restart ks) (openJ (cont (D'.restart ks) 0 sn) 0 sn 7) (.slice wa wn wc) ws (12 * k + 12))) := fun w' o' h => by
                  refine (h.open (base := 0) (size := sn) (gen := 7) (by unfold U32; omega) (wrong_clean HCr.out.cl HCr.out.len hsz.1 hsz.2 7 (by omega)) (HCr.out.late (by omega))).mono ?_
                  rintro r w'' ⟨jb', v, rfl, o2, st, kl⟩
                  rw [HCr.out.scn] at kl
                  obtain ⟨a2, c2, e2, e3, e4⟩ := kl.slice
                  rw [LL_len, ← HWN.out] at e2 e3
                  refine ⟨jb', v, rfl, ⟨a2, c2, e2, e3, e4⟩, (st.lists kl (by rw [LL_len, ← HWN.out]; omega)).mono ?_⟩
                  rintro r w3 ⟨rfl, o3, st3⟩
                  rw [decide_eq_true rfl]
                  exact ⟨rfl, o3, st3⟩
                rw [eC] at HApp
                clear eC hdn harmd hgl hkk heach hCr hJf
                generalize J.fin - J.next = rm at *
                go_wp2_with fail
                refine HApp.out.mono ?_
                rintro r w3 ⟨rfl, o3, h3⟩
                have HC4 := HAp2.out w3 o3 h3
                clear h3 HApp z0 z1 z2
                go_wp2_with fail
                refine HC4.mono ?_
                rintro r w4 ⟨rfl, o4, h4⟩
                obtain ⟨t0, t1, t2⟩ := HCell.out w4 h4.bel
                have HC5 := HDn.out w4 o4 _ h4
                have HC6 := HRs.out w4 o4 h4
                clear h4 HC4
                go_wp2_with fail
                refine HC5.mono ?_
                rintro r w5 ⟨rfl, hw5⟩
                replace hw5 := hw5.symm
                subst hw5
                clear HC5
                go_wp2_with fail
                refine HC6.mono ?_
                rintro r w6 ⟨rfl, o6, h6⟩
                have HC7 := HOp.out w6 o6 h6
                clear h6 HC6 t0 t1 t2
                go_wp2_with fail
                refine HC7.mono ?_
                rintro r w7 ⟨jb7, v7, rfl, ⟨a7, c7, hv7, hc71, hc72⟩, hC8⟩
                subst hv7
                clear HC7
                have hne : ((wn : Int) == (wn : Int) + 1) = false := by simp; omega
                go_wp2_with fail
                refine hC8.mono ?_
                rintro r w8 ⟨rfl, o8, h8⟩
                have HS8 : Hid (JSt w w8 o8 db jb7 (D'.restart ks) (openJ (cont (D'.restart ks) 0 sn) 0 sn 7) (.slice wa wn wc) ws (12 * k + 12)) := h8
                clear h8 hC8
                go_wp2
                go_roundw
                case rel => exact ⟨k + 1, o8, _, _, jb7, ws, wa, wn, wc, by omega, by go_num, rfl, rfl, HWN.out, HS8.out.mono (by omega), HCr.out⟩
                case measure => simp [intOf]; omega
          · obtain rfl : k = m := by omega
            have HO2 : Hid (Calls Try.prog 23 #[ptr db, .int .i64 0, .int .i64 (sn : Int), .int .u32 7] wr fun r w' => ∃ jb' v, r = .returned (.tuple #[ptr jb', v, .int .i64 0]) ∧ (∃ a c, v = .slice a wn c) ∧ Calls Try.prog 12 #[v, .slice wa wn wc] w' (fun r w'' => r = .returned (.bool true) ∧ Below w.heap.size w w'')) := by
              refine (HS.out.open (base := 0) (size := sn) (gen := 7) (by unfold U32; omega) (wrong_clean HC.out.cl HC.out.len hsz.1 hsz.2 7 (by omega)) (HC.out.late' (by omega))).mono ?_
              rintro r w' ⟨jb', v, rfl, o2, st, kl⟩
              rw [HC.out.scn] at kl
              obtain ⟨a2, c2, e2, _⟩ := kl.slice
              rw [LL_len, ← HWN.out] at e2
              refine ⟨jb', v, rfl, ⟨a2, c2, e2⟩, (st.lists kl (by rw [LL_len, ← HWN.out]; omega)).mono ?_⟩
              rintro r w'' ⟨rfl, o3, st3⟩
              rw [decide_eq_true rfl]
              exact ⟨rfl, st3.bel⟩
            clear HS HC
            go_wp2_with (first
              | (go_at_call 23; go_must (refine HO2.out.mono ?_; rintro r w4 ⟨jb4, v4, rfl, ⟨a4, c4, hv4⟩, hC4⟩; subst hv4; have HC4 : Hid (Calls Try.prog 12 #[.slice a4 wn c4, .slice wa wn wc] w4 (fun r w'' => r = .returned (.bool true) ∧ Below w.heap.size w w'')) := hC4; clear hC4))
              | (go_at_call 12; go_must (refine HC4.out.mono ?_; rintro r w5 ⟨rfl, hb5⟩; have HB5 : Hid (Below w.heap.size w w5) := hb5; clear hb5))
              | (go_at_call 9; go_must (refine (HAl.out _).mono ?_; rintro r w6 ⟨rfl, hb6⟩; have HB6 : Hid (Below w.heap.size w w6) := bnext HB5.out hb6; clear hb6)))
            go_ret
            exact ⟨rfl, HB6.out⟩
end Go.Proofs.Ytngmgdngimnljaa
