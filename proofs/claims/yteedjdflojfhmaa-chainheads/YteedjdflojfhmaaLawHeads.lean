/-
  The walk of ChainHeads: two logs of one writer with heads that are alike have the same entries.
-/
import Derived.Test.YteedjdflojfhmaaDuo
import Derived.Deep.LoopGhost
namespace Go.Proofs.Yteedjdflojfhmaa
set_option linter.unusedVariables false
set_option linter.unusedSimpArgs false
set_option synthInstance.maxSize 20000
set_option maxHeartbeats 2000000
set_option maxRecDepth 20000
open Go.RowKit Go.Maps

theorem heads_dark (v : Value) (qs : List (Opr × Value × Value)) (tv : Value) (ts : List Bool) (ov : Value) (ol : List Int) (w : World) (hv : RowO w v qs) (ht : RdB w tv ts) (ho : Rd w ov ol) (hl : lightB 0 qs = false ∨ 1000 < ol.length) : Calls Try.prog 7 #[v, tv, ov] w fun r w' => r = .returned (.bool true) ∧ Below w.heap.size w w' := by
  have LI := light_any (Below.refl w.heap.size w) none 0 0 (by omega) hv
  obtain ⟨a, cap, rfl⟩ := hv.len
  obtain ⟨at', ct, rfl, _⟩ := ht
  obtain ⟨ao, co, rfl⟩ := ho.len
  have hco := ho.cap
  clear hv ho
  cases hb : lightB 0 qs with
  | false =>
    rw [hb] at LI
    have HLI : Hid (Calls Try.prog 9 #[.slice none 0 0, .slice a qs.length cap] w fun r w'' => r = .returned (.bool false) ∧ w'' = w) := LI
    clear LI hl hb
    go_enter Try.func7, Try.ntmps7
    go_wp2_with (first
      | (go_at_call 9; go_must (refine (Calls.mono HLI.out ?_); rintro r w1 ⟨rfl, hw1⟩; replace hw1 := hw1.symm; subst hw1))
      | (go_at_call 10; go_must (refine (alive_any _).mono ?_; rintro r w2 ⟨rfl, hb2⟩)))
    go_ret
    exact ⟨rfl, hb2⟩
  | true =>
    rw [hb] at LI
    have h20 : 1000 < (ol.length : Int) := by
      rcases hl with c | c
      · rw [hb] at c; cases c
      · omega
    have HLI : Hid (Calls Try.prog 9 #[.slice none 0 0, .slice a qs.length cap] w fun r w'' => r = .returned (.bool true) ∧ w'' = w) := LI
    clear LI hl hb
    go_enter Try.func7, Try.ntmps7
    go_wp2_with (first
      | (go_at_call 9; go_must (refine (Calls.mono HLI.out ?_); rintro r w1 ⟨rfl, hw1⟩; replace hw1 := hw1.symm; subst hw1))
      | (go_at_call 10; go_must (refine (alive_any _).mono ?_; rintro r w2 ⟨rfl, hb2⟩)))
    go_ret
    exact ⟨rfl, hb2⟩

theorem heads_walk (v : Value) (qs : List (Opr × Value × Value)) (tv : Value) (ts : List Bool) (ov : Value) (ol : List Int) (w : World) (hv : RowO w v qs) (ht : RdB w tv ts) (ho : Rd w ov ol) : Calls Try.prog 7 #[v, tv, ov] w fun r w' => r = .returned (.bool true) ∧ Below w.heap.size w w' := by
  by_cases hdark : lightB 0 qs = false ∨ 1000 < ol.length
  · exact heads_dark v qs tv ts ov ol w hv ht ho hdark
  have hl : lightB 0 qs = true := by
    cases hb : lightB 0 qs with
    | false => exact absurd (.inl hb) hdark
    | true => rfl
  have ho1 : ol.length ≤ 1000 := by
    rcases Nat.lt_or_ge 1000 ol.length with c | c
    · exact absurd (.inr c) hdark
    · exact c
  clear hdark
  have LI := light_any (Below.refl w.heap.size w) none 0 0 (by omega) hv
  rw [hl] at LI
  obtain ⟨_, hq40, hshort⟩ := lightB_iff hl
  have HSh : Hid (∀ q ∈ qs, q.1.b.length ≤ 1200 ∧ q.1.e.b.length ≤ 1200) := hshort
  clear hl hshort
  obtain ⟨a, cap, rfl⟩ := hv.len
  have hcap := hv.cap
  have HV : Hid (RowO w (.slice a qs.length cap) qs) := hv
  have HTk : Hid (RdB w tv ts) := ht
  obtain ⟨at', ct, rfl, ht1, ht2, _⟩ := ht
  unfold maxLen at ht2
  obtain ⟨ao, co, rfl⟩ := ho.len
  have hco := ho.cap
  have HOv : Hid (Rd w (.slice ao ol.length co) ol) := ho
  have ho20 : ¬ 1000 < (ol.length : Int) := by omega
  have HLI : Hid (Calls Try.prog 9 #[.slice none 0 0, .slice a qs.length cap] w fun r w'' => r = .returned (.bool true) ∧ w'' = w) := LI
  clear LI hv ho
  have hPR := fun w' b fo (h : Rep w' b fo ⟨[], []⟩) => pair_any w' b fo ⟨[], []⟩ h (by simp)
  have HN : Hid (∀ (w1 w2 w3 : World) (b : Nat), ∀ ft, Rep w1 b ft ⟨[], []⟩ → (∀ k ∈ ft, w.heap.size ≤ k) → Below w.heap.size w w1 → Left w1 b ft (⟨[], []⟩ : St).pair w2 → (∀ o, LogIs w3 (newTo o w2 3) 3 w2.heap.size b 1 ((⟨[], []⟩ : St).put .secret).fresh ⟨[], 0⟩) → Below w2.heap.size w2 w3 → ∃ o, G1 w w3 o b w2.heap.size (⟨[], []⟩ : St).fresh ((⟨[], []⟩ : St).put .secret).fresh (⟨[], []⟩ : St).pair ⟨[], 0⟩) :=
    fun w1 w2 w3 b ft h1 h2 h3 h4 h5 h6 => g1_new (fun d hd => by cases hd) h1 h2 h3 h4 h5 h6
  have hlen2 : (⟨[], []⟩ : St).pair.rows.length = 2 := by rw [pair_len]; rfl
  have hS1 : ((⟨[], []⟩ : St).put .secret).put (.pub (⟨[], []⟩ : St).fresh) = (⟨[], []⟩ : St).pair := rfl
  have hup : U64 ((⟨[], []⟩ : St).put .secret).fresh := (at_ok (pair_good (good0 (ds := []) (fun d hd => by cases hd)) (by simp)) (pair_at (good0 (ds := []) (fun d hd => by cases hd)) (by simp)).2).1
  rw [hS1] at hPR
  clear hS1
  generalize (⟨[], []⟩ : St).pair = S1 at *
  generalize (⟨[], []⟩ : St).fresh = s at *
  generalize ((⟨[], []⟩ : St).put .secret).fresh = p at *
  have HPR : Hid (∀ w' b fo, Rep w' b fo ⟨[], []⟩ → Calls Try.prog 12 #[ptr b] w' fun r w'' => r = .returned (.tuple #[.int .u64 s, .int .u64 p]) ∧ Left w' b fo S1 w'') := hPR
  have HLen : Hid (S1.rows.length = 2) := hlen2
  have HUp : Hid (U64 p) := hup
  have HNL : Hid (∀ w' b, Calls Try.prog 14 #[ptr b, .int .i64 1, .int .u64 p] w' fun r w'' => r = .returned (.tuple #[ptr w'.heap.size, .int .i64 0]) ∧ (∀ o j, LogIs w'' (newTo o w' j) j w'.heap.size b 1 p ⟨[], 0⟩) ∧ Below w'.heap.size w' w'') := fun w' b => by
    refine (newL_world w' b 1 p (by omega) (by omega)).mono ?_
    rintro r w'' ⟨rfl, rfl⟩
    exact ⟨rfl, fun o j => log_new j b 1 p (i64_small (by omega) (by omega)) HUp.out, balloc (Below.refl _ _) _⟩
  clear hPR hlen2 hup
  go_enter Try.func7, Try.ntmps7
  go_upto_region 6 with (first
    | (go_at_call 9; go_must (refine (Calls.mono HLI.out ?_); rintro r w0 ⟨rfl, hw0⟩; replace hw0 := hw0.symm; subst hw0))
    | (go_at_call 11; go_must (refine (new_any _ [] w (rdU_nil w) (by simp)).mono ?_; rintro r w1 ⟨b, rfl, ⟨ft, hr1, hn1⟩, hb1⟩))
    | (go_at_call 12; go_must (refine (HPR.out w1 b ft hr1).mono ?_; rintro r w2 ⟨rfl, hl2⟩))
    | (go_at_call 14; go_must (refine (HNL.out w2 b).mono ?_; rintro r w3 ⟨rfl, hl3, hb3⟩)))
  obtain ⟨o3, hG3⟩ := HN.out w1 w2 w3 b ft hr1 hn1 hb1 hl2 (fun o => hl3 o 3) hb3
  have HG3 : Hid (G1 w w3 o3 b w2.heap.size s p S1 ⟨[], 0⟩) := hG3
  clear hG3 hr1 hn1 hb1 hl2 hl3 hb3 HN HPR HLI
  obtain ⟨la, hla⟩ : ∃ la, la = w2.heap.size := ⟨_, rfl⟩
  rw [← hla] at HG3 ⊢
  clear hla
  go_upto_region 7 with (go_at_call 14; go_must (refine (HNL.out w3 b).mono ?_; rintro r w4 ⟨rfl, hl4, hb4⟩))
  have HG4 : Hid (G1 w w4 (newTo o3 w3 4) b la s p S1 ⟨[], 0⟩) := HG3.out.mvd (Mv.of_below (I := []) 4 hb4) (by simp) (by simp) (by simp) (by simp)
  have HD4 : Hid (Duo w4 (newTo o3 w3 4) b w3.heap.size s p S1 ⟨[], 0⟩) := ⟨hl4 o3 4, whole_nil HG3.out.key.pub⟩
  clear hl4 hb4 HG3 HNL
  obtain ⟨lb, hlb⟩ : ∃ lb, lb = w3.heap.size := ⟨_, rfl⟩
  rw [← hlb] at HD4 ⊢
  clear hlb
  obtain ⟨o4, ho4⟩ : ∃ o4, o4 = newTo o3 w3 4 := ⟨_, rfl⟩
  rw [← ho4] at HG4 HD4
  clear ho4
  have HLen0 : Hid (S1.rows.length ≤ 2) := (show _ ≤ _ from by rw [HLen.out]; omega)
  clear HLen HUp
  go_wp2_with fail
  go_loopg [14] qs.length (fun kx s15 wr => ∃ (i : Nat) (S : St) (L M : Lg) (o : Nat → Nat), s15 = .int .i64 i ∧ i ≤ qs.length ∧ kx = qs.length - i ∧ Hid (G1 w wr o b la s p S L) ∧ Hid (Duo wr o b lb s p S M) ∧ Hid (S.rows.length ≤ 2 + 4 * i))
  case atStart => exact ⟨0, S1, ⟨[], 0⟩, ⟨[], 0⟩, o4, rfl, by omega, rfl, HG4, HD4, HLen0⟩
  case round =>
    obtain ⟨i, S, L, M, o, rfl, hi, rfl, HG, HDu, HRows0⟩ := hrel
    clear HG4 HLen0 HD4
    by_cases hi8 : i < qs.length
    · obtain ⟨q, hq⟩ : ∃ q, qs[i]? = some q := ⟨_, List.getElem?_eq_getElem hi8⟩
      obtain ⟨g, off, ea, hc⟩ := HV.out.at hq
      subst ea
      have HOkq : Hid (OprOk w q) := HV.out.1 q (List.mem_of_getElem? hq)
      have HShort : Hid (q.1.b.length ≤ 1200) := (HSh.out q (List.mem_of_getElem? hq)).1
      have HRows : Hid (S.rows.length ≤ 200) := (show _ ≤ _ from by have := HRows0.out; omega)
      obtain ⟨q, x, y⟩ := q
      dsimp only at *
      unfold OprOk at HOkq
      dsimp only at HOkq
      obtain ⟨ax, cx, hxx⟩ := HOkq.out.2.2.2.2.2.2.1.len
      subst hxx
      clear hq
      have HD : Hid (∀ w', Below w.heap.size w w' → ∀ j u, (oc q (.slice ax q.b.length cx) y)[j]? = some u → w'.cell? ⟨g, off + i * 14 + j, none⟩ = some u) := hc
      have HIs : Hid (∀ (wa : World) (oa : Nat → Nat), G1 w wa oa b la s p S L → Kp0 wa oa (.slice ax q.b.length cx) q.b → Calls Try.prog 19 #[ptr la, .int .u64 s, .agg #[.int .i64 q.t, .int .i64 1], .int .i64 q.n, .slice ax q.b.length cx] wa fun r w' => ∃ e k S' L' y o', r = .returned (.tuple #[ev e y, .int .i64 k]) ∧ Issued S p s L q.t 1 q.n q.b e k S' L' ∧ Sub S S' ∧ G1 w w' o' b la s p S' L' ∧ Kp0 w' o' y e.b ∧ Mv [1, 3] wa oa w' o') := fun wa oa hg hk => hg.issue (by have := HRows.out; omega) HOkq.out.2.1 (i64_small (by omega) (by omega)) HOkq.out.2.2.1 hk (by have := HShort.out; omega)
      have HKx : Hid (∀ (wa : World) (oa : Nat → Nat) (S : St) (L : Lg), G1 w wa oa b la s p S L → Kp0 wa oa (.slice ax q.b.length cx) q.b) := fun wa oa S L hg => hg.kp HOkq.out.2.2.2.2.2.2.1
      go_upto_region 10 with fail
      have d1 := fun z : WIn (fun w' => Below w.heap.size w w') => HD.out z.w z.ok 1 _ rfl
      have d2 := fun z : WIn (fun w' => Below w.heap.size w w') => HD.out z.w z.ok 2 _ rfl
      have d3 := fun z : WIn (fun w' => Below w.heap.size w w') => HD.out z.w z.ok 3 _ rfl
      have ne : Nonempty (WIn (fun w' => Below w.heap.size w w')) := ⟨⟨w, Below.refl _ _⟩⟩
      refine wp_region_tree (C := fun w' => ∃ z : WIn (fun w' => Below w.heap.size w w'), w' = z.w)
        (.still 0 (.still 1 (.still 2 (.still 3 (.still 4 (.still 5 (.still 6 (.still 7 (.still 8 (.still 9 (.still 10 (.still 11 (.still 12 (.still 13 (.still 14 (.still 15 (.still 16 (.still 17 (.two 18 (.still 19 (.still 20 (.still 21 (.one 22 (.one 23 (.still 24 .done)))))) 22 (.one 18 (.still 19 (.still 20 (.still 21 (.one 23 (.still 24 .done)))))))))))))))))))))))))
        (by kernel_rfl) (by kernel_rfl) ⟨⟨wr.drew, HG.out.bel.drew⟩, rfl⟩ ?_
      iterate 18 (refine tree_still rfl rfl ?_; go_big_quiet_step (fail); refine wpQuiet_nil ?_)
      refine tree_two rfl rfl rfl rfl ?wayA ?wayB
      case' wayA =>
        go_simp
        refine (HIs.out wr.drew o (g1_drew HG.out) (HKx.out _ _ _ _ (g1_drew HG.out))).mono ?_
        rintro r w4 ⟨e, k, S', L', ye, o4, rfl, h1, h2, h3, h4, h5⟩
        obtain ⟨ay, cy, hyy⟩ := h4.1.len
        subst hyy
        have HS0 : Hid (Step w wr o b la s p S L q.t q.n q.b (w4.alloc (.cells (ec e (.slice ay e.b.length cy)).toArray 47)) (newTo o4 w4 9) w4.heap.size e k S' L' (.slice ay e.b.length cy)) := step_A h1 h2 h3 h4 (mv_undrew h5)
        have HB4 : Hid (Below w.heap.size w w4) := h3.bel
        clear h1 h2 h3 h4 h5
        unfold ev
        refine ⟨⟨⟨w4, HB4.out⟩, rfl⟩, ?_⟩
        iterate 3 (refine tree_still rfl rfl ?_; go_big_quiet_step (fail); refine wpQuiet_nil ?_)
        refine tree_one rfl rfl ?_
        go_simp
        refine ⟨⟨⟨_, balloc HB4.out _⟩, rfl⟩, ?_⟩
        refine tree_one rfl rfl ?_
        go_simp
        refine ⟨⟨⟨_, balloc HB4.out _⟩, rfl⟩, ?_⟩
        generalize hw5 : w4.alloc (.cells #[.int .i64 e.w, .int .i64 e.i, .int .u64 e.p, .int .i64 e.t, .int .i64 e.u, .int .i64 e.n, .slice ay e.b.length cy, .int .u64 e.g] 47) = w5
        generalize hn5 : w4.heap.size = n5
        have HStep : Hid (∃ o5, Step w wr o b la s p S L q.t q.n q.b w5 o5 n5 e k S' L' (.slice ay e.b.length cy)) := ⟨_, (show Step w wr o b la s p S L q.t q.n q.b w5 _ n5 e k S' L' _ from by rw [← hw5, ← hn5]; exact HS0.out)⟩
        clear hw5 hn5 HS0 HB4
      case' wayB =>
        go_simp
        have HGa : Hid (G1 w (wr.alloc (.cells #[.int .i64 0, .int .i64 0, .int .u64 0, .int .i64 0, .int .i64 0, .int .i64 0, .slice none 0 0, .int .u64 0] 47)).drew (newTo o wr 9) b la s p S L) := g1_drew (HG.out.mvd (Mv.of_below (I := []) 9 (balloc (Below.refl _ _) _)) (by simp) (by simp) (by simp) (by simp))
        refine ⟨⟨⟨_, HGa.out.bel⟩, rfl⟩, ?_⟩
        refine tree_one rfl rfl ?_
        go_simp
        refine (HIs.out _ _ HGa.out (HKx.out _ _ _ _ HGa.out)).mono ?_
        rintro r w4 ⟨e, k, S', L', ye, o4, rfl, h1, h2, h3, h4, h5⟩
        obtain ⟨ay, cy, hyy⟩ := h4.1.len
        subst hyy
        have HS0 := step_B rfl h1 h2 h3 h4 (mv_undrew h5)
        have HB4 : Hid (Below w.heap.size w w4) := h3.bel
        have Z4 := step_zero rfl (mv_undrew h5)
        have z0 := Z4.cell 0 _ rfl; have z1 := Z4.cell 1 _ rfl; have z2 := Z4.cell 2 _ rfl; have z3 := Z4.cell 3 _ rfl; have z4 := Z4.cell 4 _ rfl; have z5 := Z4.cell 5 _ rfl; have z6 := Z4.cell 6 _ rfl; have z7 := Z4.cell 7 _ rfl; have f0 := Z4.frozen 0; have f1 := Z4.frozen 1; have f2 := Z4.frozen 2; have f3 := Z4.frozen 3; have f4 := Z4.frozen 4; have f5 := Z4.frozen 5; have f6 := Z4.frozen 6; have f7 := Z4.frozen 7
        clear h1 h2 h3 h4 h5 Z4
        unfold ev
        refine ⟨⟨⟨w4, HB4.out⟩, rfl⟩, ?_⟩
        iterate 3 (refine tree_still rfl rfl ?_; go_big_quiet_step (fail); refine wpQuiet_nil ?_)
        refine tree_one rfl rfl ?_
        go_simp
        have HB5 := HS0.g.bel
        refine ⟨⟨⟨_, HB5⟩, rfl⟩, ?_⟩
        clear HB5 z0 z1 z2 z3 z4 z5 z6 z7 f0 f1 f2 f3 f4 f5 f6 f7
        generalize ((((((((w4.setCell ⟨wr.heap.size, 0, none⟩ (.int .i64 e.w)).setCell ⟨wr.heap.size, 1, none⟩ (.int .i64 e.i)).setCell ⟨wr.heap.size, 2, none⟩ (.int .u64 e.p)).setCell ⟨wr.heap.size, 3, none⟩ (.int .i64 e.t)).setCell ⟨wr.heap.size, 4, none⟩ (.int .i64 e.u)).setCell ⟨wr.heap.size, 5, none⟩ (.int .i64 e.n)).setCell ⟨wr.heap.size, 6, none⟩ (.slice ay e.b.length cy)).setCell ⟨wr.heap.size, 7, none⟩ (.int .u64 e.g)) = w5 at *
        generalize hn5 : wr.heap.size = n5 at *
        have HStep : Hid (∃ o5, Step w wr o b la s p S L q.t q.n q.b w5 o5 n5 e k S' L' (.slice ay e.b.length cy)) := ⟨_, HS0⟩
        clear hn5 HS0 HB4 HGa
      all_goals
        refine tree_still rfl rfl ?_
        go_big_quiet_step (fail)
        refine wpQuiet_nil ?_
        refine tree_done ?_
        clear d1 d2 d3 ne
        obtain ⟨o5, hst⟩ := HStep.out
        have HT : Hid (Step w wr o b la s p S L q.t q.n q.b w5 o5 n5 e k S' L' (.slice ay e.b.length cy)) := hst
        clear hst HStep HIs HKx
        have hbx := HT.out.box
        unfold ec at hbx
        have HD5 : Hid (Duo w5 o5 b lb s p S' M) := HDu.out.mv HT.out.mv (by simp) (by simp) HT.out.sub
        have HRw5 : Hid (S'.rows.length ≤ 4 + 4 * i) := (show _ ≤ _ from by have h1 := HRows0.out; have h2 := HT.out.iss.len; omega)
        by_cases hk0 : k = 0
        · subst hk0
          have HIok : Hid (IssueOk S 1 p s L (candE 1 L q.t 1 q.n q.b) e S' L') := HT.out.iss.yes rfl
          by_cases htl : i < ts.length
          · have htl' : (i : Int) < ts.length := by omega
            obtain ⟨tb, htb⟩ : ∃ tb, ts[i]? = some tb := ⟨_, List.getElem?_eq_getElem htl⟩
            obtain ⟨tg, toff, te, htc⟩ := HTk.out.at htb
            subst te
            have hcell := htc w5 HT.out.g.bel
            clear htc htb htl
            cases tb
            · -- another one is issued there
              clear hbx
              have HIs2 : Hid (∀ (wa : World) (oa : Nat → Nat), G1 w wa oa b la s p S' L' → Duo wa oa b lb s p S' M → Calls Try.prog 19 #[ptr lb, .int .u64 s, .agg #[.int .i64 q.t, .int .i64 1], .int .i64 q.n, .slice ao ol.length co] wa fun r w' => ∃ e k S2 M2 y o', r = .returned (.tuple #[ev e y, .int .i64 k]) ∧ Issued S' p s M q.t 1 q.n ol e k S2 M2 ∧ Sub S' S2 ∧ G1 w w' o' b la s p S2 L' ∧ Duo w' o' b lb s p S2 M2 ∧ Kp0 w' o' y e.b ∧ Mv [1, 4] wa oa w' o') := fun wa oa hg hd => Duo.issue hg hd (by have := HRw5.out; omega) HOkq.out.2.1 (i64_small (by omega) (by omega)) HOkq.out.2.2.1 (hg.kp HOv.out) (by omega)
              go_upto_region 15 with fail
              clear hcell
              have HG5 : Hid (G1 w w5 o5 b la s p S' L') := HT.out.g
              have d1 := fun z : WIn (fun w' => Below w.heap.size w w') => HD.out z.w z.ok 1 _ rfl
              have d2 := fun z : WIn (fun w' => Below w.heap.size w w') => HD.out z.w z.ok 2 _ rfl
              have ne : Nonempty (WIn (fun w' => Below w.heap.size w w')) := ⟨⟨w, Below.refl _ _⟩⟩
              refine wp_region_ord (C := fun w' => ∃ z : WIn (fun w' => Below w.heap.size w w'), w' = z.w) [(false, 0), (false, 1), (false, 2), (false, 3), (false, 4), (false, 5), (false, 6), (false, 7), (false, 8), (false, 9), (false, 10), (false, 11), (false, 12), (false, 13), (true, 14)] (by kernel_rfl) (by kernel_rfl) ⟨⟨w5.drew, HG5.out.bel.drew⟩, rfl⟩ ?_
              iterate 14 (refine ord_still rfl rfl ?_; go_big_quiet_step (fail); refine wpQuiet_nil ?_)
              refine ord_mem rfl rfl ?_
              go_simp
              refine (HIs2.out w5.drew o5 (g1_drew HG5.out) (HD5.out.mv (mv_drewn (I := []) w5 o5) (by simp) (by simp) (Sub.refl _))).mono ?_
              rintro r w7 ⟨e7, k7, S7, M7, y7, o7, rfl, h1, h2, h3, h4, h5, h6⟩
              have HG7 : Hid (G1 w w7 o7 b la s p S7 L') := h3
              have HD7 : Hid (Duo w7 o7 b lb s p S7 M7) := h4
              have HR7 : Hid (S7.rows.length ≤ 2 + 4 * (i + 1)) := (show _ ≤ _ from by have q1 := h1.len; have q2 := HRw5.out; omega)
              clear h1 h2 h3 h4 h5 h6
              refine ⟨⟨⟨w7, HG7.out.bel⟩, rfl⟩, ?_⟩
              refine ord_end ?_
              clear d1 d2 ne
              go_wp2_with fail
              go_roundg (qs.length - (i + 1))
              case measure => omega
              case rel => exact ⟨i + 1, S7, L', M7, o7, by go_num, by omega, rfl, HG7, HD7, HR7⟩
            · -- it is accepted there
              have m0 := hbx.cell 0 _ rfl; have m1 := hbx.cell 1 _ rfl; have m2 := hbx.cell 2 _ rfl; have m3 := hbx.cell 3 _ rfl; have m4 := hbx.cell 4 _ rfl; have m5 := hbx.cell 5 _ rfl; have m6 := hbx.cell 6 _ rfl; have m7 := hbx.cell 7 _ rfl
              clear hbx
              have HAc : Hid (Calls Try.prog 25 #[ptr lb, .agg #[.int .i64 e.w, .int .i64 e.i, .int .u64 e.p, .int .i64 e.t, .int .i64 e.u, .int .i64 e.n, .slice ay e.b.length cy, .int .u64 e.g]] w5 fun r w' => ∃ k S2 M2 o', r = .returned (.int .i64 k) ∧ acceptM S' 1 p M e = (k, S2, M2) ∧ S2.rows.length ≤ S'.rows.length + 1 ∧ Sub S' S2 ∧ G1 w w' o' b la s p S2 L' ∧ Duo w' o' b lb s p S2 M2 ∧ Mv [1, 4] w5 o5 w' o') := Duo.accept HT.out.g HD5.out (by have := HRw5.out; omega) HIok.out.ok HT.out.kp (by have := HIok.out.right.2.2.2.2.2.2; omega)
              go_wp2_with (go_at_call 25; go_must (refine (Calls.mono HAc.out ?_); rintro r w7 ⟨k7, S7, M7, o7, rfl, _, h1, h2, h3, h4, h5⟩; have HG7 : Hid (G1 w w7 o7 b la s p S7 L') := h3; have HD7 : Hid (Duo w7 o7 b lb s p S7 M7) := h4; have HR7 : Hid (S7.rows.length ≤ 2 + 4 * (i + 1)) := (show _ ≤ _ from by have q2 := HRw5.out; omega); clear h1 h2 h3 h4 h5))
              go_roundg (qs.length - (i + 1))
              case measure => omega
              case rel => exact ⟨i + 1, S7, L', M7, o7, by go_num, by omega, rfl, HG7, HD7, HR7⟩
          · have htl' : ¬ (i : Int) < ts.length := by omega
            clear htl hbx
            go_wp2_with fail
            go_roundg (qs.length - (i + 1))
            case measure => omega
            case rel => exact ⟨i + 1, S', L', M, o5, by go_num, by omega, rfl, HT.out.g, HD5, (show _ ≤ _ from by have q2 := HRw5.out; omega)⟩
        · have hk2 : (k != 0) = true := by simpa using hk0
          clear hbx hk0
          go_wp2_with fail
          go_roundg (qs.length - (i + 1))
          case measure => omega
          case rel => exact ⟨i + 1, S', L', M, o5, by go_num, by omega, rfl, HT.out.g, HD5, (show _ ≤ _ from by have q2 := HRw5.out; omega)⟩
    · obtain rfl : i = qs.length := by omega
      clear hi8 HRows0
      have HHa : Hid (∀ w', Below wr.heap.size wr w' → Calls Try.prog 33 #[ptr la] w' fun r w'' => r = .returned (.agg #[.int .i64 1, .int .i64 (L.es.length : Int), .int .u64 L.sum]) ∧ Below w'.heap.size w' w'') := fun w' hb => headL_any (HG.out.below hb).log
      have HHb : Hid (∀ w', Below wr.heap.size wr w' → Calls Try.prog 33 #[ptr lb] w' fun r w'' => r = .returned (.agg #[.int .i64 1, .int .i64 (M.es.length : Int), .int .u64 M.sum]) ∧ Below w'.heap.size w' w'') := fun w' hb => headL_any (HDu.out.below hb).log
      have HBw : Hid (Below w.heap.size w wr) := HG.out.bel
      go_upto_region 17 with (go_at_call 33; first
        | (refine (HHa.out wr (Below.refl _ _)).mono ?_; rintro r w5 ⟨rfl, hb5⟩; have HB5 : Hid (Below wr.heap.size wr w5) := hb5; clear hb5 HHa)
        | (refine (HHb.out w5 HB5.out).mono ?_; rintro r w6 ⟨rfl, hb6⟩; have HB6 : Hid (Below wr.heap.size wr w6) := (show Below _ _ _ from bnext HB5.out hb6); clear hb6))
      have HX6 : Hid (Blk ((w6.alloc (.cells #[.int .i64 1, .int .i64 (L.es.length : Int), .int .u64 L.sum] 69)).alloc (.cells #[.int .i64 1, .int .i64 (M.es.length : Int), .int .u64 M.sum] 69)) w6.heap.size 69 [.int .i64 1, .int .i64 (L.es.length : Int), .int .u64 L.sum]) := (show Blk _ _ _ _ from (blk_new w6 [.int .i64 1, .int .i64 (L.es.length : Int), .int .u64 L.sum] 69).alloc _)
      have HY6 : Hid (Blk ((w6.alloc (.cells #[.int .i64 1, .int .i64 (L.es.length : Int), .int .u64 L.sum] 69)).alloc (.cells #[.int .i64 1, .int .i64 (M.es.length : Int), .int .u64 M.sum] 69)) (w6.heap.size + 1) 69 [.int .i64 1, .int .i64 (M.es.length : Int), .int .u64 M.sum]) := by
        show Blk _ _ _ _
        have := blk_new (w6.alloc (.cells #[.int .i64 1, .int .i64 (L.es.length : Int), .int .u64 L.sum] 69)) [.int .i64 1, .int .i64 (M.es.length : Int), .int .u64 M.sum] 69
        simpa using this
      have HBz : Hid (Below wr.heap.size wr ((w6.alloc (.cells #[.int .i64 1, .int .i64 (L.es.length : Int), .int .u64 L.sum] 69)).alloc (.cells #[.int .i64 1, .int .i64 (M.es.length : Int), .int .u64 M.sum] 69))) := balloc (balloc HB6.out _) _
      generalize (w6.alloc (.cells #[.int .i64 1, .int .i64 (L.es.length : Int), .int .u64 L.sum] 69)).alloc (.cells #[.int .i64 1, .int .i64 (M.es.length : Int), .int .u64 M.sum] 69) = wz at *
      generalize w6.heap.size = n6 at *
      clear HB5 HB6
      have HGz : Hid (G1 w wz (newTo o wr 0) b la s p S L) := HG.out.below HBz.out
      have HDz : Hid (Duo wz (newTo o wr 0) b lb s p S M) := HDu.out.below HBz.out
      generalize newTo o wr 0 = oz at *
      have HOne : Hid (L.es.length = M.es.length → ((L.sum == M.sum) = true ↔ L.es = M.es)) := fun h => by
        rw [beq_iff_eq]
        exact heads_one HG.out.key.good HG.out.whole HDu.out.whole h
      clear HG HDu HHb
      have k1 := fun z : WIn (fun w' => Below wz.heap.size wz w') => (HX6.out.below z.ok).cell 1 _ rfl
      have k2 := fun z : WIn (fun w' => Below wz.heap.size wz w') => (HX6.out.below z.ok).cell 2 _ rfl
      have l1 := fun z : WIn (fun w' => Below wz.heap.size wz w') => (HY6.out.below z.ok).cell 1 _ rfl
      have l2 := fun z : WIn (fun w' => Below wz.heap.size wz w') => (HY6.out.below z.ok).cell 2 _ rfl
      have ne : Nonempty (WIn (fun w' => Below wz.heap.size wz w')) := ⟨⟨wz, Below.refl _ _⟩⟩
      by_cases hlen : L.es.length = M.es.length
      · have hl1 : ((L.es.length : Int) != M.es.length) = false := by rw [hlen]; simp
        have HA1 : Hid (Calls Try.prog 35 #[ptr la] wz.drew fun r w' => ∃ v' ps', r = .returned v' ∧ ps'.map (·.1) = L.es ∧ RowE w' v' ps' ∧ Ents w' (newTo oz wz.drew 0) ps' ∧ Below wz.drew.heap.size wz.drew w' ∧ (∀ k, v'.ownBlock = some k → wz.drew.heap.size ≤ k)) := allL_any (g1_drew HGz.out).log
        have HA2 : Hid (∀ (wa : World) (oa : Nat → Nat), Duo wa oa b lb s p S M → Calls Try.prog 35 #[ptr lb] wa fun r w' => ∃ v' ps', r = .returned v' ∧ ps'.map (·.1) = M.es ∧ RowE w' v' ps' ∧ Ents w' (newTo oa wa 0) ps' ∧ Below wa.heap.size wa w' ∧ (∀ k, v'.ownBlock = some k → wa.heap.size ≤ k)) := fun wa oa hd => allL_any hd.log
        obtain ⟨sb, hsb⟩ : ∃ sb : Bool, (L.sum == M.sum) = sb := ⟨_, rfl⟩
        have HSb : Hid (sb = true ↔ L.es = M.es) := (show _ ↔ _ from by rw [← hsb]; exact HOne.out hlen)
        have HSm : Hid (∀ (wa : World) (oa : Nat → Nat) (v1 v2 : Value) (p1 p2 : List (Ent × Value)), p1.map (·.1) = L.es → RowE wa v1 p1 → Ents wa oa p1 → p2.map (·.1) = M.es → RowE wa v2 p2 → Ents wa oa p2 → Calls Try.prog 15 #[v1, v2] wa fun r w' => r = .returned (.bool sb) ∧ Below wa.heap.size wa w') := fun wa oa v1 v2 p1 p2 h1 h2 h3 h4 h5 h6 => by
          cases sb
          · exact refall_ne h2 h3 h5 h6 (fun e => by
              have := HSb.out.2 (h1.symm.trans (e.trans h4))
              cases this)
          · exact refall_eq h2 h3 h5 h6 (h1.trans ((HSb.out.1 rfl).trans h4.symm))
        clear hlen
        refine wp_region_ord (C := fun w' => ∃ z : WIn (fun w' => Below wz.heap.size wz w'), w' = z.w) [(false, 0), (false, 1), (false, 2), (false, 3), (false, 4), (false, 5), (false, 6), (false, 7), (false, 8), (false, 9), (false, 10), (false, 11), (false, 13), (true, 12), (true, 14), (true, 15), (false, 16), (false, 17), (false, 18), (true, 19), (false, 20), (false, 21)] (by kernel_rfl) (by kernel_rfl) ⟨⟨wz.drew, (Below.refl _ _).drew⟩, rfl⟩ ?_
        iterate 13 (refine ord_still rfl rfl ?_; go_big_quiet_step (fail); refine wpQuiet_nil ?_)
        refine ord_mem rfl rfl ?_
        go_simp
        refine (Calls.mono HA1.out ?_)
        rintro r w7 ⟨v7, p7, rfl, h1, h2, h3, h4, h5⟩
        obtain ⟨a7, c7, hv7⟩ := h2.len
        subst hv7
        have HB7 : Hid (Below wz.heap.size wz w7) := below_undrew h4
        have HP7 : Hid (p7.map (·.1) = L.es ∧ RowE w7 (.slice a7 p7.length c7) p7 ∧ Ents w7 (newTo oz wz 0) p7 ∧ ∀ k, (Value.slice a7 p7.length c7).ownBlock = some k → newTo oz wz 0 k = 0) := ⟨h1, h2, h3, fun k hk => newTo_new (h5 k hk)⟩
        have HD7 : Hid (Duo w7 (newTo oz wz 0) b lb s p S M) := HDz.out.below HB7.out
        clear h1 h2 h3 h4 h5
        refine ⟨⟨⟨w7, HB7.out⟩, rfl⟩, ?_⟩
        refine ord_mem rfl rfl ?_
        go_simp
        refine (HA2.out w7 _ HD7.out).mono ?_
        rintro r w8 ⟨v8, p8, rfl, h1, h2, h3, h4, h5⟩
        obtain ⟨a8, c8, hv8⟩ := h2.len
        subst hv8
        have HB8 : Hid (Below wz.heap.size wz w8) := (show Below _ _ _ from bnext HB7.out h4)
        have HP8 : Hid (p8.map (·.1) = M.es ∧ RowE w8 (.slice a8 p8.length c8) p8 ∧ Ents w8 (newTo (newTo oz wz 0) w7 0) p8) := ⟨h1, h2, h3⟩
        have HQ8 : Hid (RowE w8 (.slice a7 p7.length c7) p7 ∧ Ents w8 (newTo (newTo oz wz 0) w7 0) p7) := ⟨HP7.out.2.1.below h4, HP7.out.2.2.1.mv (Mv.of_below (I := []) 0 h4) (by simp)⟩
        clear h1 h2 h3 h4 h5
        refine ⟨⟨⟨w8, HB8.out⟩, rfl⟩, ?_⟩
        refine ord_mem rfl rfl ?_
        go_simp
        refine (HSm.out w8 _ _ _ p7 p8 HP7.out.1 HQ8.out.1 HQ8.out.2 HP8.out.1 HP8.out.2.1 HP8.out.2.2).mono ?_
        rintro r w9 ⟨rfl, h1⟩
        have HB9 : Hid (Below wz.heap.size wz w9) := (show Below _ _ _ from bnext HB8.out h1)
        clear h1
        refine ⟨⟨⟨w9, HB9.out⟩, rfl⟩, ?_⟩
        clear HSb HSm
        cases sb
        all_goals
          iterate 3 (refine ord_still rfl rfl ?_; go_big_quiet_step (fail); refine wpQuiet_nil ?_)
          refine ord_mem rfl rfl ?_
          go_simp
          refine (alive_any w9).mono ?_
          rintro r w10 ⟨rfl, h1⟩
          have HB10 : Hid (Below wz.heap.size wz w10) := (show Below _ _ _ from bnext HB9.out h1)
          clear h1
          refine ⟨⟨⟨w10, HB10.out⟩, rfl⟩, ?_⟩
          iterate 2 (refine ord_still rfl rfl ?_; go_big_quiet_step (fail); refine wpQuiet_nil ?_)
          refine ord_end ?_
          clear k1 k2 l1 l2 ne
          go_wp2
          go_ret
          exact ⟨rfl, bnext HBw.out (bnext HBz.out HB10.out)⟩
      · have hl1 : ((L.es.length : Int) != M.es.length) = true := by simp; omega
        clear hlen
        refine wp_region_ord (C := fun w' => ∃ z : WIn (fun w' => Below wz.heap.size wz w'), w' = z.w) [(false, 0), (false, 1), (false, 2), (false, 3), (false, 4), (false, 5), (false, 6), (false, 7), (false, 8), (false, 9), (false, 10), (false, 11), (false, 12), (false, 13), (false, 14), (false, 15), (false, 16), (false, 17), (false, 18), (true, 19), (false, 20), (false, 21)] (by kernel_rfl) (by kernel_rfl) ⟨⟨wz.drew, (Below.refl _ _).drew⟩, rfl⟩ ?_
        iterate 19 (first | (refine ord_still rfl rfl ?_; go_big_quiet_step (fail); refine wpQuiet_nil ?_) | (refine ord_shut rfl rfl ?_; go_big_quiet_step (fail); refine wpQuiet_nil ?_))
        refine ord_mem rfl rfl ?_
        go_simp
        refine (alive_any wz.drew).mono ?_
        rintro r w10 ⟨rfl, h1⟩
        have HB10 : Hid (Below wz.heap.size wz w10) := below_undrew h1
        clear h1
        refine ⟨⟨⟨w10, HB10.out⟩, rfl⟩, ?_⟩
        iterate 2 (refine ord_still rfl rfl ?_; go_big_quiet_step (fail); refine wpQuiet_nil ?_)
        refine ord_end ?_
        clear k1 k2 l1 l2 ne
        go_wp2
        go_ret
        exact ⟨rfl, bnext HBw.out (bnext HBz.out HB10.out)⟩
end Go.Proofs.Yteedjdflojfhmaa
