/-
  The walk of ChainStays: what is accepted stays as it was, and each log that was issued is whole.
-/
import Derived.Test.YteedjdflojfhmaaGame
import Derived.Deep.LoopGhost
namespace Go.Proofs.Yteedjdflojfhmaa
set_option linter.unusedVariables false
set_option linter.unusedSimpArgs false
set_option synthInstance.maxSize 20000
set_option maxHeartbeats 2000000
set_option maxRecDepth 20000
open Go.RowKit Go.Maps

/-- Whole of a log that is. -/
theorem G1.whole_calls {w0 w : World} {o : Nat → Nat} {b la : Nat} {s p : Int} {S : St} {L : Lg} (h : G1 w0 w o b la s p S L) (hN : S.rows.length ≤ 10000) {v : Value} {ps : List (Ent × Value)} (hm : ps.map (·.1) = L.es) (hv : RowE w v ps) (hE : Ents w o ps) (hrow : ∀ k, v.ownBlock = some k → o k = 0) :
    Calls Try.prog 27 #[ptr b, .int .u64 p, v] w fun r w' => r = .returned (.tuple #[.int .i64 (L.es.length : Int), .int .i64 0]) ∧ ∃ o', G1 w0 w' o' b la s p S L ∧ Mv [1] w o w' o' := by
  have hl : ps.length = L.es.length := by have := congrArg List.length hm; simpa using this
  have hfew := h.whole.few
  cases ps with
  | nil =>
    obtain ⟨a, cap, rfl⟩ := hv.len
    refine (whole_none w _ _ a cap).mono ?_
    rintro r w' ⟨rfl, rfl⟩
    refine ⟨by rw [← hl]; rfl, o, h, Mv.refl _ _ _⟩
  | cons q0 ps =>
    have he0 : L.es[0]? = some q0.1 := by rw [← hm]; rfl
    have z := (check_zero _ _ _ _ _).1 (h.whole.each 0 q0.1 he0).1
    have hw := z.2.1
    have hW := whole_any h.orc h.key.up (q0 := q0) rfl (by rw [hw]; omega) (by rw [hw]; omega) hv hE (fun k hk => by rw [hrow k hk]; omega) (by omega) (fun q hq => by
      have hmem : q.1 ∈ L.es := by rw [← hm]; exact List.mem_map.2 ⟨q, hq, rfl⟩
      obtain ⟨i, hi⟩ := h.whole.mem hmem
      have := ((check_zero _ _ _ _ _).1 (h.whole.each i q.1 hi).1).1.2.2.2.2.2.2
      omega) (by omega)
    rw [hm, hw, whole_all h.whole] at hW
    refine hW.mono ?_
    rintro r w' ⟨rfl, o', q1, q2⟩
    exact ⟨rfl, o', ⟨q1, h.log.mv q2 (by simp) (by simp), h.key, h.whole, h.mv.trans (q2.widen (by simp))⟩, q2⟩

theorem stays_dark (dv : Value) (ds : List Int) (v : Value) (qs : List (Opr × Value × Value)) (jv : Value) (js : List (Ent × Value)) (w : World) (hd : RdU w dv ds) (hv : RowO w v qs) (hj : RowE w jv js) (hl : lightB ds.length qs = false ∨ 20 < js.length) : Calls Try.prog 8 #[dv, v, jv] w fun r w' => r = .returned (.bool true) ∧ Below w.heap.size w w' := by
  obtain ⟨_, ad, cd, rfl, hd1, hd2, _⟩ := hd
  unfold maxLen at hd2
  have LI := light_any (Below.refl w.heap.size w) ad ds.length cd (by omega) hv
  obtain ⟨a, cap, rfl⟩ := hv.len
  obtain ⟨aj, cj, rfl⟩ := hj.len
  have hcj := hj.cap
  clear hv hj
  cases hb : lightB ds.length qs with
  | false =>
    rw [hb] at LI
    have HLI : Hid (Calls Try.prog 9 #[.slice ad ds.length cd, .slice a qs.length cap] w fun r w'' => r = .returned (.bool false) ∧ w'' = w) := LI
    clear LI hl hb
    go_enter Try.func8, Try.ntmps8
    go_wp2_with (first
      | (go_at_call 9; go_must (refine (Calls.mono HLI.out ?_); rintro r w1 ⟨rfl, hw1⟩; replace hw1 := hw1.symm; subst hw1))
      | (go_at_call 10; go_must (refine (alive_any _).mono ?_; rintro r w2 ⟨rfl, hb2⟩)))
    go_ret
    exact ⟨rfl, hb2⟩
  | true =>
    rw [hb] at LI
    have h20 : 20 < (js.length : Int) := by
      rcases hl with c | c
      · rw [hb] at c; cases c
      · omega
    have HLI : Hid (Calls Try.prog 9 #[.slice ad ds.length cd, .slice a qs.length cap] w fun r w'' => r = .returned (.bool true) ∧ w'' = w) := LI
    clear LI hl hb
    go_enter Try.func8, Try.ntmps8
    go_wp2_with (first
      | (go_at_call 9; go_must (refine (Calls.mono HLI.out ?_); rintro r w1 ⟨rfl, hw1⟩; replace hw1 := hw1.symm; subst hw1))
      | (go_at_call 10; go_must (refine (alive_any _).mono ?_; rintro r w2 ⟨rfl, hb2⟩)))
    go_ret
    exact ⟨rfl, hb2⟩

theorem stays_walk (dv : Value) (ds : List Int) (v : Value) (qs : List (Opr × Value × Value)) (jv : Value) (js : List (Ent × Value)) (w : World) (hd : RdU w dv ds) (hv : RowO w v qs) (hj : RowE w jv js) (hje : Ents w (fun _ => 0) js) : Calls Try.prog 8 #[dv, v, jv] w fun r w' => r = .returned (.bool true) ∧ Below w.heap.size w w' := by
  by_cases hdark : lightB ds.length qs = false ∨ 20 < js.length
  · exact stays_dark dv ds v qs jv js w hd hv hj hdark
  have hl : lightB ds.length qs = true := by
    cases hb : lightB ds.length qs with
    | false => exact absurd (.inl hb) hdark
    | true => rfl
  have hj20 : js.length ≤ 20 := by
    rcases Nat.lt_or_ge 20 js.length with c | c
    · exact absurd (.inr c) hdark
    · exact c
  clear hdark
  have hdu := hd.1
  have HDv : Hid (RdU w dv ds) := hd
  obtain ⟨_, ad, cd, rfl, hd1, hd2, _⟩ := hd
  unfold maxLen at hd2
  have LI := light_any (Below.refl w.heap.size w) ad ds.length cd (by omega) hv
  rw [hl] at LI
  obtain ⟨hd50, hq40, hshort⟩ := lightB_iff hl
  have HSh : Hid (∀ q ∈ qs, q.1.b.length ≤ 1200 ∧ q.1.e.b.length ≤ 1200) := hshort
  clear hl hshort
  obtain ⟨a, cap, rfl⟩ := hv.len
  have hcap := hv.cap
  have HV : Hid (RowO w (.slice a qs.length cap) qs) := hv
  obtain ⟨aj, cj, rfl⟩ := hj.len
  have hcj := hj.cap
  have HJ : Hid (RowE w (.slice aj js.length cj) js) := hj
  have HJE : Hid (Ents w (fun _ => 0) js) := hje
  have hj20' : ¬ 20 < (js.length : Int) := by omega
  have HLI : Hid (Calls Try.prog 9 #[.slice ad ds.length cd, .slice a qs.length cap] w fun r w'' => r = .returned (.bool true) ∧ w'' = w) := LI
  have HDu : Hid (∀ d ∈ ds, U64 d) := hdu
  clear LI hv hj hje hdu
  have hPR := fun w' b fo (h : Rep w' b fo ⟨ds, []⟩) => pair_any w' b fo ⟨ds, []⟩ h (by simp)
  have HN : Hid (∀ (w1 w2 w3 : World) (b : Nat), ∀ ft, Rep w1 b ft ⟨ds, []⟩ → (∀ k ∈ ft, w.heap.size ≤ k) → Below w.heap.size w w1 → Left w1 b ft (⟨ds, []⟩ : St).pair w2 → (∀ o, LogIs w3 (newTo o w2 3) 3 w2.heap.size b 1 ((⟨ds, []⟩ : St).put .secret).fresh ⟨[], 0⟩) → Below w2.heap.size w2 w3 → ∃ o, G1 w w3 o b w2.heap.size (⟨ds, []⟩ : St).fresh ((⟨ds, []⟩ : St).put .secret).fresh (⟨ds, []⟩ : St).pair ⟨[], 0⟩) :=
    fun w1 w2 w3 b ft h1 h2 h3 h4 h5 h6 => g1_new HDu.out h1 h2 h3 h4 h5 h6
  have hlen2 : (⟨ds, []⟩ : St).pair.rows.length = 2 := by rw [pair_len]; rfl
  have hS1 : ((⟨ds, []⟩ : St).put .secret).put (.pub (⟨ds, []⟩ : St).fresh) = (⟨ds, []⟩ : St).pair := rfl
  have hup : U64 ((⟨ds, []⟩ : St).put .secret).fresh := (at_ok (pair_good (good0 (ds := ds) HDu.out) (by simp)) (pair_at (good0 (ds := ds) HDu.out) (by simp)).2).1
  rw [hS1] at hPR
  clear hS1
  generalize (⟨ds, []⟩ : St).pair = S1 at *
  generalize (⟨ds, []⟩ : St).fresh = s at *
  generalize ((⟨ds, []⟩ : St).put .secret).fresh = p at *
  have HPR : Hid (∀ w' b fo, Rep w' b fo ⟨ds, []⟩ → Calls Try.prog 12 #[ptr b] w' fun r w'' => r = .returned (.tuple #[.int .u64 s, .int .u64 p]) ∧ Left w' b fo S1 w'') := hPR
  have HLen : Hid (S1.rows.length = 2) := hlen2
  have HUp : Hid (U64 p) := hup
  have HNL : Hid (∀ w' b, Calls Try.prog 14 #[ptr b, .int .i64 1, .int .u64 p] w' fun r w'' => r = .returned (.tuple #[ptr w'.heap.size, .int .i64 0]) ∧ (∀ o j, LogIs w'' (newTo o w' j) j w'.heap.size b 1 p ⟨[], 0⟩) ∧ Below w'.heap.size w' w'') := fun w' b => by
    refine (newL_world w' b 1 p (by omega) (by omega)).mono ?_
    rintro r w'' ⟨rfl, rfl⟩
    exact ⟨rfl, fun o j => log_new j b 1 p (i64_small (by omega) (by omega)) HUp.out, balloc (Below.refl _ _) _⟩
  clear hPR hlen2 hup
  go_enter Try.func8, Try.ntmps8
  go_upto_region 6 with (first
    | (go_at_call 9; go_must (refine (Calls.mono HLI.out ?_); rintro r w0 ⟨rfl, hw0⟩; replace hw0 := hw0.symm; subst hw0))
    | (go_at_call 11; go_must (refine (new_any _ ds w HDv.out (by omega)).mono ?_; rintro r w1 ⟨b, rfl, ⟨ft, hr1, hn1⟩, hb1⟩))
    | (go_at_call 12; go_must (refine (HPR.out w1 b ft hr1).mono ?_; rintro r w2 ⟨rfl, hl2⟩))
    | (go_at_call 14; go_must (refine (HNL.out w2 b).mono ?_; rintro r w3 ⟨rfl, hl3, hb3⟩)))
  obtain ⟨o3, hG3⟩ := HN.out w1 w2 w3 b ft hr1 hn1 hb1 hl2 (fun o => hl3 o 3) hb3
  have HG3 : Hid (G1 w w3 o3 b w2.heap.size s p S1 ⟨[], 0⟩) := hG3
  clear hG3 hr1 hn1 hb1 hl2 hl3 hb3 HN HPR HNL HLI HDv
  obtain ⟨la, hla⟩ : ∃ la, la = w2.heap.size := ⟨_, rfl⟩
  rw [← hla] at HG3 ⊢
  clear hla
  have HLen0 : Hid (S1.rows.length ≤ 2) := (show _ ≤ _ from by rw [HLen.out]; omega)
  clear HLen HUp
  go_wp2_with fail
  go_loopg [13, 12] qs.length (fun kx s15 s14 wr => ∃ (i : Nat) (S : St) (L : Lg) (o : Nat → Nat) (ps : List (Ent × Value)), s15 = .int .i64 i ∧ i ≤ qs.length ∧ kx = qs.length - i ∧ Hid (G1 w wr o b la s p S L) ∧ Hid (AllAt wr o s14 ps ∧ ps.map (·.1) = L.es) ∧ Hid (S.rows.length ≤ 2 + 2 * i))
  case atStart => exact ⟨0, S1, ⟨[], 0⟩, o3, [], rfl, by omega, rfl, HG3, ⟨allAt_nil _ _, rfl⟩, HLen0⟩
  case round =>
    obtain ⟨i, S, L, o, ps, rfl, hi, rfl, HG, HAll, HRows0⟩ := hrel
    obtain ⟨va, vc, hva, hvb, hvc⟩ := slice_of_own HAll.out.1.row
    subst hva
    clear HG3 HLen0
    by_cases hi8 : i < qs.length
    · obtain ⟨q, hq⟩ : ∃ q, qs[i]? = some q := ⟨_, List.getElem?_eq_getElem hi8⟩
      obtain ⟨g, off, ea, hc⟩ := HV.out.at hq
      subst ea
      have HOkq : Hid (OprOk w q) := HV.out.1 q (List.mem_of_getElem? hq)
      have HShort : Hid (q.1.b.length ≤ 1200) := (HSh.out q (List.mem_of_getElem? hq)).1
      have HRows : Hid (S.rows.length ≤ 100) := (show _ ≤ _ from by have := HRows0.out; omega)
      obtain ⟨q, x, y⟩ := q
      dsimp only at *
      unfold OprOk at HOkq
      dsimp only at HOkq
      obtain ⟨ax, cx, hxx⟩ := HOkq.out.2.2.2.2.2.2.1.len
      subst hxx
      clear hq
      have HD : Hid (∀ w', Below w.heap.size w w' → ∀ j u, (oc q (.slice ax q.b.length cx) y)[j]? = some u → w'.cell? ⟨g, off + i * 14 + j, none⟩ = some u) := hc
      have HIs : Hid (∀ (wa : World) (oa : Nat → Nat), G1 w wa oa b la s p S L → Kp0 wa oa (.slice ax q.b.length cx) q.b → Calls Try.prog 19 #[ptr la, .int .u64 s, .agg #[.int .i64 q.t, .int .i64 1], .int .i64 q.n, .slice ax q.b.length cx] wa fun r w' => ∃ e k S' L' y o', r = .returned (.tuple #[ev e y, .int .i64 k]) ∧ Issued S p s L q.t 1 q.n q.b e k S' L' ∧ Sub S S' ∧ G1 w w' o' b la s p S' L' ∧ Kp0 w' o' y e.b ∧ Mv [1, 3] wa oa w' o') := fun wa oa hg hk => hg.issue (by have := HRows.out; omega) HOkq.out.2.1 (i64_small (by omega) (by omega)) HOkq.out.2.2.1 hk (by have := HShort.out; omega)
      have HKx : Hid (∀ (wa : World) (oa : Nat → Nat) (S : St) (L : Lg), G1 w wa oa b la s p S L → Kp0 wa oa (.slice ax q.b.length cx) q.b) := fun wa oa S L hg => hg.kp HOkq.out.2.2.2.2.2.2.1
      go_upto_region 10 with fail
      have d1 := fun z : WIn (fun w' => Below w.heap.size w w') => HD.out z.w z.ok 1 _ rfl
      have d2 := fun z : WIn (fun w' => Below w.heap.size w w') => HD.out z.w z.ok 2 _ rfl
      have d3 := fun z : WIn (fun w' => Below w.heap.size w w') => HD.out z.w z.ok 3 _ rfl
      have ne : Nonempty (WIn (fun w' => Below w.heap.size w w')) := ⟨⟨w, Below.refl _ _⟩⟩
      refine wp_region_tree (C := fun w' => ∃ z : WIn (fun w' => Below w.heap.size w w'), w' = z.w)
        (.still 0 (.still 1 (.still 2 (.still 3 (.still 4 (.still 5 (.still 6 (.still 7 (.still 8 (.still 9 (.still 10 (.still 11 (.still 12 (.still 13 (.still 14 (.still 15 (.still 16 (.still 17 (.two 18 (.still 19 (.still 20 (.still 21 (.one 22 (.one 23 (.still 24 .done)))))) 22 (.one 18 (.still 19 (.still 20 (.still 21 (.one 23 (.still 24 .done)))))))))))))))))))))))))
        (by kernel_rfl) (by kernel_rfl) ⟨⟨wr.drew, HG.out.bel.drew⟩, rfl⟩ ?_
      iterate 18 (refine tree_still rfl rfl ?_; go_big_quiet_step (fail); refine wpQuiet_nil ?_)
      refine tree_two rfl rfl rfl rfl ?wayA ?wayB
      case' wayA =>
        go_simp
        refine (HIs.out wr.drew o (g1_drew HG.out) (HKx.out _ _ _ _ (g1_drew HG.out))).mono ?_
        rintro r w4 ⟨e, k, S', L', ye, o4, rfl, h1, h2, h3, h4, h5⟩
        obtain ⟨ay, cy, hyy⟩ := h4.1.len
        subst hyy
        have HS0 : Hid (Step w wr o b la s p S L q.t q.n q.b (w4.alloc (.cells (ec e (.slice ay e.b.length cy)).toArray 47)) (newTo o4 w4 9) w4.heap.size e k S' L' (.slice ay e.b.length cy)) := step_A h1 h2 h3 h4 (mv_undrew h5)
        have HB4 : Hid (Below w.heap.size w w4) := h3.bel
        clear h1 h2 h3 h4 h5
        unfold ev
        refine ⟨⟨⟨w4, HB4.out⟩, rfl⟩, ?_⟩
        iterate 3 (refine tree_still rfl rfl ?_; go_big_quiet_step (fail); refine wpQuiet_nil ?_)
        refine tree_one rfl rfl ?_
        go_simp
        refine ⟨⟨⟨_, balloc HB4.out _⟩, rfl⟩, ?_⟩
        refine tree_one rfl rfl ?_
        go_simp
        refine ⟨⟨⟨_, balloc HB4.out _⟩, rfl⟩, ?_⟩
        generalize hw5 : w4.alloc (.cells #[.int .i64 e.w, .int .i64 e.i, .int .u64 e.p, .int .i64 e.t, .int .i64 e.u, .int .i64 e.n, .slice ay e.b.length cy, .int .u64 e.g] 47) = w5
        generalize hn5 : w4.heap.size = n5
        have HStep : Hid (∃ o5, Step w wr o b la s p S L q.t q.n q.b w5 o5 n5 e k S' L' (.slice ay e.b.length cy)) := ⟨_, (show Step w wr o b la s p S L q.t q.n q.b w5 _ n5 e k S' L' _ from by rw [← hw5, ← hn5]; exact HS0.out)⟩
        clear hw5 hn5 HS0 HB4
      case' wayB =>
        go_simp
        have HGa : Hid (G1 w (wr.alloc (.cells #[.int .i64 0, .int .i64 0, .int .u64 0, .int .i64 0, .int .i64 0, .int .i64 0, .slice none 0 0, .int .u64 0] 47)).drew (newTo o wr 9) b la s p S L) := g1_drew (HG.out.mvd (Mv.of_below (I := []) 9 (balloc (Below.refl _ _) _)) (by simp) (by simp) (by simp) (by simp))
        refine ⟨⟨⟨_, HGa.out.bel⟩, rfl⟩, ?_⟩
        refine tree_one rfl rfl ?_
        go_simp
        refine (HIs.out _ _ HGa.out (HKx.out _ _ _ _ HGa.out)).mono ?_
        rintro r w4 ⟨e, k, S', L', ye, o4, rfl, h1, h2, h3, h4, h5⟩
        obtain ⟨ay, cy, hyy⟩ := h4.1.len
        subst hyy
        have HS0 := step_B rfl h1 h2 h3 h4 (mv_undrew h5)
        have HB4 : Hid (Below w.heap.size w w4) := h3.bel
        have Z4 := step_zero rfl (mv_undrew h5)
        have z0 := Z4.cell 0 _ rfl; have z1 := Z4.cell 1 _ rfl; have z2 := Z4.cell 2 _ rfl; have z3 := Z4.cell 3 _ rfl; have z4 := Z4.cell 4 _ rfl; have z5 := Z4.cell 5 _ rfl; have z6 := Z4.cell 6 _ rfl; have z7 := Z4.cell 7 _ rfl; have f0 := Z4.frozen 0; have f1 := Z4.frozen 1; have f2 := Z4.frozen 2; have f3 := Z4.frozen 3; have f4 := Z4.frozen 4; have f5 := Z4.frozen 5; have f6 := Z4.frozen 6; have f7 := Z4.frozen 7
        clear h1 h2 h3 h4 h5 Z4
        unfold ev
        refine ⟨⟨⟨w4, HB4.out⟩, rfl⟩, ?_⟩
        iterate 3 (refine tree_still rfl rfl ?_; go_big_quiet_step (fail); refine wpQuiet_nil ?_)
        refine tree_one rfl rfl ?_
        go_simp
        have HB5 := HS0.g.bel
        refine ⟨⟨⟨_, HB5⟩, rfl⟩, ?_⟩
        clear HB5 z0 z1 z2 z3 z4 z5 z6 z7 f0 f1 f2 f3 f4 f5 f6 f7
        generalize ((((((((w4.setCell ⟨wr.heap.size, 0, none⟩ (.int .i64 e.w)).setCell ⟨wr.heap.size, 1, none⟩ (.int .i64 e.i)).setCell ⟨wr.heap.size, 2, none⟩ (.int .u64 e.p)).setCell ⟨wr.heap.size, 3, none⟩ (.int .i64 e.t)).setCell ⟨wr.heap.size, 4, none⟩ (.int .i64 e.u)).setCell ⟨wr.heap.size, 5, none⟩ (.int .i64 e.n)).setCell ⟨wr.heap.size, 6, none⟩ (.slice ay e.b.length cy)).setCell ⟨wr.heap.size, 7, none⟩ (.int .u64 e.g)) = w5 at *
        generalize hn5 : wr.heap.size = n5 at *
        have HStep : Hid (∃ o5, Step w wr o b la s p S L q.t q.n q.b w5 o5 n5 e k S' L' (.slice ay e.b.length cy)) := ⟨_, HS0⟩
        clear hn5 HS0 HB4 HGa
      all_goals
        refine tree_still rfl rfl ?_
        go_big_quiet_step (fail)
        refine wpQuiet_nil ?_
        refine tree_done ?_
        clear d1 d2 d3 ne
        obtain ⟨o5, hst⟩ := HStep.out
        have HT : Hid (Step w wr o b la s p S L q.t q.n q.b w5 o5 n5 e k S' L' (.slice ay e.b.length cy)) := hst
        clear hst HStep HIs HKx
        have hbx := HT.out.box
        unfold ec at hbx
        by_cases hk0 : k = 0
        · subst hk0
          have m0 := hbx.cell 0 _ rfl; have m1 := hbx.cell 1 _ rfl; have m2 := hbx.cell 2 _ rfl; have m3 := hbx.cell 3 _ rfl; have m4 := hbx.cell 4 _ rfl; have m5 := hbx.cell 5 _ rfl; have m6 := hbx.cell 6 _ rfl; have m7 := hbx.cell 7 _ rfl
          clear hbx
          have HIok : Hid (IssueOk S 1 p s L (candE 1 L q.t 1 q.n q.b) e S' L') := HT.out.iss.yes rfl
          have HAl5 : Hid (AllAt w5 o5 (.slice va ps.length vc) ps) := HAll.out.1.mv HT.out.mv (by simp) (by simp)
          have HOne : Hid (∀ u ∈ flatE [(e, (.slice ay e.b.length cy : Value))], u.oneCell' = true) := flatE_one (fun q hq => by simp at hq; subst hq; rfl)
          have HRo5 : Hid ((w5.alloc (.cells #[.int .i64 e.w, .int .i64 e.i, .int .u64 e.p, .int .i64 e.t, .int .i64 e.u, .int .i64 e.n, .slice ay e.b.length cy, .int .u64 e.g] 47)).ownsRow 0 47 8 (.slice va ps.length vc) ps.length (flatE ps)) := HAl5.out.row.alloc _
          have HR1 : Hid (RowE (w5.alloc (.cells #[.int .i64 e.w, .int .i64 e.i, .int .u64 e.p, .int .i64 e.t, .int .i64 e.u, .int .i64 e.n, .slice ay e.b.length cy, .int .u64 e.g] 47)) (.slice (some ⟨w5.heap.size, 0, none⟩) 1 1) [(e, .slice ay e.b.length cy)]) := rowE_one w5 e _
          have HPs : Hid (ps.length ≤ 200) := (show _ ≤ _ from by have h1 := HG.out.whole.few; have h2 := congrArg List.length HAll.out.2; simp at h2; omega)
          go_wp2_with (at_builtin; go_must (refine wpList_append_ents rfl (.tmp 72) (.tmp 74) rfl (.slice va ps.length vc) ps rfl HRo5.out _ [(e, .slice ay e.b.length cy)] rfl HR1.out HOne.out (by have := HPs.out; simp; omega) ?_; intro v2 w6 hrow hg hwh; have HApp : Hid (∃ o6, AllAt w6 o6 v2 (ps ++ [(e, .slice ay e.b.length cy)]) ∧ Mv [7] w5 o5 w6 o6) := HAl5.out.add HIok.out.ok HT.out.kp _ hrow hg hwh; obtain ⟨va2, vc2, hv2, hv2b, hv2c⟩ := slice_of_own hrow; subst hv2; clear hrow hg hwh))
          go_roundg (qs.length - (i + 1))
          case measure => omega
          case rel =>
            obtain ⟨o6, h1, h2⟩ := HApp.out
            refine ⟨i + 1, S', L', o6, ps ++ [(e, .slice ay e.b.length cy)], by go_num, by omega, rfl, HT.out.g.mvd h2 (by simp) (by simp) (by simp) (by simp), ⟨by simpa using h1, ?_⟩, ?_⟩
            · rw [List.map_append, HAll.out.2, HIok.out.es]
              rfl
            · show _ ≤ _
              have h3 := HRows0.out
              have h4 := HT.out.iss.len
              omega
        · have hk2 : (k == 0) = false := by simpa using hk0
          obtain ⟨n1, n2, n3⟩ := HT.out.iss.no hk0
          subst n1 n2 n3
          have HAl5 : Hid (AllAt w5 o5 (.slice va ps.length vc) ps) := HAll.out.1.mv HT.out.mv (by simp) (by simp)
          clear hbx hk0
          go_wp2_with fail
          go_roundg (qs.length - (i + 1))
          case measure => omega
          case rel => exact ⟨i + 1, _, _, o5, ps, by go_num, by omega, rfl, HT.out.g, ⟨HAl5.out, HAll.out.2⟩, (show _ ≤ _ from by have := HRows0.out; omega)⟩
    · obtain rfl : i = qs.length := by omega
      have HRows1 : Hid (S.rows.length ≤ 100) := (show _ ≤ _ from by have := HRows0.out; omega)
      clear HRows0 hi8
      go_wp2_with fail
      go_loopg [16, 12] js.length (fun kx s16 s14 wr => ∃ (i : Nat) (S : St) (L : Lg) (o : Nat → Nat) (ps : List (Ent × Value)), s16 = .int .i64 i ∧ i ≤ js.length ∧ kx = js.length - i ∧ Hid (G1 w wr o b la s p S L) ∧ Hid (AllAt wr o s14 ps ∧ ps.map (·.1) = L.es) ∧ Hid (S.rows.length ≤ 100 + i))
      case atStart => exact ⟨0, S, L, o, ps, rfl, by omega, rfl, HG, HAll, (show _ ≤ _ from by have := HRows1.out; omega)⟩
      case round =>
        clear HG HAll HRows1 hi hvb hvc
        obtain ⟨i, S, L, o, ps, rfl, hi, rfl, HG, HAll, HRows0⟩ := hrel
        obtain ⟨va, vc, hva, hvb, hvc⟩ := slice_of_own HAll.out.1.row
        subst hva
        by_cases hi8 : i < js.length
        · obtain ⟨⟨e, x⟩, hq⟩ : ∃ q, js[i]? = some q := ⟨_, List.getElem?_eq_getElem hi8⟩
          obtain ⟨g, off, ea, hc⟩ := (HJ.out.below HG.out.bel).at hq
          subst ea
          have HEx : Hid (EOk e ∧ Rd w x e.b) := ⟨(HJE.out _ (List.mem_of_getElem? hq)).1, (HJE.out _ (List.mem_of_getElem? hq)).2.1⟩
          obtain ⟨ax, cx, hxx⟩ := HEx.out.2.len
          subst hxx
          have hbx := HEx.out.2.cap
          have HCc : Hid (∀ j u, (ec e (.slice ax e.b.length cx))[j]? = some u → wr.cell? ⟨g, off + i * 8 + j, none⟩ = some u) := hc
          unfold ec at HCc
          have HCw : Hid (∀ w', Below w.heap.size w w' → ∀ j u, (ec e (.slice ax e.b.length cx))[j]? = some u → w'.cell? ⟨g, off + i * 8 + j, none⟩ = some u) := fun w' hb' j u hu => by
            obtain ⟨g2, off2, e2, hc2⟩ := (HJ.out.below hb').at hq
            cases e2
            exact hc2 j u hu
          unfold ec at HCw
          clear hq hc
          have d6 := HCc.out 6 _ rfl
          by_cases hlong : e.b.length ≤ 1200
          · have hlong' : ¬ 1200 < (e.b.length : Int) := by omega
            have d0 := HCc.out 0 _ rfl
            have d1 := HCc.out 1 _ rfl
            have d2 := HCc.out 2 _ rfl
            have d3 := HCc.out 3 _ rfl
            have d4 := HCc.out 4 _ rfl
            have d5 := HCc.out 5 _ rfl
            have d7 := HCc.out 7 _ rfl
            simp only [Nat.add_zero] at d0
            have HAc : Hid (Calls Try.prog 25 #[ptr la, .agg #[.int .i64 e.w, .int .i64 e.i, .int .u64 e.p, .int .i64 e.t, .int .i64 e.u, .int .i64 e.n, .slice ax e.b.length cx, .int .u64 e.g]] wr fun r w' => ∃ k S' L' o', r = .returned (.int .i64 k) ∧ (k = 0 → L'.es = L.es ++ [e]) ∧ (k ≠ 0 → S' = S ∧ L' = L) ∧ S'.rows.length ≤ S.rows.length + 1 ∧ Sub S S' ∧ G1 w w' o' b la s p S' L' ∧ Mv [1, 3] wr o w' o') := HG.out.accept (by have := HRows0.out; omega) HEx.out.1 (HG.out.kp HEx.out.2) (by omega)
            go_upto_if 96 with (go_at_call 25; go_must (refine (Calls.mono HAc.out ?_); rintro r w5 ⟨k, S', L', o5, rfl, hy, hn, hln, hsb, hG5, hm5⟩; have HY : Hid (k = 0 → L'.es = L.es ++ [e]) := hy; have HNn : Hid (k ≠ 0 → S' = S ∧ L' = L) := hn; have HLn : Hid (S'.rows.length ≤ S.rows.length + 1) := hln; have HG5 : Hid (G1 w w5 o5 b la s p S' L') := hG5; have HM5 : Hid (Mv [1, 3] wr o w5 o5) := hm5; clear hy hn hln hsb hG5 hm5))
            clear d0 d1 d2 d3 d4 d5 d6 d7
            have HAl5 : Hid (AllAt w5 o5 (.slice va ps.length vc) ps) := HAll.out.1.mv HM5.out (by simp) (by simp)
            by_cases hk0 : k = 0
            · subst hk0
              have HYe := HY.out rfl
              have HOne : Hid (∀ u ∈ flatE [(e, (.slice ax e.b.length cx : Value))], u.oneCell' = true) := flatE_one (fun q hq => by simp at hq; subst hq; rfl)
              have HRo5 : Hid ((w5.alloc (.cells #[.int .i64 e.w, .int .i64 e.i, .int .u64 e.p, .int .i64 e.t, .int .i64 e.u, .int .i64 e.n, .slice ax e.b.length cx, .int .u64 e.g] 47)).ownsRow 0 47 8 (.slice va ps.length vc) ps.length (flatE ps)) := HAl5.out.row.alloc _
              have HR1 : Hid (RowE (w5.alloc (.cells #[.int .i64 e.w, .int .i64 e.i, .int .u64 e.p, .int .i64 e.t, .int .i64 e.u, .int .i64 e.n, .slice ax e.b.length cx, .int .u64 e.g] 47)) (.slice (some ⟨w5.heap.size, 0, none⟩) 1 1) [(e, .slice ax e.b.length cx)]) := rowE_one w5 e _
              have HPs : Hid (ps.length ≤ 200) := (show _ ≤ _ from by have h1 := HG.out.whole.few; have h2 := congrArg List.length HAll.out.2; simp at h2; omega)
              have HYe' : Hid (L'.es = L.es ++ [e]) := HYe
              clear HYe
              have d0 := HCw.out w5 HG5.out.bel 0 _ rfl
              have d1 := HCw.out w5 HG5.out.bel 1 _ rfl
              have d2 := HCw.out w5 HG5.out.bel 2 _ rfl
              have d3 := HCw.out w5 HG5.out.bel 3 _ rfl
              have d4 := HCw.out w5 HG5.out.bel 4 _ rfl
              have d5 := HCw.out w5 HG5.out.bel 5 _ rfl
              have d6 := HCw.out w5 HG5.out.bel 6 _ rfl
              have d7 := HCw.out w5 HG5.out.bel 7 _ rfl
              simp only [Nat.add_zero] at d0
              go_wp2_with (at_builtin; go_must (refine wpList_append_ents rfl (.tmp 97) (.tmp 102) rfl (.slice va ps.length vc) ps rfl HRo5.out _ [(e, .slice ax e.b.length cx)] rfl HR1.out HOne.out (by have := HPs.out; simp; omega) ?_; intro v2 w6 hrow hg hwh; have HApp : Hid (∃ o6, AllAt w6 o6 v2 (ps ++ [(e, .slice ax e.b.length cx)]) ∧ Mv [7] w5 o5 w6 o6) := HAl5.out.add HEx.out.1 (HG5.out.kp HEx.out.2) _ hrow hg hwh; obtain ⟨va2, vc2, hv2, hv2b, hv2c⟩ := slice_of_own hrow; subst hv2; clear hrow hg hwh))
              go_roundg (js.length - (i + 1))
              case measure => omega
              case rel =>
                obtain ⟨o6, h1, h2⟩ := HApp.out
                refine ⟨i + 1, S', L', o6, ps ++ [(e, .slice ax e.b.length cx)], by go_num, by omega, rfl, HG5.out.mvd h2 (by simp) (by simp) (by simp) (by simp), ⟨by simpa using h1, ?_⟩, ?_⟩
                · rw [List.map_append, HAll.out.2, HYe'.out]
                  rfl
                · show _ ≤ _
                  have h3 := HRows0.out
                  have h4 := HLn.out
                  omega
            · have hk2 : (k == 0) = false := by simpa using hk0
              obtain ⟨n1, n2⟩ := HNn.out hk0
              subst n1 n2
              clear hk0
              go_wp2_with fail
              go_roundg (js.length - (i + 1))
              case measure => omega
              case rel => exact ⟨i + 1, _, _, o5, ps, by go_num, by omega, rfl, HG5, ⟨HAl5.out, HAll.out.2⟩, (show _ ≤ _ from by have := HRows0.out; omega)⟩
          · have hlong' : 1200 < (e.b.length : Int) := by omega
            have HBw : Hid (Below w.heap.size w wr) := HG.out.bel
            clear hlong
            go_wp2_with (go_at_call 10; go_must (refine (alive_any _).mono ?_; rintro r w8 ⟨rfl, hb8⟩))
            go_ret
            exact ⟨rfl, bnext HBw.out hb8⟩
        · obtain rfl : i = js.length := by omega
          have HLn : Hid (L.es.length = ps.length) := (show _ = _ from by have := congrArg List.length HAll.out.2; simp at this; omega)
          have HA1 : Hid (∀ (wa : World) (oa : Nat → Nat), G1 w wa oa b la s p S L → Calls Try.prog 35 #[ptr la] wa fun r w' => ∃ v' ps', r = .returned v' ∧ ps'.map (·.1) = L.es ∧ RowE w' v' ps' ∧ Ents w' (newTo oa wa 0) ps' ∧ Below wa.heap.size wa w' ∧ (∀ k, v'.ownBlock = some k → wa.heap.size ≤ k)) := fun wa oa hg => allL_any hg.log
          have hLl : (L.es.length : Int) = ps.length := by have := HLn.out; omega
          have HW1 : Hid (∀ (wa : World) (oa : Nat → Nat) (v' : Value) (ps' : List (Ent × Value)), G1 w wa oa b la s p S L → ps'.map (·.1) = L.es → RowE wa v' ps' → Ents wa oa ps' → (∀ k, v'.ownBlock = some k → oa k = 0) → Calls Try.prog 27 #[ptr b, .int .u64 p, v'] wa fun r w' => r = .returned (.tuple #[.int .i64 (ps.length : Int), .int .i64 0]) ∧ ∃ o', G1 w w' o' b la s p S L ∧ Mv [1] wa oa w' o') := fun wa oa v' ps' hg h1 h2 h3 h4 => by
            have := hg.whole_calls (by have := HRows0.out; omega) h1 h2 h3 h4
            rw [hLl] at this
            exact this
          clear hi8 hLl
          go_upto_region 21 with (first
            | (go_at_call 35; go_must (refine (HA1.out wr o HG.out).mono ?_; rintro r w5 ⟨v5, ps5, rfl, h1, h2, h3, h4, h5⟩; obtain ⟨a5, c5, hv5⟩ := h2.len; subst hv5; have HP5 : Hid (ps5.map (·.1) = L.es ∧ RowE w5 (.slice a5 ps5.length c5) ps5 ∧ Ents w5 (newTo o wr 0) ps5 ∧ ∀ k, (Value.slice a5 ps5.length c5).ownBlock = some k → newTo o wr 0 k = 0) := ⟨h1, h2, h3, fun k hk => newTo_new (h5 k hk)⟩; have HG5 : Hid (G1 w w5 (newTo o wr 0) b la s p S L) := HG.out.below h4; have HAl5 : Hid (AllAt w5 (newTo o wr 0) (.slice va ps.length vc) ps) := HAll.out.1.mv (Mv.of_below (I := []) 0 h4) (by simp) (by simp); clear h1 h2 h3 h4 h5))
            | (go_at_call 27; go_must (refine (HW1.out w5 _ _ ps5 HG5.out HP5.out.1 HP5.out.2.1 HP5.out.2.2.1 HP5.out.2.2.2).mono ?_; rintro r w6 ⟨rfl, o6, hG6, hm6⟩; have HG6 : Hid (G1 w w6 o6 b la s p S L) := hG6; have HAl6 : Hid (AllAt w6 o6 (.slice va ps.length vc) ps) := HAl5.out.mv hm6 (by simp) (by simp); clear hG6 hm6)))
          have HSm : Hid (∀ (wa : World) (oa : Nat → Nat) (v' : Value) (ps' : List (Ent × Value)), ps'.map (·.1) = L.es → RowE wa v' ps' → Ents wa oa ps' → AllAt wa oa (.slice va ps.length vc) ps → Calls Try.prog 15 #[v', .slice va ps.length vc] wa fun r w' => r = .returned (.bool true) ∧ Below wa.heap.size wa w') := fun wa oa v' ps' h1 h2 h3 h4 => refall_eq h2 h3 (rowE_own h4.row) h4.ents (h1.trans HAll.out.2.symm)
          go_wp2_with (first
            | (go_at_call 35; go_must (refine (HA1.out w6 o6 HG6.out).mono ?_; rintro r w7 ⟨v7, ps7, rfl, h1, h2, h3, h4, h5⟩; obtain ⟨a7, c7, hv7⟩ := h2.len; subst hv7; have HP7 : Hid (ps7.map (·.1) = L.es ∧ RowE w7 (.slice a7 ps7.length c7) ps7 ∧ Ents w7 (newTo o6 w6 0) ps7) := ⟨h1, h2, h3⟩; have HB7 : Hid (Below w6.heap.size w6 w7) := h4; have HAl7 : Hid (AllAt w7 (newTo o6 w6 0) (.slice va ps.length vc) ps) := HAl6.out.mv (Mv.of_below (I := []) 0 h4) (by simp) (by simp); clear h1 h2 h3 h4 h5))
            | (go_at_call 15; go_must (refine (HSm.out w7 _ _ ps7 HP7.out.1 HP7.out.2.1 HP7.out.2.2 HAl7.out).mono ?_; rintro r w8 ⟨rfl, hb8⟩; have HB8 : Hid (Below w7.heap.size w7 w8) := hb8; clear hb8))
            | (go_at_call 10; go_must (refine (alive_any _).mono ?_; rintro r w9 ⟨rfl, hb9⟩)))
          go_ret
          exact ⟨rfl, bnext (bnext (bnext HG6.out.bel HB7.out) HB8.out) hb9⟩
end Go.Proofs.Yteedjdflojfhmaa
