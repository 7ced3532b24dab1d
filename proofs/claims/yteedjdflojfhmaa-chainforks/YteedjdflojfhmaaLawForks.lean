/-
  The walk of ChainForks: an entry that is signed anew for a place that is there is told with the one that is there, and nothing else is.
-/
import Derived.Test.YteedjdflojfhmaaDuo
import Derived.Deep.LoopGhost
namespace Go.Proofs.Yteedjdflojfhmaa
set_option linter.unusedVariables false
set_option linter.unusedSimpArgs false
set_option synthInstance.maxSize 20000
set_option maxHeartbeats 2000000
set_option maxRecDepth 20000
open Go.RowKit Go.Maps

theorem forks_dark (v : Value) (qs : List (Opr × Value × Value)) (at' : Int) (ov : Value) (ol : List Int) (w : World) (hv : RowO w v qs) (ho : Rd w ov ol) (hl : lightB 0 qs = false ∨ 1000 < ol.length) : Calls Try.prog 6 #[v, .int .i64 at', ov] w fun r w' => r = .returned (.bool true) ∧ Below w.heap.size w w' := by
  have LI := light_any (Below.refl w.heap.size w) none 0 0 (by omega) hv
  obtain ⟨a, cap, rfl⟩ := hv.len
  obtain ⟨ao, co, rfl⟩ := ho.len
  have hco := ho.cap
  clear hv ho
  cases hb : lightB 0 qs with
  | false =>
    rw [hb] at LI
    have HLI : Hid (Calls Try.prog 9 #[.slice none 0 0, .slice a qs.length cap] w fun r w'' => r = .returned (.bool false) ∧ w'' = w) := LI
    clear LI hl hb
    go_enter Try.func6, Try.ntmps6
    go_wp2_with (first
      | (go_at_call 9; go_must (refine (Calls.mono HLI.out ?_); rintro r w1 ⟨rfl, hw1⟩; replace hw1 := hw1.symm; subst hw1))
      | (go_at_call 10; go_must (refine (alive_any _).mono ?_; rintro r w2 ⟨rfl, hb2⟩)))
    go_ret
    exact ⟨rfl, hb2⟩
  | true =>
    rw [hb] at LI
    have h20 : 1000 < (ol.length : Int) := by
      rcases hl with c | c
      · rw [hb] at c; cases c
      · omega
    have HLI : Hid (Calls Try.prog 9 #[.slice none 0 0, .slice a qs.length cap] w fun r w'' => r = .returned (.bool true) ∧ w'' = w) := LI
    clear LI hl hb
    go_enter Try.func6, Try.ntmps6
    go_wp2_with (first
      | (go_at_call 9; go_must (refine (Calls.mono HLI.out ?_); rintro r w1 ⟨rfl, hw1⟩; replace hw1 := hw1.symm; subst hw1))
      | (go_at_call 10; go_must (refine (alive_any _).mono ?_; rintro r w2 ⟨rfl, hb2⟩)))
    go_ret
    exact ⟨rfl, hb2⟩

theorem forks_walk (v : Value) (qs : List (Opr × Value × Value)) (at' : Int) (ov : Value) (ol : List Int) (w : World) (hv : RowO w v qs) (hat : I64 at') (ho : Rd w ov ol) : Calls Try.prog 6 #[v, .int .i64 at', ov] w fun r w' => r = .returned (.bool true) ∧ Below w.heap.size w w' := by
  by_cases hdark : lightB 0 qs = false ∨ 1000 < ol.length
  · exact forks_dark v qs at' ov ol w hv ho hdark
  have hl : lightB 0 qs = true := by
    cases hb : lightB 0 qs with
    | false => exact absurd (.inl hb) hdark
    | true => rfl
  have ho1 : ol.length ≤ 1000 := by
    rcases Nat.lt_or_ge 1000 ol.length with c | c
    · exact absurd (.inr c) hdark
    · exact c
  clear hdark
  have LI := light_any (Below.refl w.heap.size w) none 0 0 (by omega) hv
  rw [hl] at LI
  obtain ⟨_, hq40, hshort⟩ := lightB_iff hl
  have HSh : Hid (∀ q ∈ qs, q.1.b.length ≤ 1200 ∧ q.1.e.b.length ≤ 1200) := hshort
  clear hl hshort
  obtain ⟨a, cap, rfl⟩ := hv.len
  have hcap := hv.cap
  have HV : Hid (RowO w (.slice a qs.length cap) qs) := hv
  obtain ⟨ao, co, rfl⟩ := ho.len
  have hco := ho.cap
  have HOv : Hid (Rd w (.slice ao ol.length co) ol) := ho
  have ho20 : ¬ 1000 < (ol.length : Int) := by omega
  have HLI : Hid (Calls Try.prog 9 #[.slice none 0 0, .slice a qs.length cap] w fun r w'' => r = .returned (.bool true) ∧ w'' = w) := LI
  clear LI hv ho
  have hPR := fun w' b fo (h : Rep w' b fo ⟨[], []⟩) => pair_any w' b fo ⟨[], []⟩ h (by simp)
  have HN : Hid (∀ (w1 w2 w3 : World) (b : Nat), ∀ ft, Rep w1 b ft ⟨[], []⟩ → (∀ k ∈ ft, w.heap.size ≤ k) → Below w.heap.size w w1 → Left w1 b ft (⟨[], []⟩ : St).pair w2 → (∀ o, LogIs w3 (newTo o w2 3) 3 w2.heap.size b 1 ((⟨[], []⟩ : St).put .secret).fresh ⟨[], 0⟩) → Below w2.heap.size w2 w3 → ∃ o, G1 w w3 o b w2.heap.size (⟨[], []⟩ : St).fresh ((⟨[], []⟩ : St).put .secret).fresh (⟨[], []⟩ : St).pair ⟨[], 0⟩) :=
    fun w1 w2 w3 b ft h1 h2 h3 h4 h5 h6 => g1_new (fun d hd => by cases hd) h1 h2 h3 h4 h5 h6
  have hlen2 : (⟨[], []⟩ : St).pair.rows.length = 2 := by rw [pair_len]; rfl
  have hS1 : ((⟨[], []⟩ : St).put .secret).put (.pub (⟨[], []⟩ : St).fresh) = (⟨[], []⟩ : St).pair := rfl
  have hup : U64 ((⟨[], []⟩ : St).put .secret).fresh := (at_ok (pair_good (good0 (ds := []) (fun d hd => by cases hd)) (by simp)) (pair_at (good0 (ds := []) (fun d hd => by cases hd)) (by simp)).2).1
  rw [hS1] at hPR
  clear hS1
  generalize (⟨[], []⟩ : St).pair = S1 at *
  generalize (⟨[], []⟩ : St).fresh = s at *
  generalize ((⟨[], []⟩ : St).put .secret).fresh = p at *
  have HPR : Hid (∀ w' b fo, Rep w' b fo ⟨[], []⟩ → Calls Try.prog 12 #[ptr b] w' fun r w'' => r = .returned (.tuple #[.int .u64 s, .int .u64 p]) ∧ Left w' b fo S1 w'') := hPR
  have HLen : Hid (S1.rows.length = 2) := hlen2
  have HUp : Hid (U64 p) := hup
  have HNL : Hid (∀ w' b, Calls Try.prog 14 #[ptr b, .int .i64 1, .int .u64 p] w' fun r w'' => r = .returned (.tuple #[ptr w'.heap.size, .int .i64 0]) ∧ (∀ o j, LogIs w'' (newTo o w' j) j w'.heap.size b 1 p ⟨[], 0⟩) ∧ Below w'.heap.size w' w'') := fun w' b => by
    refine (newL_world w' b 1 p (by omega) (by omega)).mono ?_
    rintro r w'' ⟨rfl, rfl⟩
    exact ⟨rfl, fun o j => log_new j b 1 p (i64_small (by omega) (by omega)) HUp.out, balloc (Below.refl _ _) _⟩
  clear hPR hlen2 hup
  go_enter Try.func6, Try.ntmps6
  go_upto_region 6 with (first
    | (go_at_call 9; go_must (refine (Calls.mono HLI.out ?_); rintro r w0 ⟨rfl, hw0⟩; replace hw0 := hw0.symm; subst hw0))
    | (go_at_call 11; go_must (refine (new_any _ [] w (rdU_nil w) (by simp)).mono ?_; rintro r w1 ⟨b, rfl, ⟨ft, hr1, hn1⟩, hb1⟩))
    | (go_at_call 12; go_must (refine (HPR.out w1 b ft hr1).mono ?_; rintro r w2 ⟨rfl, hl2⟩))
    | (go_at_call 14; go_must (refine (HNL.out w2 b).mono ?_; rintro r w3 ⟨rfl, hl3, hb3⟩)))
  obtain ⟨o3, hG3⟩ := HN.out w1 w2 w3 b ft hr1 hn1 hb1 hl2 (fun o => hl3 o 3) hb3
  have HG3 : Hid (G1 w w3 o3 b w2.heap.size s p S1 ⟨[], 0⟩) := hG3
  clear hG3 hr1 hn1 hb1 hl2 hl3 hb3 HN HPR HLI
  obtain ⟨la, hla⟩ : ∃ la, la = w2.heap.size := ⟨_, rfl⟩
  rw [← hla] at HG3 ⊢
  clear hla
  go_upto_region 7 with (go_at_call 14; go_must (refine (HNL.out w3 b).mono ?_; rintro r w4 ⟨rfl, hl4, hb4⟩))
  have HG4 : Hid (G1 w w4 (newTo o3 w3 4) b la s p S1 ⟨[], 0⟩) := HG3.out.mvd (Mv.of_below (I := []) 4 hb4) (by simp) (by simp) (by simp) (by simp)
  have HD4 : Hid (Duo w4 (newTo o3 w3 4) b w3.heap.size s p S1 (begin' S1 ⟨[], 0⟩ at'.toNat)) := by
    show Duo _ _ _ _ _ _ _ _
    rw [begin_nil]
    exact ⟨hl4 o3 4, whole_nil HG3.out.key.pub⟩
  clear hl4 hb4 HG3 HNL
  obtain ⟨lb, hlb⟩ : ∃ lb, lb = w3.heap.size := ⟨_, rfl⟩
  rw [← hlb] at HD4 ⊢
  clear hlb
  obtain ⟨o4, ho4⟩ : ∃ o4, o4 = newTo o3 w3 4 := ⟨_, rfl⟩
  rw [← ho4] at HG4 HD4
  clear ho4
  have HLen0 : Hid (S1.rows.length ≤ 2) := (show _ ≤ _ from by rw [HLen.out]; omega)
  clear HLen HUp
  go_wp2_with fail
  go_loopg [15, 14] qs.length (fun kx s15 s14 wr => ∃ (i : Nat) (S : St) (L : Lg) (o : Nat → Nat) (ps : List (Ent × Value)), s15 = .int .i64 i ∧ i ≤ qs.length ∧ kx = qs.length - i ∧ Hid (G1 w wr o b la s p S L) ∧ Hid (Duo wr o b lb s p S (begin' S L at'.toNat)) ∧ Hid (AllAt wr o s14 ps ∧ ps.map (·.1) = L.es) ∧ Hid (S.rows.length ≤ 2 + 3 * i))
  case atStart => exact ⟨0, S1, ⟨[], 0⟩, o4, [], rfl, by omega, rfl, HG4, HD4, ⟨allAt_nil _ _, rfl⟩, HLen0⟩
  case round =>
    obtain ⟨i, S, L, o, ps, rfl, hi, rfl, HG, HDu, HAll, HRows0⟩ := hrel
    obtain ⟨va, vc, hva, hvb, hvc⟩ := slice_of_own HAll.out.1.row
    subst hva
    clear HG4 HLen0 HD4
    by_cases hi8 : i < qs.length
    · obtain ⟨q, hq⟩ : ∃ q, qs[i]? = some q := ⟨_, List.getElem?_eq_getElem hi8⟩
      obtain ⟨g, off, ea, hc⟩ := HV.out.at hq
      subst ea
      have HOkq : Hid (OprOk w q) := HV.out.1 q (List.mem_of_getElem? hq)
      have HShort : Hid (q.1.b.length ≤ 1200) := (HSh.out q (List.mem_of_getElem? hq)).1
      have HRows : Hid (S.rows.length ≤ 200) := (show _ ≤ _ from by have := HRows0.out; omega)
      obtain ⟨q, x, y⟩ := q
      dsimp only at *
      unfold OprOk at HOkq
      dsimp only at HOkq
      obtain ⟨ax, cx, hxx⟩ := HOkq.out.2.2.2.2.2.2.1.len
      subst hxx
      clear hq
      have HD : Hid (∀ w', Below w.heap.size w w' → ∀ j u, (oc q (.slice ax q.b.length cx) y)[j]? = some u → w'.cell? ⟨g, off + i * 14 + j, none⟩ = some u) := hc
      have HIs : Hid (∀ (wa : World) (oa : Nat → Nat), G1 w wa oa b la s p S L → Kp0 wa oa (.slice ax q.b.length cx) q.b → Calls Try.prog 19 #[ptr la, .int .u64 s, .agg #[.int .i64 q.t, .int .i64 1], .int .i64 q.n, .slice ax q.b.length cx] wa fun r w' => ∃ e k S' L' y o', r = .returned (.tuple #[ev e y, .int .i64 k]) ∧ Issued S p s L q.t 1 q.n q.b e k S' L' ∧ Sub S S' ∧ G1 w w' o' b la s p S' L' ∧ Kp0 w' o' y e.b ∧ Mv [1, 3] wa oa w' o') := fun wa oa hg hk => hg.issue (by have := HRows.out; omega) HOkq.out.2.1 (i64_small (by omega) (by omega)) HOkq.out.2.2.1 hk (by have := HShort.out; omega)
      have HKx : Hid (∀ (wa : World) (oa : Nat → Nat) (S : St) (L : Lg), G1 w wa oa b la s p S L → Kp0 wa oa (.slice ax q.b.length cx) q.b) := fun wa oa S L hg => hg.kp HOkq.out.2.2.2.2.2.2.1
      go_upto_region 11 with fail
      have d1 := fun z : WIn (fun w' => Below w.heap.size w w') => HD.out z.w z.ok 1 _ rfl
      have d2 := fun z : WIn (fun w' => Below w.heap.size w w') => HD.out z.w z.ok 2 _ rfl
      have d3 := fun z : WIn (fun w' => Below w.heap.size w w') => HD.out z.w z.ok 3 _ rfl
      have ne : Nonempty (WIn (fun w' => Below w.heap.size w w')) := ⟨⟨w, Below.refl _ _⟩⟩
      refine wp_region_tree (C := fun w' => ∃ z : WIn (fun w' => Below w.heap.size w w'), w' = z.w)
        (.still 0 (.still 1 (.still 2 (.still 3 (.still 4 (.still 5 (.still 6 (.still 7 (.still 8 (.still 9 (.still 10 (.still 11 (.still 12 (.still 13 (.still 14 (.still 15 (.still 16 (.still 17 (.two 18 (.still 19 (.still 20 (.still 21 (.one 22 (.one 23 (.still 24 .done)))))) 22 (.one 18 (.still 19 (.still 20 (.still 21 (.one 23 (.still 24 .done)))))))))))))))))))))))))
        (by kernel_rfl) (by kernel_rfl) ⟨⟨wr.drew, HG.out.bel.drew⟩, rfl⟩ ?_
      iterate 18 (refine tree_still rfl rfl ?_; go_big_quiet_step (fail); refine wpQuiet_nil ?_)
      refine tree_two rfl rfl rfl rfl ?wayA ?wayB
      case' wayA =>
        go_simp
        refine (HIs.out wr.drew o (g1_drew HG.out) (HKx.out _ _ _ _ (g1_drew HG.out))).mono ?_
        rintro r w4 ⟨e, k, S', L', ye, o4, rfl, h1, h2, h3, h4, h5⟩
        obtain ⟨ay, cy, hyy⟩ := h4.1.len
        subst hyy
        have HS0 : Hid (Step w wr o b la s p S L q.t q.n q.b (w4.alloc (.cells (ec e (.slice ay e.b.length cy)).toArray 47)) (newTo o4 w4 9) w4.heap.size e k S' L' (.slice ay e.b.length cy)) := step_A h1 h2 h3 h4 (mv_undrew h5)
        have HB4 : Hid (Below w.heap.size w w4) := h3.bel
        clear h1 h2 h3 h4 h5
        unfold ev
        refine ⟨⟨⟨w4, HB4.out⟩, rfl⟩, ?_⟩
        iterate 3 (refine tree_still rfl rfl ?_; go_big_quiet_step (fail); refine wpQuiet_nil ?_)
        refine tree_one rfl rfl ?_
        go_simp
        refine ⟨⟨⟨_, balloc HB4.out _⟩, rfl⟩, ?_⟩
        refine tree_one rfl rfl ?_
        go_simp
        refine ⟨⟨⟨_, balloc HB4.out _⟩, rfl⟩, ?_⟩
        generalize hw5 : w4.alloc (.cells #[.int .i64 e.w, .int .i64 e.i, .int .u64 e.p, .int .i64 e.t, .int .i64 e.u, .int .i64 e.n, .slice ay e.b.length cy, .int .u64 e.g] 47) = w5
        generalize hn5 : w4.heap.size = n5
        have HStep : Hid (∃ o5, Step w wr o b la s p S L q.t q.n q.b w5 o5 n5 e k S' L' (.slice ay e.b.length cy)) := ⟨_, (show Step w wr o b la s p S L q.t q.n q.b w5 _ n5 e k S' L' _ from by rw [← hw5, ← hn5]; exact HS0.out)⟩
        clear hw5 hn5 HS0 HB4
      case' wayB =>
        go_simp
        have HGa : Hid (G1 w (wr.alloc (.cells #[.int .i64 0, .int .i64 0, .int .u64 0, .int .i64 0, .int .i64 0, .int .i64 0, .slice none 0 0, .int .u64 0] 47)).drew (newTo o wr 9) b la s p S L) := g1_drew (HG.out.mvd (Mv.of_below (I := []) 9 (balloc (Below.refl _ _) _)) (by simp) (by simp) (by simp) (by simp))
        refine ⟨⟨⟨_, HGa.out.bel⟩, rfl⟩, ?_⟩
        refine tree_one rfl rfl ?_
        go_simp
        refine (HIs.out _ _ HGa.out (HKx.out _ _ _ _ HGa.out)).mono ?_
        rintro r w4 ⟨e, k, S', L', ye, o4, rfl, h1, h2, h3, h4, h5⟩
        obtain ⟨ay, cy, hyy⟩ := h4.1.len
        subst hyy
        have HS0 := step_B rfl h1 h2 h3 h4 (mv_undrew h5)
        have HB4 : Hid (Below w.heap.size w w4) := h3.bel
        have Z4 := step_zero rfl (mv_undrew h5)
        have z0 := Z4.cell 0 _ rfl; have z1 := Z4.cell 1 _ rfl; have z2 := Z4.cell 2 _ rfl; have z3 := Z4.cell 3 _ rfl; have z4 := Z4.cell 4 _ rfl; have z5 := Z4.cell 5 _ rfl; have z6 := Z4.cell 6 _ rfl; have z7 := Z4.cell 7 _ rfl; have f0 := Z4.frozen 0; have f1 := Z4.frozen 1; have f2 := Z4.frozen 2; have f3 := Z4.frozen 3; have f4 := Z4.frozen 4; have f5 := Z4.frozen 5; have f6 := Z4.frozen 6; have f7 := Z4.frozen 7
        clear h1 h2 h3 h4 h5 Z4
        unfold ev
        refine ⟨⟨⟨w4, HB4.out⟩, rfl⟩, ?_⟩
        iterate 3 (refine tree_still rfl rfl ?_; go_big_quiet_step (fail); refine wpQuiet_nil ?_)
        refine tree_one rfl rfl ?_
        go_simp
        have HB5 := HS0.g.bel
        refine ⟨⟨⟨_, HB5⟩, rfl⟩, ?_⟩
        clear HB5 z0 z1 z2 z3 z4 z5 z6 z7 f0 f1 f2 f3 f4 f5 f6 f7
        generalize ((((((((w4.setCell ⟨wr.heap.size, 0, none⟩ (.int .i64 e.w)).setCell ⟨wr.heap.size, 1, none⟩ (.int .i64 e.i)).setCell ⟨wr.heap.size, 2, none⟩ (.int .u64 e.p)).setCell ⟨wr.heap.size, 3, none⟩ (.int .i64 e.t)).setCell ⟨wr.heap.size, 4, none⟩ (.int .i64 e.u)).setCell ⟨wr.heap.size, 5, none⟩ (.int .i64 e.n)).setCell ⟨wr.heap.size, 6, none⟩ (.slice ay e.b.length cy)).setCell ⟨wr.heap.size, 7, none⟩ (.int .u64 e.g)) = w5 at *
        generalize hn5 : wr.heap.size = n5 at *
        have HStep : Hid (∃ o5, Step w wr o b la s p S L q.t q.n q.b w5 o5 n5 e k S' L' (.slice ay e.b.length cy)) := ⟨_, HS0⟩
        clear hn5 HS0 HB4 HGa
      all_goals
        refine tree_still rfl rfl ?_
        go_big_quiet_step (fail)
        refine wpQuiet_nil ?_
        refine tree_done ?_
        clear d1 d2 d3 ne
        obtain ⟨o5, hst⟩ := HStep.out
        have HT : Hid (Step w wr o b la s p S L q.t q.n q.b w5 o5 n5 e k S' L' (.slice ay e.b.length cy)) := hst
        clear hst HStep HIs HKx
        have hbx := HT.out.box
        unfold ec at hbx
        have HD5 : Hid (Duo w5 o5 b lb s p S' (begin' S L at'.toNat)) := HDu.out.mv HT.out.mv (by simp) (by simp) HT.out.sub
        have HRw5 : Hid (S'.rows.length ≤ 4 + 3 * i) := (show _ ≤ _ from by have h1 := HRows0.out; have h2 := HT.out.iss.len; omega)
        by_cases hk0 : k = 0
        · subst hk0
          have m0 := hbx.cell 0 _ rfl; have m1 := hbx.cell 1 _ rfl; have m2 := hbx.cell 2 _ rfl; have m3 := hbx.cell 3 _ rfl; have m4 := hbx.cell 4 _ rfl; have m5 := hbx.cell 5 _ rfl; have m6 := hbx.cell 6 _ rfl; have m7 := hbx.cell 7 _ rfl
          clear hbx
          have HIok : Hid (IssueOk S 1 p s L (candE 1 L q.t 1 q.n q.b) e S' L') := HT.out.iss.yes rfl
          have HLn : Hid (L.es.length = ps.length) := (show _ = _ from by have := congrArg List.length HAll.out.2; simp at this; omega)
          have HAl5 : Hid (AllAt w5 o5 (.slice va ps.length vc) ps) := HAll.out.1.mv HT.out.mv (by simp) (by simp)
          have HOne : Hid (∀ u ∈ flatE [(e, (.slice ay e.b.length cy : Value))], u.oneCell' = true) := flatE_one (fun q hq => by simp at hq; subst hq; rfl)
          have HRo5 : Hid ((w5.alloc (.cells #[.int .i64 e.w, .int .i64 e.i, .int .u64 e.p, .int .i64 e.t, .int .i64 e.u, .int .i64 e.n, .slice ay e.b.length cy, .int .u64 e.g] 47)).ownsRow 0 47 8 (.slice va ps.length vc) ps.length (flatE ps)) := HAl5.out.row.alloc _
          have HR1 : Hid (RowE (w5.alloc (.cells #[.int .i64 e.w, .int .i64 e.i, .int .u64 e.p, .int .i64 e.t, .int .i64 e.u, .int .i64 e.n, .slice ay e.b.length cy, .int .u64 e.g] 47)) (.slice (some ⟨w5.heap.size, 0, none⟩) 1 1) [(e, .slice ay e.b.length cy)]) := rowE_one w5 e _
          have HPs : Hid (ps.length ≤ 200) := (show _ ≤ _ from by have h1 := HG.out.whole.few; have h2 := congrArg List.length HAll.out.2; simp at h2; omega)
          by_cases hle : (ps.length : Int) + 1 ≤ at'
          · have HEq : Hid (acceptM S' 1 p (begin' S L at'.toNat) e = (0, S', begin' S' L' at'.toNat)) := (show _ = _ from begin_next HT.out.sub HG.out.whole HT.out.g.whole HIok.out.es (by have := HLn.out; omega))
            have HAc : Hid (∀ (wa : World) (oa : Nat → Nat), G1 w wa oa b la s p S' L' → Duo wa oa b lb s p S' (begin' S L at'.toNat) → Kp0 wa oa (.slice ay e.b.length cy) e.b → Calls Try.prog 25 #[ptr lb, .agg #[.int .i64 e.w, .int .i64 e.i, .int .u64 e.p, .int .i64 e.t, .int .i64 e.u, .int .i64 e.n, .slice ay e.b.length cy, .int .u64 e.g]] wa fun r w' => ∃ k S2 M2 o', r = .returned (.int .i64 k) ∧ acceptM S' 1 p (begin' S L at'.toNat) e = (k, S2, M2) ∧ S2.rows.length ≤ S'.rows.length + 1 ∧ Sub S' S2 ∧ G1 w w' o' b la s p S2 L' ∧ Duo w' o' b lb s p S2 M2 ∧ Mv [1, 4] wa oa w' o') := fun wa oa hg hd hk => Duo.accept hg hd (by have := HRw5.out; omega) HIok.out.ok hk (by have := HIok.out.right.2.2.2.2.2.2; omega)
            have hle' : (((ps ++ [(e, (.slice ay e.b.length cy : Value))]).length : Nat) : Int) ≤ at' := by simp; omega
            simp only [List.length_append, List.length_cons, List.length_nil, Nat.zero_add] at hle'
            go_wp2_with (first
              | (at_builtin; go_must (refine wpList_append_ents rfl (.tmp 83) (.tmp 85) rfl (.slice va ps.length vc) ps rfl HRo5.out _ [(e, .slice ay e.b.length cy)] rfl HR1.out HOne.out (by have := HPs.out; simp; omega) ?_; intro v2 w6 hrow hg hwh; have HApp : Hid (∃ o6, AllAt w6 o6 v2 (ps ++ [(e, .slice ay e.b.length cy)]) ∧ Mv [7] w5 o5 w6 o6) := HAl5.out.add HIok.out.ok HT.out.kp _ hrow hg hwh; obtain ⟨va2, vc2, hv2, hv2b, hv2c⟩ := slice_of_own hrow; subst hv2; clear hrow hg hwh; have B6 := HT.out.box.block (HApp.out.choose_spec.2.block n5 HT.out.box.lt (by rw [HT.out.boxo]; simp)); unfold ec at B6; have r0 := B6.cell 0 _ rfl; have r1 := B6.cell 1 _ rfl; have r2 := B6.cell 2 _ rfl; have r3 := B6.cell 3 _ rfl; have r4 := B6.cell 4 _ rfl; have r5 := B6.cell 5 _ rfl; have r6 := B6.cell 6 _ rfl; have r7 := B6.cell 7 _ rfl; clear B6))
              | (go_at_call 25; go_must (
                  have HX6 : Hid (∃ o6, AllAt w6 o6 (.slice va2 (ps ++ [(e, (.slice ay e.b.length cy : Value))]).length vc2) (ps ++ [(e, .slice ay e.b.length cy)]) ∧ Mv [7] w5 o5 w6 o6) := HApp
                  obtain ⟨o6, hal6, hm6⟩ := HX6.out
                  refine (HAc.out w6 o6 (HT.out.g.mvd hm6 (by simp) (by simp) (by simp) (by simp)) (HD5.out.mv hm6 (by simp) (by simp) (Sub.refl _)) (HT.out.kp.mv hm6 (by simp))).mono ?_
                  rintro r w7 ⟨k7, S7, M7, o7, rfl, heq, h1, h2, h3, h4, h5⟩
                  rw [HEq.out] at heq
                  cases heq
                  have HG7 : Hid (G1 w w7 o7 b la s p S' L') := h3
                  have HD7 : Hid (Duo w7 o7 b lb s p S' (begin' S' L' at'.toNat)) := h4
                  have HAl7 : Hid (AllAt w7 o7 (.slice va2 (ps ++ [(e, (.slice ay e.b.length cy : Value))]).length vc2) (ps ++ [(e, .slice ay e.b.length cy)])) := hal6.mv h5 (by simp) (by simp)
                  clear h1 h2 h3 h4 h5 hal6 hm6 HX6)))
            go_roundg (qs.length - (i + 1))
            case measure => omega
            case rel =>
              refine ⟨i + 1, S', L', o7, ps ++ [(e, .slice ay e.b.length cy)], by go_num, by omega, rfl, HG7, HD7, ⟨by simpa using HAl7.out, ?_⟩, ?_⟩
              · rw [List.map_append, HAll.out.2, HIok.out.es]
                rfl
              · show _ ≤ _
                have := HRw5.out
                omega
          · have hle' : ¬ (((ps ++ [(e, (.slice ay e.b.length cy : Value))]).length : Nat) : Int) ≤ at' := by simp; omega
            simp only [List.length_append, List.length_cons, List.length_nil, Nat.zero_add] at hle'
            have HBe : Hid (begin' S L at'.toNat = begin' S' L' at'.toNat) := (show _ = _ from begin_stay HT.out.sub HG.out.whole HIok.out.es (by have := HLn.out; omega))
            go_wp2_with (at_builtin; go_must (refine wpList_append_ents rfl (.tmp 83) (.tmp 85) rfl (.slice va ps.length vc) ps rfl HRo5.out _ [(e, .slice ay e.b.length cy)] rfl HR1.out HOne.out (by have := HPs.out; simp; omega) ?_; intro v2 w6 hrow hg hwh; have HApp : Hid (∃ o6, AllAt w6 o6 v2 (ps ++ [(e, .slice ay e.b.length cy)]) ∧ Mv [7] w5 o5 w6 o6) := HAl5.out.add HIok.out.ok HT.out.kp _ hrow hg hwh; obtain ⟨va2, vc2, hv2, hv2b, hv2c⟩ := slice_of_own hrow; subst hv2; clear hrow hg hwh; have B6 := HT.out.box.block (HApp.out.choose_spec.2.block n5 HT.out.box.lt (by rw [HT.out.boxo]; simp)); unfold ec at B6; have r0 := B6.cell 0 _ rfl; have r1 := B6.cell 1 _ rfl; have r2 := B6.cell 2 _ rfl; have r3 := B6.cell 3 _ rfl; have r4 := B6.cell 4 _ rfl; have r5 := B6.cell 5 _ rfl; have r6 := B6.cell 6 _ rfl; have r7 := B6.cell 7 _ rfl; clear B6))
            go_roundg (qs.length - (i + 1))
            case measure => omega
            case rel =>
              obtain ⟨o6, h1, h2⟩ := HApp.out
              refine ⟨i + 1, S', L', o6, ps ++ [(e, .slice ay e.b.length cy)], by go_num, by omega, rfl, HT.out.g.mvd h2 (by simp) (by simp) (by simp) (by simp), ?_, ⟨by simpa using h1, ?_⟩, ?_⟩
              · show Duo _ _ _ _ _ _ _ _
                rw [← HBe.out]
                exact HD5.out.mv h2 (by simp) (by simp) (Sub.refl _)
              · rw [List.map_append, HAll.out.2, HIok.out.es]
                rfl
              · show _ ≤ _
                have := HRw5.out
                omega
        · have hk2 : (k != 0) = true := by simpa using hk0
          obtain ⟨n1, n2, n3⟩ := HT.out.iss.no hk0
          subst n1 n2 n3
          have HAl5 : Hid (AllAt w5 o5 (.slice va ps.length vc) ps) := HAll.out.1.mv HT.out.mv (by simp) (by simp)
          clear hbx hk0
          go_wp2_with fail
          go_roundg (qs.length - (i + 1))
          case measure => omega
          case rel => exact ⟨i + 1, _, _, o5, ps, by go_num, by omega, rfl, HT.out.g, HD5, ⟨HAl5.out, HAll.out.2⟩, (show _ ≤ _ from by have q2 := HRows0.out; omega)⟩
    · obtain rfl : i = qs.length := by omega
      have HRw : Hid (S.rows.length ≤ 200) := (show _ ≤ _ from by have := HRows0.out; omega)
      have HLn : Hid (L.es.length = ps.length) := (show _ = _ from by have := congrArg List.length HAll.out.2; simp at this; omega)
      have HPs : Hid (ps.length ≤ 200) := (show _ ≤ _ from by have h1 := HG.out.whole.few; have h2 := HLn.out; omega)
      clear hi8 HRows0
      by_cases hin : 0 ≤ at' ∧ at' < ps.length
      · obtain ⟨h0, h1⟩ := hin
        obtain ⟨n, rfl⟩ : ∃ n : Nat, at' = n := ⟨at'.toNat, by omega⟩
        rw [Int.toNat_natCast] at HDu
        have h0' : ¬ (n : Int) < 0 := by omega
        have h1' : ¬ (ps.length : Int) ≤ n := by omega
        obtain ⟨⟨f, yf⟩, hq⟩ : ∃ q, ps[n]? = some q := ⟨_, List.getElem?_eq_getElem (by omega)⟩
        have HF : Hid (L.es[n]? = some f) := (show _ = _ from by rw [← HAll.out.2, List.getElem?_map, hq]; rfl)
        have HYf : Hid (∀ (wa : World) (oa : Nat → Nat), AllAt wa oa (.slice va ps.length vc) ps → Kp0 wa oa yf f.b) := fun wa oa h => (h.ents _ (List.mem_of_getElem? hq)).2
        obtain ⟨af, cf, hyy⟩ := (HYf.out wr o HAll.out.1).1.len
        subst hyy
        obtain ⟨g, off, ea, _⟩ := (rowE_own HAll.out.1.row).at hq
        subst ea
        have HDc : Hid (∀ (wa : World) (oa : Nat → Nat), AllAt wa oa (.slice (some ⟨g, off, none⟩) ps.length vc) ps → ∀ k u, [.int .i64 f.w, .int .i64 f.i, .int .u64 f.p, .int .i64 f.t, .int .i64 f.u, .int .i64 f.n, .slice af f.b.length cf, .int .u64 f.g][k]? = some u → wa.cell? ⟨g, off + n * 8 + k, none⟩ = some u) := fun wa oa h k u hu => by
          obtain ⟨g2, off2, e2, hc2⟩ := (rowE_own h.row).at hq
          cases e2
          exact hc2 k u hu
        have HOkf : Hid (EOk f ∧ f.b.length ≤ 1100) := (show EOk f ∧ f.b.length ≤ 1100 from ⟨(HG.out.whole.each n f HF.out).2.1, ((check_zero _ _ _ _ _).1 (HG.out.whole.each n f HF.out).1).1.2.2.2.2.2.2⟩)
        clear hq
        have HIs : Hid (∀ (wa : World) (oa : Nat → Nat), G1 w wa oa b la s p S L → Duo wa oa b lb s p S (begin' S L n) → Calls Try.prog 19 #[ptr lb, .int .u64 s, .agg #[.int .i64 f.t, .int .i64 f.u], .int .i64 f.n, .slice ao ol.length co] wa fun r w' => ∃ e k S2 M2 y o', r = .returned (.tuple #[ev e y, .int .i64 k]) ∧ Issued S p s (begin' S L n) f.t f.u f.n ol e k S2 M2 ∧ Sub S S2 ∧ G1 w w' o' b la s p S2 L ∧ Duo w' o' b lb s p S2 M2 ∧ Kp0 w' o' y e.b ∧ Mv [1, 4] wa oa w' o') := fun wa oa hg hd => Duo.issue hg hd (by have := HRw.out; omega) HOkf.out.1.2.2.2.1 HOkf.out.1.2.2.2.2.1 HOkf.out.1.2.2.2.2.2.1 (hg.kp HOv.out) (by omega)
        go_upto_region 18 with fail
        have d3 := fun z : WIn (fun w' => ∀ k u, [.int .i64 f.w, .int .i64 f.i, .int .u64 f.p, .int .i64 f.t, .int .i64 f.u, .int .i64 f.n, .slice af f.b.length cf, .int .u64 f.g][k]? = some u → w'.cell? ⟨g, off + n * 8 + k, none⟩ = some u) => z.ok 3 _ rfl
        have d4 := fun z : WIn (fun w' => ∀ k u, [.int .i64 f.w, .int .i64 f.i, .int .u64 f.p, .int .i64 f.t, .int .i64 f.u, .int .i64 f.n, .slice af f.b.length cf, .int .u64 f.g][k]? = some u → w'.cell? ⟨g, off + n * 8 + k, none⟩ = some u) => z.ok 4 _ rfl
        have d5 := fun z : WIn (fun w' => ∀ k u, [.int .i64 f.w, .int .i64 f.i, .int .u64 f.p, .int .i64 f.t, .int .i64 f.u, .int .i64 f.n, .slice af f.b.length cf, .int .u64 f.g][k]? = some u → w'.cell? ⟨g, off + n * 8 + k, none⟩ = some u) => z.ok 5 _ rfl
        have ne : Nonempty (WIn (fun w' => ∀ k u, [.int .i64 f.w, .int .i64 f.i, .int .u64 f.p, .int .i64 f.t, .int .i64 f.u, .int .i64 f.n, .slice af f.b.length cf, .int .u64 f.g][k]? = some u → w'.cell? ⟨g, off + n * 8 + k, none⟩ = some u)) := ⟨⟨wr, HDc.out wr o HAll.out.1⟩⟩
        refine wp_region_tree (C := fun w' => ∃ z : WIn (fun w' => ∀ k u, [.int .i64 f.w, .int .i64 f.i, .int .u64 f.p, .int .i64 f.t, .int .i64 f.u, .int .i64 f.n, .slice af f.b.length cf, .int .u64 f.g][k]? = some u → w'.cell? ⟨g, off + n * 8 + k, none⟩ = some u), w' = z.w)
          (.still 0 (.still 1 (.still 2 (.still 3 (.still 4 (.still 5 (.still 6 (.still 7 (.still 8 (.still 9 (.still 10 (.still 11 (.still 12 (.two 13 (.still 14 (.still 15 (.still 16 (.one 17 (.one 18 (.still 19 .done)))))) 17 (.one 13 (.still 14 (.still 15 (.still 16 (.one 18 (.still 19 .done))))))))))))))))))))
          (by kernel_rfl) (by kernel_rfl) ⟨⟨wr.drew, HDc.out wr o HAll.out.1⟩, rfl⟩ ?_
        iterate 13 (refine tree_still rfl rfl ?_; go_big_quiet_step (fail); refine wpQuiet_nil ?_)
        refine tree_two rfl rfl rfl rfl ?wayC ?wayD
        case' wayC =>
          go_simp
          refine (HIs.out wr.drew o (g1_drew HG.out) (HDu.out.mv (mv_drewn (I := []) wr o) (by simp) (by simp) (Sub.refl _))).mono ?_
          rintro r w4 ⟨e5, k, S', M', ye, o4, rfl, h1, h2, h3, h3', h4, h5⟩
          obtain ⟨a5, c5, hyy⟩ := h4.1.len
          subst hyy
          have HS0 : Hid (Step2 w wr o b la s p S L (begin' S L n) f.t f.u f.n ol (w4.alloc (.cells (ec e5 (.slice a5 e5.b.length c5)).toArray 47)) (newTo o4 w4 9) w4.heap.size e5 k S' M' (.slice a5 e5.b.length c5)) := step2_A h1 h2 h3 h4 (mv_undrew h5)
          have HAl4 : Hid (AllAt w4 o4 (.slice (some ⟨g, off, none⟩) ps.length vc) ps) := HAll.out.1.mv (mv_undrew h5) (by simp) (by simp)
          clear h1 h2 h3 h3' h4 h5
          unfold ev
          refine ⟨⟨⟨w4, HDc.out w4 o4 HAl4.out⟩, rfl⟩, ?_⟩
          iterate 3 (refine tree_still rfl rfl ?_; go_big_quiet_step (fail); refine wpQuiet_nil ?_)
          refine tree_one rfl rfl ?_
          go_simp
          refine ⟨⟨⟨_, HDc.out _ _ (HAl4.out.mv (Mv.of_below (I := []) 0 (balloc (Below.refl _ _) _)) (by simp) (by simp))⟩, rfl⟩, ?_⟩
          refine tree_one rfl rfl ?_
          go_simp
          refine ⟨⟨⟨_, HDc.out _ _ (HAl4.out.mv (Mv.of_below (I := []) 0 (balloc (Below.refl _ _) _)) (by simp) (by simp))⟩, rfl⟩, ?_⟩
          generalize hw5 : w4.alloc (.cells #[.int .i64 e5.w, .int .i64 e5.i, .int .u64 e5.p, .int .i64 e5.t, .int .i64 e5.u, .int .i64 e5.n, .slice a5 e5.b.length c5, .int .u64 e5.g] 47) = w5
          generalize hn5 : w4.heap.size = n5
          have HStep : Hid (∃ o5, Step2 w wr o b la s p S L (begin' S L n) f.t f.u f.n ol w5 o5 n5 e5 k S' M' (.slice a5 e5.b.length c5)) := ⟨_, (show Step2 w wr o b la s p S L (begin' S L n) f.t f.u f.n ol w5 _ n5 e5 k S' M' _ from by rw [← hw5, ← hn5]; exact HS0.out)⟩
          clear hw5 hn5 HS0 HAl4
        case' wayD =>
          go_simp
          have ma : Mv [] wr o (wr.alloc (.cells #[.int .i64 0, .int .i64 0, .int .u64 0, .int .i64 0, .int .i64 0, .int .i64 0, .slice none 0 0, .int .u64 0] 47)).drew (newTo o wr 9) := mv_drew (Mv.of_below (I := []) 9 (balloc (Below.refl _ _) _))
          have HGa : Hid (G1 w (wr.alloc (.cells #[.int .i64 0, .int .i64 0, .int .u64 0, .int .i64 0, .int .i64 0, .int .i64 0, .slice none 0 0, .int .u64 0] 47)).drew (newTo o wr 9) b la s p S L) := HG.out.mvd ma (by simp) (by simp) (by simp) (by simp)
          have HDa : Hid (Duo (wr.alloc (.cells #[.int .i64 0, .int .i64 0, .int .u64 0, .int .i64 0, .int .i64 0, .int .i64 0, .slice none 0 0, .int .u64 0] 47)).drew (newTo o wr 9) b lb s p S (begin' S L n)) := HDu.out.mv ma (by simp) (by simp) (Sub.refl _)
          have HAla : Hid (AllAt (wr.alloc (.cells #[.int .i64 0, .int .i64 0, .int .u64 0, .int .i64 0, .int .i64 0, .int .i64 0, .slice none 0 0, .int .u64 0] 47)).drew (newTo o wr 9) (.slice (some ⟨g, off, none⟩) ps.length vc) ps) := HAll.out.1.mv ma (by simp) (by simp)
          clear ma
          refine ⟨⟨⟨_, HDc.out _ _ HAla.out⟩, rfl⟩, ?_⟩
          refine tree_one rfl rfl ?_
          go_simp
          refine (HIs.out _ _ HGa.out HDa.out).mono ?_
          rintro r w4 ⟨e5, k, S', M', ye, o4, rfl, h1, h2, h3, h3', h4, h5⟩
          obtain ⟨a5, c5, hyy⟩ := h4.1.len
          subst hyy
          have HS0 := step2_B rfl h1 h2 h3 h4 (mv_undrew h5)
          have HAl4 : Hid (AllAt w4 o4 (.slice (some ⟨g, off, none⟩) ps.length vc) ps) := HAla.out.mv h5 (by simp) (by simp)
          have Z4 := HS0.1
          have z0 := Z4.cell 0 _ rfl; have z1 := Z4.cell 1 _ rfl; have z2 := Z4.cell 2 _ rfl; have z3 := Z4.cell 3 _ rfl; have z4 := Z4.cell 4 _ rfl; have z5 := Z4.cell 5 _ rfl; have z6 := Z4.cell 6 _ rfl; have z7 := Z4.cell 7 _ rfl; have f0 := Z4.frozen 0; have f1 := Z4.frozen 1; have f2 := Z4.frozen 2; have f3 := Z4.frozen 3; have f4 := Z4.frozen 4; have f5 := Z4.frozen 5; have f6 := Z4.frozen 6; have f7 := Z4.frozen 7
          clear h1 h2 h3 h3' h4 h5 Z4
          unfold ev
          refine ⟨⟨⟨w4, HDc.out w4 o4 HAl4.out⟩, rfl⟩, ?_⟩
          iterate 3 (refine tree_still rfl rfl ?_; go_big_quiet_step (fail); refine wpQuiet_nil ?_)
          refine tree_one rfl rfl ?_
          go_simp
          have HC5 := HDc.out _ _ (HAll.out.1.mv HS0.2.mv (by simp) (by simp))
          refine ⟨⟨⟨_, HC5⟩, rfl⟩, ?_⟩
          clear HC5 z0 z1 z2 z3 z4 z5 z6 z7 f0 f1 f2 f3 f4 f5 f6 f7
          generalize ((((((((w4.setCell ⟨wr.heap.size, 0, none⟩ (.int .i64 e5.w)).setCell ⟨wr.heap.size, 1, none⟩ (.int .i64 e5.i)).setCell ⟨wr.heap.size, 2, none⟩ (.int .u64 e5.p)).setCell ⟨wr.heap.size, 3, none⟩ (.int .i64 e5.t)).setCell ⟨wr.heap.size, 4, none⟩ (.int .i64 e5.u)).setCell ⟨wr.heap.size, 5, none⟩ (.int .i64 e5.n)).setCell ⟨wr.heap.size, 6, none⟩ (.slice a5 e5.b.length c5)).setCell ⟨wr.heap.size, 7, none⟩ (.int .u64 e5.g)) = w5 at *
          generalize hn5 : wr.heap.size = n5 at *
          have HStep : Hid (∃ o5, Step2 w wr o b la s p S L (begin' S L n) f.t f.u f.n ol w5 o5 n5 e5 k S' M' (.slice a5 e5.b.length c5)) := ⟨_, HS0.2⟩
          clear hn5 HS0 HAl4 HGa HDa HAla
        all_goals
          refine tree_still rfl rfl ?_
          go_big_quiet_step (fail)
          refine wpQuiet_nil ?_
          refine tree_done ?_
          clear d3 d4 d5 ne
          obtain ⟨o5, hst⟩ := HStep.out
          have HT : Hid (Step2 w wr o b la s p S L (begin' S L n) f.t f.u f.n ol w5 o5 n5 e5 k S' M' (.slice a5 e5.b.length c5)) := hst
          clear hst HStep HIs
          have HFk : Hid (k = 0 ∧ EOk e5 ∧ e5.b = ol ∧ e5.b.length ≤ 1100 ∧ e5.i = n ∧ (ol = f.b → checkM S' 1 p L e5 = 8) ∧ (ol ≠ f.b → checkM S' 1 p L e5 = 9)) := (show _ ∧ _ from fork_facts HG.out.key HG.out.whole HF.out (by omega) HT.out.iss HT.out.sub)
          obtain rfl : k = 0 := HFk.out.1
          have HAl5 : Hid (AllAt w5 o5 (.slice (some ⟨g, off, none⟩) ps.length vc) ps) := HAll.out.1.mv HT.out.mv (by simp) (by simp)
          have HG5 : Hid (G1 w w5 o5 b la s p S' L) := HT.out.g
          have HX5 : Hid (∀ w', Below w5.heap.size w5 w' → Blk w' n5 47 [.int .i64 e5.w, .int .i64 e5.i, .int .u64 e5.p, .int .i64 e5.t, .int .i64 e5.u, .int .i64 e5.n, .slice a5 e5.b.length c5, .int .u64 e5.g]) := fun w' h => HT.out.box.below h
          have HC5 : Hid (∀ w', Below w5.heap.size w5 w' → ∀ k u, [.int .i64 f.w, .int .i64 f.i, .int .u64 f.p, .int .i64 f.t, .int .i64 f.u, .int .i64 f.n, .slice af f.b.length cf, .int .u64 f.g][k]? = some u → w'.cell? ⟨g, off + n * 8 + k, none⟩ = some u) := fun w' h => HDc.out w' _ (HAl5.out.mv (Mv.of_below (I := []) 0 h) (by simp) (by simp))
          have HAs : Hid (∀ w', Below w5.heap.size w5 w' → Asks w' (newTo o5 w5 0) 3 la b S' 1 p L e5 (.slice a5 e5.b.length c5)) := fun w' h => (HG5.out.below h).asks HFk.out.2.1 (HT.out.kp.1.below h) (by have := HFk.out.2.2.2.1; omega)
          have HRf : Hid (∀ w', Below w5.heap.size w5 w' → Rd w' (.slice af f.b.length cf) f.b) := fun w' h => (HYf.out w5 o5 HAl5.out).1.below h
          have HRo : Hid (∀ w', Below w5.heap.size w5 w' → Rd w' (.slice ao ol.length co) ol) := fun w' h => HOv.out.below (bnext HG5.out.bel h)
          have HR5 : Hid (∀ w', Below w5.heap.size w5 w' → Rd w' (.slice a5 e5.b.length c5) e5.b) := fun w' h => HT.out.kp.1.below h
          have HBw : Hid (Below w.heap.size w w5) := HG5.out.bel
          have HL5 : Hid (∀ w', Below w5.heap.size w5 w' → LogIs w' (newTo o5 w5 0) 3 la b 1 p L) := fun w' h => (HG5.out.below h).log
          have HRp : Hid (checkM S' 1 p L f = 8) := (show _ = _ from check_replay HG5.out.whole HF.out)
          have HAsf : Hid (∀ w', Below w5.heap.size w5 w' → Asks w' (newTo o5 w5 0) 3 la b S' 1 p L f (.slice af f.b.length cf)) := fun w' h => (HG5.out.below h).asks HOkf.out.1 (HRf.out w' h) (by have := HOkf.out.2; omega)
          clear HAll HG HDu HT HAl5 HG5 HRw
          have Bx := HX5.out w5 (Below.refl _ _)
          have x0 := Bx.cell 0 _ rfl; have x1 := Bx.cell 1 _ rfl; have x2 := Bx.cell 2 _ rfl; have x3 := Bx.cell 3 _ rfl; have x4 := Bx.cell 4 _ rfl; have x5 := Bx.cell 5 _ rfl; have x6 := Bx.cell 6 _ rfl; have x7 := Bx.cell 7 _ rfl
          clear Bx
          by_cases hsame : ol = f.b
          · have hc8 := HFk.out.2.2.2.2.2.1 hsame
            have HOd : Hid (Calls Try.prog 30 #[ptr la, .agg #[.int .i64 e5.w, .int .i64 e5.i, .int .u64 e5.p, .int .i64 e5.t, .int .i64 e5.u, .int .i64 e5.n, .slice a5 e5.b.length c5, .int .u64 e5.g]] w5 fun r w' => r = .returned (.tuple #[.agg #[.int .i64 0, .int .i64 0, .int .u64 0, .int .i64 0, .int .i64 0, .int .i64 0, .slice none 0 0, .int .u64 0], .agg #[.int .i64 0, .int .i64 0, .int .u64 0, .int .i64 0, .int .i64 0, .int .i64 0, .slice none 0 0, .int .u64 0], .bool false]) ∧ Below w5.heap.size w5 w') := odds_no (ptr la) 8 e5 (.slice a5 e5.b.length c5) ⟨_, rfl⟩ (HR5.out w5 (Below.refl _ _)) (by omega) (fun w' hb => by
              have := check_any (HAs.out w' hb) (by omega)
              rw [hc8] at this
              exact this)
            have HCk : Hid (∀ w', Below w5.heap.size w5 w' → Calls Try.prog 23 #[ptr la, .agg #[.int .i64 e5.w, .int .i64 e5.i, .int .u64 e5.p, .int .i64 e5.t, .int .i64 e5.u, .int .i64 e5.n, .slice a5 e5.b.length c5, .int .u64 e5.g]] w' fun r w'' => r = .returned (.int .i64 8) ∧ Below w'.heap.size w' w'') := fun w' hb => by
              have := check_any (HAs.out w' hb) (by omega)
              rw [hc8] at this
              exact this
            have HSm : Hid (∀ w', Below w5.heap.size w5 w' → Calls Try.prog 34 #[.slice ao ol.length co, .slice af f.b.length cf] w' fun r w'' => r = .returned (.bool true) ∧ Below w'.heap.size w' w'') := fun w' hb => by
              have := same_any _ _ ol f.b w' (HRo.out w' hb) (HRf.out w' hb)
              rw [decide_eq_true hsame] at this
              exact this
            clear hc8 hsame HAs HAsf
            go_upto_region 22 with (go_at_call 30; go_must (refine (Calls.mono HOd.out ?_); rintro r w6 ⟨rfl, hb6⟩))
            have HB7 : Hid (Below w5.heap.size w5 ((w6.alloc (.cells #[.int .i64 0, .int .i64 0, .int .u64 0, .int .i64 0, .int .i64 0, .int .i64 0, .slice none 0 0, .int .u64 0] 47)).alloc (.cells #[.int .i64 0, .int .i64 0, .int .u64 0, .int .i64 0, .int .i64 0, .int .i64 0, .slice none 0 0, .int .u64 0] 47))) := balloc (balloc hb6 _) _
            generalize (w6.alloc (.cells #[.int .i64 0, .int .i64 0, .int .u64 0, .int .i64 0, .int .i64 0, .int .i64 0, .slice none 0 0, .int .u64 0] 47)).alloc (.cells #[.int .i64 0, .int .i64 0, .int .u64 0, .int .i64 0, .int .i64 0, .int .i64 0, .slice none 0 0, .int .u64 0] 47) = w7 at *
            clear hb6 x0 x1 x2 x3 x4 x5 x6 x7 HOd
            have e6 := HC5.out w7 HB7.out 6 _ rfl
            go_wp2_with (first
              | (go_at_call 34; go_must (refine (HSm.out w7 HB7.out).mono ?_; rintro r w8 ⟨rfl, hb8⟩; have HB8 : Hid (Below w5.heap.size w5 w8) := (show Below _ _ _ from bnext HB7.out hb8); clear hb8; have Bx := HX5.out w8 HB8.out; have x0 := Bx.cell 0 _ rfl; have x1 := Bx.cell 1 _ rfl; have x2 := Bx.cell 2 _ rfl; have x3 := Bx.cell 3 _ rfl; have x4 := Bx.cell 4 _ rfl; have x5 := Bx.cell 5 _ rfl; have x6 := Bx.cell 6 _ rfl; have x7 := Bx.cell 7 _ rfl; clear Bx))
              | (go_at_call 23; go_must (refine (HCk.out w8 HB8.out).mono ?_; rintro r w9 ⟨rfl, hb9⟩))
              | (go_at_call 10; go_must (refine (alive_any _).mono ?_; rintro r w10 ⟨rfl, hb10⟩)))
            go_ret
            exact ⟨rfl, bnext HBw.out (bnext (bnext HB8.out hb9) hb10)⟩
          · have hc9 := HFk.out.2.2.2.2.2.2 hsame
            have HOd : Hid (Calls Try.prog 30 #[ptr la, .agg #[.int .i64 e5.w, .int .i64 e5.i, .int .u64 e5.p, .int .i64 e5.t, .int .i64 e5.u, .int .i64 e5.n, .slice a5 e5.b.length c5, .int .u64 e5.g]] w5 fun r w' => ∃ y1 y2, r = .returned (.tuple #[ev f y1, ev e5 y2, .bool true]) ∧ Kp0 w' (newTo (newTo o5 w5 0) w5 0) y1 f.b ∧ Kp0 w' (newTo (newTo o5 w5 0) w5 0) y2 e5.b ∧ Below w5.heap.size w5 w') := odds_yes (HAs.out w5 (Below.refl _ _)) (by omega) hc9 (by rw [HFk.out.2.2.2.2.1, Int.toNat_natCast]; exact HF.out)
            have HCk : Hid (∀ w', Below w5.heap.size w5 w' → Calls Try.prog 23 #[ptr la, .agg #[.int .i64 e5.w, .int .i64 e5.i, .int .u64 e5.p, .int .i64 e5.t, .int .i64 e5.u, .int .i64 e5.n, .slice a5 e5.b.length c5, .int .u64 e5.g]] w' fun r w'' => r = .returned (.int .i64 9) ∧ Below w'.heap.size w' w'') := fun w' hb => by
              have := check_any (HAs.out w' hb) (by omega)
              rw [hc9] at this
              exact this
            have HAc : Hid (∀ w', Below w5.heap.size w5 w' → Calls Try.prog 25 #[ptr la, .agg #[.int .i64 e5.w, .int .i64 e5.i, .int .u64 e5.p, .int .i64 e5.t, .int .i64 e5.u, .int .i64 e5.n, .slice a5 e5.b.length c5, .int .u64 e5.g]] w' fun r w'' => r = .returned (.int .i64 9) ∧ Below w'.heap.size w' w'') := fun w' hb => by
              have := accept_refused (HAs.out w' hb) (by omega) (by rw [hc9]; omega)
              rw [hc9] at this
              exact this
            have HSm : Hid (∀ w', Below w5.heap.size w5 w' → Calls Try.prog 34 #[.slice ao ol.length co, .slice af f.b.length cf] w' fun r w'' => r = .returned (.bool false) ∧ Below w'.heap.size w' w'') := fun w' hb => by
              have := same_any _ _ ol f.b w' (HRo.out w' hb) (HRf.out w' hb)
              rw [decide_eq_false hsame] at this
              exact this
            have HOf : Hid (∀ w', Below w5.heap.size w5 w' → Calls Try.prog 30 #[ptr la, .agg #[.int .i64 f.w, .int .i64 f.i, .int .u64 f.p, .int .i64 f.t, .int .i64 f.u, .int .i64 f.n, .slice af f.b.length cf, .int .u64 f.g]] w' fun r w'' => r = .returned (.tuple #[.agg #[.int .i64 0, .int .i64 0, .int .u64 0, .int .i64 0, .int .i64 0, .int .i64 0, .slice none 0 0, .int .u64 0], .agg #[.int .i64 0, .int .i64 0, .int .u64 0, .int .i64 0, .int .i64 0, .int .i64 0, .slice none 0 0, .int .u64 0], .bool false]) ∧ Below w'.heap.size w' w'') := fun w' hb0 => odds_no (ptr la) 8 f (.slice af f.b.length cf) ⟨_, rfl⟩ (HRf.out w' hb0) (by omega) (fun w'' hb => by
              have := check_any (HAsf.out w'' (bnext hb0 hb)) (by omega)
              rw [HRp.out] at this
              exact this)
            have HLl : Hid (∀ w', Below w5.heap.size w5 w' → Calls Try.prog 32 #[ptr la] w' fun r w'' => r = .returned (.int .i64 (ps.length : Int)) ∧ w'' = w') := fun w' hb => by
              have := lenL_any (HL5.out w' hb)
              rw [HLn.out] at this
              exact this
            clear hc9 hsame HAs HAsf
            go_upto_region 22 with (go_at_call 30; go_must (refine (Calls.mono HOd.out ?_); rintro r w6 ⟨y1, y2, rfl, hk1, hk2, hb6⟩; obtain ⟨a1, c1, hyy⟩ := hk1.1.len; subst hyy; obtain ⟨a2, c2, hyy⟩ := hk2.1.len; subst hyy; have HK1 : Hid (Rd w6 (.slice a1 f.b.length c1) f.b) := hk1.1; have HK2 : Hid (Rd w6 (.slice a2 e5.b.length c2) e5.b) := hk2.1; have HB6 : Hid (Below w5.heap.size w5 w6) := hb6; clear hk1 hk2 hb6; unfold ev))
            have HB7 : Hid (Below w5.heap.size w5 ((w6.alloc (.cells #[.int .i64 f.w, .int .i64 f.i, .int .u64 f.p, .int .i64 f.t, .int .i64 f.u, .int .i64 f.n, .slice a1 f.b.length c1, .int .u64 f.g] 47)).alloc (.cells #[.int .i64 e5.w, .int .i64 e5.i, .int .u64 e5.p, .int .i64 e5.t, .int .i64 e5.u, .int .i64 e5.n, .slice a2 e5.b.length c2, .int .u64 e5.g] 47))) := balloc (balloc HB6.out _) _
            have HX1 : Hid (Blk ((w6.alloc (.cells #[.int .i64 f.w, .int .i64 f.i, .int .u64 f.p, .int .i64 f.t, .int .i64 f.u, .int .i64 f.n, .slice a1 f.b.length c1, .int .u64 f.g] 47)).alloc (.cells #[.int .i64 e5.w, .int .i64 e5.i, .int .u64 e5.p, .int .i64 e5.t, .int .i64 e5.u, .int .i64 e5.n, .slice a2 e5.b.length c2, .int .u64 e5.g] 47)) w6.heap.size 47 [.int .i64 f.w, .int .i64 f.i, .int .u64 f.p, .int .i64 f.t, .int .i64 f.u, .int .i64 f.n, .slice a1 f.b.length c1, .int .u64 f.g]) := (show Blk _ _ _ _ from (blk_new w6 [.int .i64 f.w, .int .i64 f.i, .int .u64 f.p, .int .i64 f.t, .int .i64 f.u, .int .i64 f.n, .slice a1 f.b.length c1, .int .u64 f.g] 47).alloc _)
            have HX2 : Hid (Blk ((w6.alloc (.cells #[.int .i64 f.w, .int .i64 f.i, .int .u64 f.p, .int .i64 f.t, .int .i64 f.u, .int .i64 f.n, .slice a1 f.b.length c1, .int .u64 f.g] 47)).alloc (.cells #[.int .i64 e5.w, .int .i64 e5.i, .int .u64 e5.p, .int .i64 e5.t, .int .i64 e5.u, .int .i64 e5.n, .slice a2 e5.b.length c2, .int .u64 e5.g] 47)) (w6.heap.size + 1) 47 [.int .i64 e5.w, .int .i64 e5.i, .int .u64 e5.p, .int .i64 e5.t, .int .i64 e5.u, .int .i64 e5.n, .slice a2 e5.b.length c2, .int .u64 e5.g]) := by
              show Blk _ _ _ _
              have := blk_new (w6.alloc (.cells #[.int .i64 f.w, .int .i64 f.i, .int .u64 f.p, .int .i64 f.t, .int .i64 f.u, .int .i64 f.n, .slice a1 f.b.length c1, .int .u64 f.g] 47)) [.int .i64 e5.w, .int .i64 e5.i, .int .u64 e5.p, .int .i64 e5.t, .int .i64 e5.u, .int .i64 e5.n, .slice a2 e5.b.length c2, .int .u64 e5.g] 47
              simpa using this
            have HK1' : Hid (Rd ((w6.alloc (.cells #[.int .i64 f.w, .int .i64 f.i, .int .u64 f.p, .int .i64 f.t, .int .i64 f.u, .int .i64 f.n, .slice a1 f.b.length c1, .int .u64 f.g] 47)).alloc (.cells #[.int .i64 e5.w, .int .i64 e5.i, .int .u64 e5.p, .int .i64 e5.t, .int .i64 e5.u, .int .i64 e5.n, .slice a2 e5.b.length c2, .int .u64 e5.g] 47)) (.slice a1 f.b.length c1) f.b) := (show Rd _ _ _ from HK1.out.below (balloc (balloc (Below.refl _ _) _) _))
            have HK2' : Hid (Rd ((w6.alloc (.cells #[.int .i64 f.w, .int .i64 f.i, .int .u64 f.p, .int .i64 f.t, .int .i64 f.u, .int .i64 f.n, .slice a1 f.b.length c1, .int .u64 f.g] 47)).alloc (.cells #[.int .i64 e5.w, .int .i64 e5.i, .int .u64 e5.p, .int .i64 e5.t, .int .i64 e5.u, .int .i64 e5.n, .slice a2 e5.b.length c2, .int .u64 e5.g] 47)) (.slice a2 e5.b.length c2) e5.b) := (show Rd _ _ _ from HK2.out.below (balloc (balloc (Below.refl _ _) _) _))
            generalize (w6.alloc (.cells #[.int .i64 f.w, .int .i64 f.i, .int .u64 f.p, .int .i64 f.t, .int .i64 f.u, .int .i64 f.n, .slice a1 f.b.length c1, .int .u64 f.g] 47)).alloc (.cells #[.int .i64 e5.w, .int .i64 e5.i, .int .u64 e5.p, .int .i64 e5.t, .int .i64 e5.u, .int .i64 e5.n, .slice a2 e5.b.length c2, .int .u64 e5.g] 47) = w7 at *
            generalize w6.heap.size = n6 at *
            clear HB6 HK1 HK2 x0 x1 x2 x3 x4 x5 x6 x7 HOd
            have e0 := HC5.out w7 HB7.out 6 _ rfl
            go_upto_region 25 with (first
              | (go_at_call 34; go_must (refine (HSm.out w7 HB7.out).mono ?_; rintro r w8 ⟨rfl, hb8⟩; have HB8 : Hid (Below w7.heap.size w7 w8) := hb8; clear hb8; have f0 := HC5.out w8 (bnext HB7.out HB8.out) 0 _ rfl; have f1 := HC5.out w8 (bnext HB7.out HB8.out) 1 _ rfl; have f2 := HC5.out w8 (bnext HB7.out HB8.out) 2 _ rfl; have f3 := HC5.out w8 (bnext HB7.out HB8.out) 3 _ rfl; have f4 := HC5.out w8 (bnext HB7.out HB8.out) 4 _ rfl; have f5 := HC5.out w8 (bnext HB7.out HB8.out) 5 _ rfl; have f6 := HC5.out w8 (bnext HB7.out HB8.out) 6 _ rfl; have f7 := HC5.out w8 (bnext HB7.out HB8.out) 7 _ rfl; simp only [Nat.add_zero] at f0))
              | (go_at_call 30; go_must (refine (HOf.out w8 (bnext HB7.out HB8.out)).mono ?_; rintro r w9 ⟨rfl, hb9⟩; have HB9 : Hid (Below w7.heap.size w7 w9) := (show Below _ _ _ from bnext HB8.out hb9); clear hb9)))
            have HBz : Hid (Below w7.heap.size w7 ((w9.alloc (.cells #[.int .i64 0, .int .i64 0, .int .u64 0, .int .i64 0, .int .i64 0, .int .i64 0, .slice none 0 0, .int .u64 0] 47)).alloc (.cells #[.int .i64 0, .int .i64 0, .int .u64 0, .int .i64 0, .int .i64 0, .int .i64 0, .slice none 0 0, .int .u64 0] 47))) := balloc (balloc HB9.out _) _
            generalize (w9.alloc (.cells #[.int .i64 0, .int .i64 0, .int .u64 0, .int .i64 0, .int .i64 0, .int .i64 0, .slice none 0 0, .int .u64 0] 47)).alloc (.cells #[.int .i64 0, .int .i64 0, .int .u64 0, .int .i64 0, .int .i64 0, .int .i64 0, .slice none 0 0, .int .u64 0] 47) = wz at *
            clear HB9 HB8 e0 f0 f1 f2 f3 f4 f5 f6 f7
            have HB5z : Hid (Below w5.heap.size w5 wz) := (show Below _ _ _ from bnext HB7.out HBz.out)
            have HS1 : Hid (∀ w', Below wz.heap.size wz w' → Calls Try.prog 21 #[.agg #[.int .i64 f.w, .int .i64 f.i, .int .u64 f.p, .int .i64 f.t, .int .i64 f.u, .int .i64 f.n, .slice a1 f.b.length c1, .int .u64 f.g], .agg #[.int .i64 f.w, .int .i64 f.i, .int .u64 f.p, .int .i64 f.t, .int .i64 f.u, .int .i64 f.n, .slice af f.b.length cf, .int .u64 f.g]] w' fun r w'' => r = .returned (.bool true) ∧ Below w'.heap.size w' w'') := fun w' hb => by
              have := refsameE_any w' f f (.slice a1 f.b.length c1) (.slice af f.b.length cf) (HK1'.out.below (bnext HBz.out hb)) (HRf.out w' (bnext HB5z.out hb))
              rw [(sameB_iff f f).2 rfl] at this
              exact this
            have HS2 : Hid (∀ w', Below wz.heap.size wz w' → Calls Try.prog 21 #[.agg #[.int .i64 e5.w, .int .i64 e5.i, .int .u64 e5.p, .int .i64 e5.t, .int .i64 e5.u, .int .i64 e5.n, .slice a2 e5.b.length c2, .int .u64 e5.g], .agg #[.int .i64 e5.w, .int .i64 e5.i, .int .u64 e5.p, .int .i64 e5.t, .int .i64 e5.u, .int .i64 e5.n, .slice a5 e5.b.length c5, .int .u64 e5.g]] w' fun r w'' => r = .returned (.bool true) ∧ Below w'.heap.size w' w'') := fun w' hb => by
              have := refsameE_any w' e5 e5 (.slice a2 e5.b.length c2) (.slice a5 e5.b.length c5) (HK2'.out.below (bnext HBz.out hb)) (HR5.out w' (bnext HB5z.out hb))
              rw [(sameB_iff e5 e5).2 rfl] at this
              exact this
            have k0 := fun z : WIn (fun w' => Below wz.heap.size wz w') => (HX5.out z.w (bnext HB5z.out z.ok)).cell 0 _ rfl
            have k1 := fun z : WIn (fun w' => Below wz.heap.size wz w') => (HX5.out z.w (bnext HB5z.out z.ok)).cell 1 _ rfl
            have k2 := fun z : WIn (fun w' => Below wz.heap.size wz w') => (HX5.out z.w (bnext HB5z.out z.ok)).cell 2 _ rfl
            have k3 := fun z : WIn (fun w' => Below wz.heap.size wz w') => (HX5.out z.w (bnext HB5z.out z.ok)).cell 3 _ rfl
            have k4 := fun z : WIn (fun w' => Below wz.heap.size wz w') => (HX5.out z.w (bnext HB5z.out z.ok)).cell 4 _ rfl
            have k5 := fun z : WIn (fun w' => Below wz.heap.size wz w') => (HX5.out z.w (bnext HB5z.out z.ok)).cell 5 _ rfl
            have k6 := fun z : WIn (fun w' => Below wz.heap.size wz w') => (HX5.out z.w (bnext HB5z.out z.ok)).cell 6 _ rfl
            have k7 := fun z : WIn (fun w' => Below wz.heap.size wz w') => (HX5.out z.w (bnext HB5z.out z.ok)).cell 7 _ rfl
            have m0 := fun z : WIn (fun w' => Below wz.heap.size wz w') => HC5.out z.w (bnext HB5z.out z.ok) 0 _ rfl
            have m1 := fun z : WIn (fun w' => Below wz.heap.size wz w') => HC5.out z.w (bnext HB5z.out z.ok) 1 _ rfl
            have m2 := fun z : WIn (fun w' => Below wz.heap.size wz w') => HC5.out z.w (bnext HB5z.out z.ok) 2 _ rfl
            have m3 := fun z : WIn (fun w' => Below wz.heap.size wz w') => HC5.out z.w (bnext HB5z.out z.ok) 3 _ rfl
            have m4 := fun z : WIn (fun w' => Below wz.heap.size wz w') => HC5.out z.w (bnext HB5z.out z.ok) 4 _ rfl
            have m5 := fun z : WIn (fun w' => Below wz.heap.size wz w') => HC5.out z.w (bnext HB5z.out z.ok) 5 _ rfl
            have m6 := fun z : WIn (fun w' => Below wz.heap.size wz w') => HC5.out z.w (bnext HB5z.out z.ok) 6 _ rfl
            have m7 := fun z : WIn (fun w' => Below wz.heap.size wz w') => HC5.out z.w (bnext HB5z.out z.ok) 7 _ rfl
            have p0 := fun z : WIn (fun w' => Below wz.heap.size wz w') => (HX1.out.below (bnext HBz.out z.ok)).cell 0 _ rfl
            have p1 := fun z : WIn (fun w' => Below wz.heap.size wz w') => (HX1.out.below (bnext HBz.out z.ok)).cell 1 _ rfl
            have p2 := fun z : WIn (fun w' => Below wz.heap.size wz w') => (HX1.out.below (bnext HBz.out z.ok)).cell 2 _ rfl
            have p3 := fun z : WIn (fun w' => Below wz.heap.size wz w') => (HX1.out.below (bnext HBz.out z.ok)).cell 3 _ rfl
            have p4 := fun z : WIn (fun w' => Below wz.heap.size wz w') => (HX1.out.below (bnext HBz.out z.ok)).cell 4 _ rfl
            have p5 := fun z : WIn (fun w' => Below wz.heap.size wz w') => (HX1.out.below (bnext HBz.out z.ok)).cell 5 _ rfl
            have p6 := fun z : WIn (fun w' => Below wz.heap.size wz w') => (HX1.out.below (bnext HBz.out z.ok)).cell 6 _ rfl
            have p7 := fun z : WIn (fun w' => Below wz.heap.size wz w') => (HX1.out.below (bnext HBz.out z.ok)).cell 7 _ rfl
            have q0 := fun z : WIn (fun w' => Below wz.heap.size wz w') => (HX2.out.below (bnext HBz.out z.ok)).cell 0 _ rfl
            have q1 := fun z : WIn (fun w' => Below wz.heap.size wz w') => (HX2.out.below (bnext HBz.out z.ok)).cell 1 _ rfl
            have q2 := fun z : WIn (fun w' => Below wz.heap.size wz w') => (HX2.out.below (bnext HBz.out z.ok)).cell 2 _ rfl
            have q3 := fun z : WIn (fun w' => Below wz.heap.size wz w') => (HX2.out.below (bnext HBz.out z.ok)).cell 3 _ rfl
            have q4 := fun z : WIn (fun w' => Below wz.heap.size wz w') => (HX2.out.below (bnext HBz.out z.ok)).cell 4 _ rfl
            have q5 := fun z : WIn (fun w' => Below wz.heap.size wz w') => (HX2.out.below (bnext HBz.out z.ok)).cell 5 _ rfl
            have q6 := fun z : WIn (fun w' => Below wz.heap.size wz w') => (HX2.out.below (bnext HBz.out z.ok)).cell 6 _ rfl
            have q7 := fun z : WIn (fun w' => Below wz.heap.size wz w') => (HX2.out.below (bnext HBz.out z.ok)).cell 7 _ rfl
            simp only [Nat.add_zero] at m0
            have ne : Nonempty (WIn (fun w' => Below wz.heap.size wz w')) := ⟨⟨wz, Below.refl _ _⟩⟩
            refine wp_region_ord (C := fun w' => ∃ z : WIn (fun w' => Below wz.heap.size wz w'), w' = z.w) [(false, 0), (false, 1), (false, 2), (false, 3), (true, 4), (false, 5), (false, 6), (false, 7), (false, 8), (false, 9), (true, 10), (false, 11), (false, 12), (false, 13), (false, 14), (false, 15), (false, 16), (false, 17), (false, 18), (true, 19), (false, 20), (false, 21), (false, 22), (false, 23), (true, 24), (false, 25), (false, 26), (false, 27), (false, 29), (false, 30), (true, 28), (false, 31), (false, 32), (false, 33), (false, 34), (false, 35), (false, 36), (false, 37), (true, 38), (false, 39), (false, 40)] (by kernel_rfl) (by kernel_rfl) ⟨⟨wz.drew, (Below.refl _ _).drew⟩, rfl⟩ ?_
            iterate 4 (refine ord_still rfl rfl ?_; go_big_quiet_step (fail); refine wpQuiet_nil ?_)
            refine ord_mem rfl rfl ?_
            go_simp
            refine (HCk.out wz.drew HB5z.out.drew).mono ?_
            rintro r v1 ⟨rfl, hv1⟩
            have HV1 : Hid (Below wz.heap.size wz v1) := below_undrew hv1
            clear hv1
            refine ⟨⟨⟨v1, HV1.out⟩, rfl⟩, ?_⟩
            iterate 5 (refine ord_still rfl rfl ?_; go_big_quiet_step (fail); refine wpQuiet_nil ?_)
            refine ord_mem rfl rfl ?_
            go_simp
            refine (HAc.out v1 (bnext HB5z.out HV1.out)).mono ?_
            rintro r v2 ⟨rfl, hv2⟩
            have HV2 : Hid (Below wz.heap.size wz v2) := (show Below _ _ _ from bnext HV1.out hv2)
            clear hv2
            refine ⟨⟨⟨v2, HV2.out⟩, rfl⟩, ?_⟩
            iterate 8 (refine ord_still rfl rfl ?_; go_big_quiet_step (fail); refine wpQuiet_nil ?_)
            refine ord_mem rfl rfl ?_
            go_simp
            refine (HS1.out v2 HV2.out).mono ?_
            rintro r v3 ⟨rfl, hv3⟩
            have HV3 : Hid (Below wz.heap.size wz v3) := (show Below _ _ _ from bnext HV2.out hv3)
            clear hv3
            refine ⟨⟨⟨v3, HV3.out⟩, rfl⟩, ?_⟩
            iterate 4 (refine ord_still rfl rfl ?_; go_big_quiet_step (fail); refine wpQuiet_nil ?_)
            refine ord_mem rfl rfl ?_
            go_simp
            refine (HS2.out v3 HV3.out).mono ?_
            rintro r v4 ⟨rfl, hv4⟩
            have HV4 : Hid (Below wz.heap.size wz v4) := (show Below _ _ _ from bnext HV3.out hv4)
            clear hv4
            refine ⟨⟨⟨v4, HV4.out⟩, rfl⟩, ?_⟩
            iterate 5 (refine ord_still rfl rfl ?_; go_big_quiet_step (fail); refine wpQuiet_nil ?_)
            refine ord_mem rfl rfl ?_
            go_simp
            refine (HLl.out v4 (bnext HB5z.out HV4.out)).mono ?_
            rintro r v5 ⟨rfl, hv5⟩
            replace hv5 := hv5.symm
            subst hv5
            refine ⟨⟨⟨v4, HV4.out⟩, rfl⟩, ?_⟩
            iterate 7 (refine ord_still rfl rfl ?_; go_big_quiet_step (fail); refine wpQuiet_nil ?_)
            refine ord_mem rfl rfl ?_
            go_simp
            refine (alive_any v4).mono ?_
            rintro r v6 ⟨rfl, hv6⟩
            have HV6 : Hid (Below wz.heap.size wz v6) := (show Below _ _ _ from bnext HV4.out hv6)
            clear hv6
            refine ⟨⟨⟨v6, HV6.out⟩, rfl⟩, ?_⟩
            iterate 2 (refine ord_still rfl rfl ?_; go_big_quiet_step (fail); refine wpQuiet_nil ?_)
            refine ord_end ?_
            clear k0 k1 k2 k3 k4 k5 k6 k7 m0 m1 m2 m3 m4 m5 m6 m7 p0 p1 p2 p3 p4 p5 p6 p7 q0 q1 q2 q3 q4 q5 q6 q7 ne
            go_wp2
            go_ret
            exact ⟨rfl, bnext HBw.out (bnext HB5z.out HV6.out)⟩
      · have HBw : Hid (Below w.heap.size w wr) := HG.out.bel
        clear HAll HG HDu HLn HRw
        by_cases h0 : at' < 0
        · clear hin
          go_wp2_with (go_at_call 10; go_must (refine (alive_any _).mono ?_; rintro r w8 ⟨rfl, hb8⟩))
          go_ret
          exact ⟨rfl, bnext HBw.out hb8⟩
        · have h1 : (ps.length : Int) ≤ at' := by omega
          clear hin
          go_wp2_with (go_at_call 10; go_must (refine (alive_any _).mono ?_; rintro r w8 ⟨rfl, hb8⟩))
          go_ret
          exact ⟨rfl, bnext HBw.out hb8⟩
end Go.Proofs.Yteedjdflojfhmaa
