/-
  The walk of ChainAts: each entry of a log by its place, and what a nil log says.
-/
import Derived.Test.YteedjdflojfhmaaGame
import Derived.Deep.LoopGhost
namespace Go.Proofs.Yteedjdflojfhmaa
set_option linter.unusedVariables false
set_option linter.unusedSimpArgs false
set_option synthInstance.maxSize 20000
set_option maxHeartbeats 2000000
set_option maxRecDepth 20000
open Go.RowKit Go.Maps

theorem ats_dark (v : Value) (qs : List (Opr × Value × Value)) (at' : Int) (w : World) (hv : RowO w v qs) (hl : lightB 0 qs = false) : Calls Try.prog 5 #[v, .int .i64 at'] w fun r w' => r = .returned (.bool true) ∧ Below w.heap.size w w' := by
  have LI := fun w' (hb : Below w.heap.size w w') => light_any hb none 0 0 (by omega) hv
  rw [hl] at LI
  obtain ⟨a, cap, rfl⟩ := hv.len
  have HLI : Hid (∀ w', Below w.heap.size w w' → Calls Try.prog 9 #[.slice none 0 0, .slice a qs.length cap] w' fun r w'' => r = .returned (.bool false) ∧ w'' = w') := LI
  clear LI hv
  go_enter Try.func5, Try.ntmps5
  go_wp2_with (first
    | (go_at_call 9; go_must (refine (HLI.out _ (Below.refl _ _)).mono ?_; rintro r w1 ⟨rfl, hw1⟩; replace hw1 := hw1.symm; subst hw1))
    | (go_at_call 10; go_must (refine (alive_any _).mono ?_; rintro r w2 ⟨rfl, hb2⟩)))
  go_ret
  exact ⟨rfl, hb2⟩

theorem ats_walk (v : Value) (qs : List (Opr × Value × Value)) (at' : Int) (w : World) (hv : RowO w v qs) (hat : I64 at') : Calls Try.prog 5 #[v, .int .i64 at'] w fun r w' => r = .returned (.bool true) ∧ Below w.heap.size w w' := by
  by_cases hdark : lightB 0 qs = false
  · exact ats_dark v qs at' w hv hdark
  have hl : lightB 0 qs = true := by simpa using hdark
  clear hdark
  have LI := fun w' (hb : Below w.heap.size w w') => light_any hb none 0 0 (by omega) hv
  rw [hl] at LI
  obtain ⟨_, hq40, hshort⟩ := lightB_iff hl
  have HSh : Hid (∀ q ∈ qs, q.1.b.length ≤ 1200 ∧ q.1.e.b.length ≤ 1200) := hshort
  clear hl hshort
  have hcap := (show RowO w v qs from hv)
  obtain ⟨a, cap, rfl⟩ := hv.len
  have hcap := hv.cap
  have HV : Hid (RowO w (.slice a qs.length cap) qs) := hv
  have HLI : Hid (∀ w', Below w.heap.size w w' → Calls Try.prog 9 #[.slice none 0 0, .slice a qs.length cap] w' fun r w'' => r = .returned (.bool true) ∧ w'' = w') := LI
  clear LI hv
  have hPR := fun w' b fo (h : Rep w' b fo ⟨[], []⟩) => pair_any w' b fo ⟨[], []⟩ h (by simp)
  have HN : Hid (∀ (w1 w2 w3 : World) (b : Nat), ∀ ft, Rep w1 b ft ⟨[], []⟩ → (∀ k ∈ ft, w.heap.size ≤ k) → Below w.heap.size w w1 → Left w1 b ft (⟨[], []⟩ : St).pair w2 → (∀ o, LogIs w3 (newTo o w2 3) 3 w2.heap.size b 1 ((⟨[], []⟩ : St).put .secret).fresh ⟨[], 0⟩) → Below w2.heap.size w2 w3 → ∃ o, G1 w w3 o b w2.heap.size (⟨[], []⟩ : St).fresh ((⟨[], []⟩ : St).put .secret).fresh (⟨[], []⟩ : St).pair ⟨[], 0⟩) :=
    fun w1 w2 w3 b ft h1 h2 h3 h4 h5 h6 => g1_new (fun d hd => by cases hd) h1 h2 h3 h4 h5 h6
  have hlen2 : (⟨[], []⟩ : St).pair.rows.length = 2 := by rw [pair_len]; rfl
  have hS1 : ((⟨[], []⟩ : St).put .secret).put (.pub (⟨[], []⟩ : St).fresh) = (⟨[], []⟩ : St).pair := rfl
  have hup : U64 ((⟨[], []⟩ : St).put .secret).fresh := (at_ok (pair_good (good0 (ds := []) (fun d hd => by cases hd)) (by simp)) (pair_at (good0 (ds := []) (fun d hd => by cases hd)) (by simp)).2).1
  rw [hS1] at hPR
  clear hS1
  generalize (⟨[], []⟩ : St).pair = S1 at *
  generalize (⟨[], []⟩ : St).fresh = s at *
  generalize ((⟨[], []⟩ : St).put .secret).fresh = p at *
  have HPR : Hid (∀ w' b fo, Rep w' b fo ⟨[], []⟩ → Calls Try.prog 12 #[ptr b] w' fun r w'' => r = .returned (.tuple #[.int .u64 s, .int .u64 p]) ∧ Left w' b fo S1 w'') := hPR
  have HLen : Hid (S1.rows.length = 2) := hlen2
  have HUp : Hid (U64 p) := hup
  have HNL : Hid (∀ w' b, Calls Try.prog 14 #[ptr b, .int .i64 1, .int .u64 p] w' fun r w'' => r = .returned (.tuple #[ptr w'.heap.size, .int .i64 0]) ∧ (∀ o j, LogIs w'' (newTo o w' j) j w'.heap.size b 1 p ⟨[], 0⟩) ∧ Below w'.heap.size w' w'') := fun w' b => by
    refine (newL_world w' b 1 p (by omega) (by omega)).mono ?_
    rintro r w'' ⟨rfl, rfl⟩
    exact ⟨rfl, fun o j => log_new j b 1 p (i64_small (by omega) (by omega)) HUp.out, balloc (Below.refl _ _) _⟩
  clear hPR hlen2 hup
  obtain ⟨jk, hjk⟩ : ∃ jk : Int, jk = if 0 ≤ at' ∧ at' < 8 then 0 else 1 := ⟨_, rfl⟩
  have HJ : Hid (jk = if 0 ≤ at' ∧ at' < 8 then 0 else 1) := hjk
  have HNA : Hid (∀ w' b, Calls Try.prog 14 #[ptr b, .int .i64 at', .int .u64 p] w' fun r w'' => ∃ pv, r = .returned (.tuple #[.pointer pv, .int .i64 jk]) ∧ Below w'.heap.size w' w'') := fun w' b => by
    by_cases hr : 0 ≤ at' ∧ at' < 8
    · rw [hjk, if_pos hr]
      refine (newL_world w' b at' p hr.1 hr.2).mono ?_
      rintro r w'' ⟨rfl, rfl⟩
      exact ⟨_, rfl, balloc (Below.refl _ _) _⟩
    · rw [hjk, if_neg hr]
      refine (newL_bad w' (ptr b) at' p (by omega)).mono ?_
      rintro r w'' ⟨rfl, rfl⟩
      exact ⟨_, rfl, Below.refl _ _⟩
  clear hjk
  go_enter Try.func5, Try.ntmps5
  go_upto_region 6 with (first
    | (go_at_call 9; go_must (refine (HLI.out _ (Below.refl _ _)).mono ?_; rintro r w0 ⟨rfl, hw0⟩; replace hw0 := hw0.symm; subst hw0))
    | (go_at_call 11; go_must (refine (new_any _ [] w (rdU_nil w) (by simp)).mono ?_; rintro r w1 ⟨b, rfl, ⟨ft, hr1, hn1⟩, hb1⟩))
    | (go_at_call 12; go_must (refine (HPR.out w1 b ft hr1).mono ?_; rintro r w2 ⟨rfl, hl2⟩))
    | (go_at_call 14; go_must (refine (HNL.out w2 b).mono ?_; rintro r w3 ⟨rfl, hl3, hb3⟩)))
  obtain ⟨o3, hG3⟩ := HN.out w1 w2 w3 b ft hr1 hn1 hb1 hl2 (fun o => hl3 o 3) hb3
  have HG3 : Hid (G1 w w3 o3 b w2.heap.size s p S1 ⟨[], 0⟩) := hG3
  clear hG3 hr1 hn1 hb1 hl2 hl3 hb3 HN HPR HNL HLI
  obtain ⟨la, hla⟩ : ∃ la, la = w2.heap.size := ⟨_, rfl⟩
  rw [← hla] at HG3 ⊢
  clear hla
  go_upto_region 8 with (first
    | (go_at_call 14; first
        | (refine (HNA.out w3 b).mono ?_; rintro r w4 ⟨pv, rfl, hb4⟩; have HB4 : Hid (Below w3.heap.size w3 w4) := hb4; clear hb4 HNA)
        | (refine (newL_nil w4 p).mono ?_; rintro r w5 ⟨rfl, hw5⟩; replace hw5 := hw5.symm; subst hw5)))
  have HG4 : Hid (G1 w w4 (newTo o3 w3 0) b la s p S1 ⟨[], 0⟩) := HG3.out.below HB4.out
  clear HG3 HB4
  obtain ⟨o4, ho4⟩ : ∃ o4, o4 = newTo o3 w3 0 := ⟨_, rfl⟩
  rw [← ho4] at HG4
  clear ho4
  go_cut [72] (fun pv wx => pv = .bool false ∧ wx = w4)
  case first =>
    by_cases h0 : 0 ≤ at'
    · by_cases h8 : at' < 8
      · obtain rfl : jk = 0 := by rw [HJ.out, if_pos ⟨h0, h8⟩]
        go_wp2_with fail
        go_meet
        exact ⟨rfl, rfl⟩
      · obtain rfl : jk = 1 := by rw [HJ.out, if_neg (by omega)]
        go_wp2_with fail
        go_meet
        exact ⟨rfl, rfl⟩
    · obtain rfl : jk = 1 := by rw [HJ.out, if_neg (by omega)]
      go_wp2_with fail
      go_meet
      exact ⟨rfl, rfl⟩
  case rest =>
    obtain ⟨rfl, rfl⟩ := hcut
    clear HJ
    go_wp2_with fail
    have HLen0 : Hid (S1.rows.length ≤ 2) := (show _ ≤ _ from by rw [HLen.out]; omega)
    clear HLen
    go_loopg [15, 14] qs.length (fun kx s15 s14 wr => ∃ (i : Nat) (S : St) (L : Lg) (o : Nat → Nat) (ps : List (Ent × Value)), s15 = .int .i64 i ∧ i ≤ qs.length ∧ kx = qs.length - i ∧ Hid (G1 w wr o b la s p S L) ∧ Hid (AllAt wr o s14 ps ∧ ps.map (·.1) = L.es) ∧ Hid (S.rows.length ≤ 2 + 2 * i))
    case atStart => exact ⟨0, S1, ⟨[], 0⟩, o4, [], rfl, by omega, rfl, HG4, ⟨allAt_nil _ _, rfl⟩, HLen0⟩
    case round =>
      obtain ⟨i, S, L, o, ps, rfl, hi, rfl, HG, HAll, HRows0⟩ := hrel
      obtain ⟨va, vc, hva, hvb, hvc⟩ := slice_of_own HAll.out.1.row
      subst hva
      clear HG4 HLen0
      by_cases hi8 : i < qs.length
      · obtain ⟨q, hq⟩ : ∃ q, qs[i]? = some q := ⟨_, List.getElem?_eq_getElem hi8⟩
        obtain ⟨g, off, ea, hc⟩ := HV.out.at hq
        subst ea
        have HOkq : Hid (OprOk w q) := HV.out.1 q (List.mem_of_getElem? hq)
        have HShort : Hid (q.1.b.length ≤ 1200) := (HSh.out q (List.mem_of_getElem? hq)).1
        have HRows : Hid (S.rows.length ≤ 100) := (show _ ≤ _ from by have := HRows0.out; omega)
        obtain ⟨q, x, y⟩ := q
        dsimp only at *
        unfold OprOk at HOkq
        dsimp only at HOkq
        obtain ⟨ax, cx, hxx⟩ := HOkq.out.2.2.2.2.2.2.1.len
        subst hxx
        clear hq
        have HD : Hid (∀ w', Below w.heap.size w w' → ∀ j u, (oc q (.slice ax q.b.length cx) y)[j]? = some u → w'.cell? ⟨g, off + i * 14 + j, none⟩ = some u) := hc
        have HIs : Hid (∀ (wa : World) (oa : Nat → Nat), G1 w wa oa b la s p S L → Kp0 wa oa (.slice ax q.b.length cx) q.b → Calls Try.prog 19 #[ptr la, .int .u64 s, .agg #[.int .i64 q.t, .int .i64 1], .int .i64 q.n, .slice ax q.b.length cx] wa fun r w' => ∃ e k S' L' y o', r = .returned (.tuple #[ev e y, .int .i64 k]) ∧ Issued S p s L q.t 1 q.n q.b e k S' L' ∧ Sub S S' ∧ G1 w w' o' b la s p S' L' ∧ Kp0 w' o' y e.b ∧ Mv [1, 3] wa oa w' o') := fun wa oa hg hk => hg.issue (by have := HRows.out; omega) HOkq.out.2.1 (i64_small (by omega) (by omega)) HOkq.out.2.2.1 hk (by have := HShort.out; omega)
        have HKx : Hid (∀ (wa : World) (oa : Nat → Nat) (S : St) (L : Lg), G1 w wa oa b la s p S L → Kp0 wa oa (.slice ax q.b.length cx) q.b) := fun wa oa S L hg => hg.kp HOkq.out.2.2.2.2.2.2.1
        go_upto_region 14 with fail
        have d1 := fun z : WIn (fun w' => Below w.heap.size w w') => HD.out z.w z.ok 1 _ rfl
        have d2 := fun z : WIn (fun w' => Below w.heap.size w w') => HD.out z.w z.ok 2 _ rfl
        have d3 := fun z : WIn (fun w' => Below w.heap.size w w') => HD.out z.w z.ok 3 _ rfl
        have ne : Nonempty (WIn (fun w' => Below w.heap.size w w')) := ⟨⟨w, Below.refl _ _⟩⟩
        refine wp_region_tree (C := fun w' => ∃ z : WIn (fun w' => Below w.heap.size w w'), w' = z.w)
          (.still 0 (.still 1 (.still 2 (.still 3 (.still 4 (.still 5 (.still 6 (.still 7 (.still 8 (.still 9 (.still 10 (.still 11 (.still 12 (.still 13 (.still 14 (.still 15 (.still 16 (.still 17 (.two 18 (.still 19 (.still 20 (.still 21 (.one 22 (.one 23 (.still 24 .done)))))) 22 (.one 18 (.still 19 (.still 20 (.still 21 (.one 23 (.still 24 .done)))))))))))))))))))))))))
          (by kernel_rfl) (by kernel_rfl) ⟨⟨wr.drew, HG.out.bel.drew⟩, rfl⟩ ?_
        iterate 18 (refine tree_still rfl rfl ?_; go_big_quiet_step (fail); refine wpQuiet_nil ?_)
        refine tree_two rfl rfl rfl rfl ?wayA ?wayB
        case' wayA =>
          go_simp
          refine (HIs.out wr.drew o (g1_drew HG.out) (HKx.out _ _ _ _ (g1_drew HG.out))).mono ?_
          rintro r w4 ⟨e, k, S', L', ye, o4, rfl, h1, h2, h3, h4, h5⟩
          obtain ⟨ay, cy, hyy⟩ := h4.1.len
          subst hyy
          have HS0 : Hid (Step w wr o b la s p S L q.t q.n q.b (w4.alloc (.cells (ec e (.slice ay e.b.length cy)).toArray 47)) (newTo o4 w4 9) w4.heap.size e k S' L' (.slice ay e.b.length cy)) := step_A h1 h2 h3 h4 (mv_undrew h5)
          have HB4 : Hid (Below w.heap.size w w4) := h3.bel
          clear h1 h2 h3 h4 h5
          unfold ev
          refine ⟨⟨⟨w4, HB4.out⟩, rfl⟩, ?_⟩
          iterate 3 (refine tree_still rfl rfl ?_; go_big_quiet_step (fail); refine wpQuiet_nil ?_)
          refine tree_one rfl rfl ?_
          go_simp
          refine ⟨⟨⟨_, balloc HB4.out _⟩, rfl⟩, ?_⟩
          refine tree_one rfl rfl ?_
          go_simp
          refine ⟨⟨⟨_, balloc HB4.out _⟩, rfl⟩, ?_⟩
          generalize hw5 : w4.alloc (.cells #[.int .i64 e.w, .int .i64 e.i, .int .u64 e.p, .int .i64 e.t, .int .i64 e.u, .int .i64 e.n, .slice ay e.b.length cy, .int .u64 e.g] 47) = w5
          generalize hn5 : w4.heap.size = n5
          have HStep : Hid (∃ o5, Step w wr o b la s p S L q.t q.n q.b w5 o5 n5 e k S' L' (.slice ay e.b.length cy)) := ⟨_, (show Step w wr o b la s p S L q.t q.n q.b w5 _ n5 e k S' L' _ from by rw [← hw5, ← hn5]; exact HS0.out)⟩
          clear hw5 hn5 HS0 HB4
        case' wayB =>
          go_simp
          have HGa : Hid (G1 w (wr.alloc (.cells #[.int .i64 0, .int .i64 0, .int .u64 0, .int .i64 0, .int .i64 0, .int .i64 0, .slice none 0 0, .int .u64 0] 47)).drew (newTo o wr 9) b la s p S L) := g1_drew (HG.out.mvd (Mv.of_below (I := []) 9 (balloc (Below.refl _ _) _)) (by simp) (by simp) (by simp) (by simp))
          refine ⟨⟨⟨_, HGa.out.bel⟩, rfl⟩, ?_⟩
          refine tree_one rfl rfl ?_
          go_simp
          refine (HIs.out _ _ HGa.out (HKx.out _ _ _ _ HGa.out)).mono ?_
          rintro r w4 ⟨e, k, S', L', ye, o4, rfl, h1, h2, h3, h4, h5⟩
          obtain ⟨ay, cy, hyy⟩ := h4.1.len
          subst hyy
          have HS0 := step_B rfl h1 h2 h3 h4 (mv_undrew h5)
          have HB4 : Hid (Below w.heap.size w w4) := h3.bel
          have Z4 := step_zero rfl (mv_undrew h5)
          have z0 := Z4.cell 0 _ rfl; have z1 := Z4.cell 1 _ rfl; have z2 := Z4.cell 2 _ rfl; have z3 := Z4.cell 3 _ rfl; have z4 := Z4.cell 4 _ rfl; have z5 := Z4.cell 5 _ rfl; have z6 := Z4.cell 6 _ rfl; have z7 := Z4.cell 7 _ rfl; have f0 := Z4.frozen 0; have f1 := Z4.frozen 1; have f2 := Z4.frozen 2; have f3 := Z4.frozen 3; have f4 := Z4.frozen 4; have f5 := Z4.frozen 5; have f6 := Z4.frozen 6; have f7 := Z4.frozen 7
          clear h1 h2 h3 h4 h5 Z4
          unfold ev
          refine ⟨⟨⟨w4, HB4.out⟩, rfl⟩, ?_⟩
          iterate 3 (refine tree_still rfl rfl ?_; go_big_quiet_step (fail); refine wpQuiet_nil ?_)
          refine tree_one rfl rfl ?_
          go_simp
          have HB5 := HS0.g.bel
          refine ⟨⟨⟨_, HB5⟩, rfl⟩, ?_⟩
          clear HB5 z0 z1 z2 z3 z4 z5 z6 z7 f0 f1 f2 f3 f4 f5 f6 f7
          generalize ((((((((w4.setCell ⟨wr.heap.size, 0, none⟩ (.int .i64 e.w)).setCell ⟨wr.heap.size, 1, none⟩ (.int .i64 e.i)).setCell ⟨wr.heap.size, 2, none⟩ (.int .u64 e.p)).setCell ⟨wr.heap.size, 3, none⟩ (.int .i64 e.t)).setCell ⟨wr.heap.size, 4, none⟩ (.int .i64 e.u)).setCell ⟨wr.heap.size, 5, none⟩ (.int .i64 e.n)).setCell ⟨wr.heap.size, 6, none⟩ (.slice ay e.b.length cy)).setCell ⟨wr.heap.size, 7, none⟩ (.int .u64 e.g)) = w5 at *
          generalize hn5 : wr.heap.size = n5 at *
          have HStep : Hid (∃ o5, Step w wr o b la s p S L q.t q.n q.b w5 o5 n5 e k S' L' (.slice ay e.b.length cy)) := ⟨_, HS0⟩
          clear hn5 HS0 HB4 HGa
        all_goals
          refine tree_still rfl rfl ?_
          go_big_quiet_step (fail)
          refine wpQuiet_nil ?_
          refine tree_done ?_
          clear d1 d2 d3 ne
          obtain ⟨o5, hst⟩ := HStep.out
          have HT : Hid (Step w wr o b la s p S L q.t q.n q.b w5 o5 n5 e k S' L' (.slice ay e.b.length cy)) := hst
          clear hst HStep HIs HKx
          have hbx := HT.out.box
          unfold ec at hbx
          by_cases hk0 : k = 0
          · subst hk0
            have m0 := hbx.cell 0 _ rfl; have m1 := hbx.cell 1 _ rfl; have m2 := hbx.cell 2 _ rfl; have m3 := hbx.cell 3 _ rfl; have m4 := hbx.cell 4 _ rfl; have m5 := hbx.cell 5 _ rfl; have m6 := hbx.cell 6 _ rfl; have m7 := hbx.cell 7 _ rfl
            clear hbx
            have HIok : Hid (IssueOk S 1 p s L (candE 1 L q.t 1 q.n q.b) e S' L') := HT.out.iss.yes rfl
            have HAl5 : Hid (AllAt w5 o5 (.slice va ps.length vc) ps) := HAll.out.1.mv HT.out.mv (by simp) (by simp)
            have HOne : Hid (∀ u ∈ flatE [(e, (.slice ay e.b.length cy : Value))], u.oneCell' = true) := flatE_one (fun q hq => by simp at hq; subst hq; rfl)
            have HRo5 : Hid ((w5.alloc (.cells #[.int .i64 e.w, .int .i64 e.i, .int .u64 e.p, .int .i64 e.t, .int .i64 e.u, .int .i64 e.n, .slice ay e.b.length cy, .int .u64 e.g] 47)).ownsRow 0 47 8 (.slice va ps.length vc) ps.length (flatE ps)) := HAl5.out.row.alloc _
            have HR1 : Hid (RowE (w5.alloc (.cells #[.int .i64 e.w, .int .i64 e.i, .int .u64 e.p, .int .i64 e.t, .int .i64 e.u, .int .i64 e.n, .slice ay e.b.length cy, .int .u64 e.g] 47)) (.slice (some ⟨w5.heap.size, 0, none⟩) 1 1) [(e, .slice ay e.b.length cy)]) := rowE_one w5 e _
            have HPs : Hid (ps.length ≤ 200) := (show _ ≤ _ from by have h1 := HG.out.whole.few; have h2 := congrArg List.length HAll.out.2; simp at h2; omega)
            go_wp2_with (at_builtin; go_must (refine wpList_append_ents rfl (.tmp 103) (.tmp 105) rfl (.slice va ps.length vc) ps rfl HRo5.out _ [(e, .slice ay e.b.length cy)] rfl HR1.out HOne.out (by have := HPs.out; simp; omega) ?_; intro v2 w6 hrow hg hwh; have HApp : Hid (∃ o6, AllAt w6 o6 v2 (ps ++ [(e, .slice ay e.b.length cy)]) ∧ Mv [7] w5 o5 w6 o6) := HAl5.out.add HIok.out.ok HT.out.kp _ hrow hg hwh; obtain ⟨va2, vc2, hv2, hv2b, hv2c⟩ := slice_of_own hrow; subst hv2; clear hrow hg hwh))
            go_roundg (qs.length - (i + 1))
            case measure => omega
            case rel =>
              obtain ⟨o6, h1, h2⟩ := HApp.out
              refine ⟨i + 1, S', L', o6, ps ++ [(e, .slice ay e.b.length cy)], by go_num, by omega, rfl, HT.out.g.mvd h2 (by simp) (by simp) (by simp) (by simp), ⟨by simpa using h1, ?_⟩, ?_⟩
              · rw [List.map_append, HAll.out.2, HIok.out.es]
                rfl
              · show _ ≤ _
                have h3 := HRows0.out
                have h4 := HT.out.iss.len
                omega
          · have hk2 : (k == 0) = false := by simpa using hk0
            obtain ⟨n1, n2, n3⟩ := HT.out.iss.no hk0
            subst n1 n2 n3
            have HAl5 : Hid (AllAt w5 o5 (.slice va ps.length vc) ps) := HAll.out.1.mv HT.out.mv (by simp) (by simp)
            clear hbx hk0
            go_wp2_with fail
            go_roundg (qs.length - (i + 1))
            case measure => omega
            case rel => exact ⟨i + 1, _, _, o5, ps, by go_num, by omega, rfl, HT.out.g, ⟨HAl5.out, HAll.out.2⟩, (show _ ≤ _ from by have := HRows0.out; omega)⟩
      · obtain rfl : i = qs.length := by omega
        have HLn : Hid (L.es.length = ps.length) := (show _ = _ from by have := congrArg List.length HAll.out.2; simp at this; omega)
        have HPs : Hid (ps.length ≤ 200) := (show _ ≤ _ from by have h1 := HG.out.whole.few; have h2 := HLn.out; omega)
        clear HRows0
        by_cases hin : 0 ≤ at' ∧ at' < ps.length
        · obtain ⟨h0, h1⟩ := hin
          obtain ⟨m, rfl⟩ : ∃ m : Nat, at' = m := ⟨at'.toNat, by omega⟩
          obtain ⟨⟨e, ye⟩, hq⟩ : ∃ q, ps[m]? = some q := ⟨_, List.getElem?_eq_getElem (by omega)⟩
          have he : L.es[m]? = some e := by rw [← HAll.out.2, List.getElem?_map, hq]; rfl
          have HAt : Hid (Calls Try.prog 29 #[ptr la, .int .i64 (m : Int)] wr fun r w' => ∃ y, r = .returned (.tuple #[ev e y, .int .i64 0]) ∧ Kp0 w' (newTo o wr 0) y e.b ∧ Below wr.heap.size wr w') := atL_in HG.out.log m e he
          obtain ⟨g, off, ea, hc⟩ := (rowE_own HAll.out.1.row).at hq
          subst ea
          have HYe : Hid (Rd wr ye e.b) := (HAll.out.1.ents _ (List.mem_of_getElem? hq)).2.1
          obtain ⟨ay, cy, hyy⟩ := HYe.out.len
          subst hyy
          have HC : Hid (∀ w', Below wr.heap.size wr w' → ∀ j u, (ec e (.slice ay e.b.length cy))[j]? = some u → w'.cell? ⟨g, off + m * 8 + j, none⟩ = some u) := fun w' hb' j u hu => by
            have h1 := hc j u hu
            rw [World.cell?_of_block (hb'.block g (World.block_lt_of_cell? wr _ h1))]
            exact h1
          have h0' : ¬ (m : Int) < 0 := by omega
          have h1' : ¬ (ps.length : Int) ≤ m := by omega
          have HBw : Hid (Below w.heap.size w wr) := HG.out.bel
          clear hc hq he HAll HG HLn HUp
          unfold ec at HC
          go_upto_region 21 with (go_at_call 29; go_must (refine (Calls.mono HAt.out ?_); rintro r w6 ⟨y6, rfl, hy6, hb6⟩; obtain ⟨a6, c6, hyy⟩ := hy6.1.len; subst hyy; have HY6 : Hid (Rd w6 (.slice a6 e.b.length c6) e.b) := hy6.1; have HB6 : Hid (Below wr.heap.size wr w6) := hb6; clear hy6 hb6; unfold ev))
          have HX7 : Hid (Blk (w6.alloc (.cells #[.int .i64 e.w, .int .i64 e.i, .int .u64 e.p, .int .i64 e.t, .int .i64 e.u, .int .i64 e.n, .slice a6 e.b.length c6, .int .u64 e.g] 47)) w6.heap.size 47 [.int .i64 e.w, .int .i64 e.i, .int .u64 e.p, .int .i64 e.t, .int .i64 e.u, .int .i64 e.n, .slice a6 e.b.length c6, .int .u64 e.g]) := blk_new w6 [.int .i64 e.w, .int .i64 e.i, .int .u64 e.p, .int .i64 e.t, .int .i64 e.u, .int .i64 e.n, .slice a6 e.b.length c6, .int .u64 e.g] 47
          have HB7 : Hid (Below wr.heap.size wr (w6.alloc (.cells #[.int .i64 e.w, .int .i64 e.i, .int .u64 e.p, .int .i64 e.t, .int .i64 e.u, .int .i64 e.n, .slice a6 e.b.length c6, .int .u64 e.g] 47))) := balloc HB6.out _
          have HY7 : Hid (Rd (w6.alloc (.cells #[.int .i64 e.w, .int .i64 e.i, .int .u64 e.p, .int .i64 e.t, .int .i64 e.u, .int .i64 e.n, .slice a6 e.b.length c6, .int .u64 e.g] 47)) (.slice a6 e.b.length c6) e.b) := (show Rd _ _ _ from HY6.out.below (balloc (Below.refl _ _) _))
          generalize w6.alloc (.cells #[.int .i64 e.w, .int .i64 e.i, .int .u64 e.p, .int .i64 e.t, .int .i64 e.u, .int .i64 e.n, .slice a6 e.b.length c6, .int .u64 e.g] 47) = w7 at *
          generalize w6.heap.size = n6 at *
          clear HB6 HY6 HAt
          have HOd : Hid (∀ w', Below w7.heap.size w7 w' → Calls Try.prog 30 #[.pointer none, .agg #[.int .i64 e.w, .int .i64 e.i, .int .u64 e.p, .int .i64 e.t, .int .i64 e.u, .int .i64 e.n, .slice a6 e.b.length c6, .int .u64 e.g]] w' fun r w'' => r = .returned (.tuple #[.agg #[.int .i64 0, .int .i64 0, .int .u64 0, .int .i64 0, .int .i64 0, .int .i64 0, .slice none 0 0, .int .u64 0], .agg #[.int .i64 0, .int .i64 0, .int .u64 0, .int .i64 0, .int .i64 0, .int .i64 0, .slice none 0 0, .int .u64 0], .bool false]) ∧ Below w'.heap.size w' w'') := fun w' hb => odds_no (.pointer none) 23 e (.slice a6 e.b.length c6) ⟨none, rfl⟩ (HY7.out.below hb) (by omega) (fun w'' hb' => check_nil w'' (.slice none 0 0) e _ ((HY7.out.below hb).below hb'))
          have HCk : Hid (∀ w', Below w7.heap.size w7 w' → Calls Try.prog 23 #[.pointer none, .agg #[.int .i64 e.w, .int .i64 e.i, .int .u64 e.p, .int .i64 e.t, .int .i64 e.u, .int .i64 e.n, .slice a6 e.b.length c6, .int .u64 e.g]] w' fun r w'' => r = .returned (.int .i64 23) ∧ Below w'.heap.size w' w'') := fun w' hb => check_nil w' (.slice none 0 0) e _ (HY7.out.below hb)
          have HAc : Hid (∀ w', Below w7.heap.size w7 w' → Calls Try.prog 25 #[.pointer none, .agg #[.int .i64 e.w, .int .i64 e.i, .int .u64 e.p, .int .i64 e.t, .int .i64 e.u, .int .i64 e.n, .slice a6 e.b.length c6, .int .u64 e.g]] w' fun r w'' => r = .returned (.int .i64 23) ∧ Below w'.heap.size w' w'') := fun w' hb => accept_nil w' e _ (HY7.out.below hb)
          have HSm : Hid (∀ w', Below w7.heap.size w7 w' → Calls Try.prog 21 #[.agg #[.int .i64 e.w, .int .i64 e.i, .int .u64 e.p, .int .i64 e.t, .int .i64 e.u, .int .i64 e.n, .slice a6 e.b.length c6, .int .u64 e.g], .agg #[.int .i64 e.w, .int .i64 e.i, .int .u64 e.p, .int .i64 e.t, .int .i64 e.u, .int .i64 e.n, .slice ay e.b.length cy, .int .u64 e.g]] w' fun r w'' => r = .returned (.bool true) ∧ Below w'.heap.size w' w'') := fun w' hb => by
            have := refsameE_any w' e e (.slice a6 e.b.length c6) (.slice ay e.b.length cy) (HY7.out.below hb) (HYe.out.below (bnext HB7.out hb))
            rw [(sameB_iff e e).2 rfl] at this
            exact this
          have x0 := HX7.out.cell 0 _ rfl; have x1 := HX7.out.cell 1 _ rfl; have x2 := HX7.out.cell 2 _ rfl; have x3 := HX7.out.cell 3 _ rfl; have x4 := HX7.out.cell 4 _ rfl; have x5 := HX7.out.cell 5 _ rfl; have x6 := HX7.out.cell 6 _ rfl; have x7 := HX7.out.cell 7 _ rfl
          go_upto_region 24 with (first
            | (go_at_call 29; go_must (refine (atL_nil w7 0).mono ?_; rintro r w8 ⟨rfl, hb8⟩; have HB8 : Hid (Below w7.heap.size w7 w8) := hb8; clear hb8; unfold ev zeroE))
            | (go_at_call 19; go_must (refine (issue_nil _ s 1 0 0 [] (.slice none 0 0) (rd_nil _)).mono ?_; rintro r w9 ⟨rfl, hb9⟩; have HB9 : Hid (Below w7.heap.size w7 w9) := (show Below _ _ _ from bnext (balloc HB8.out _) hb9); clear hb9; have Y9 := (HX7.out.below HB9.out).alloc (.cells #[.int .i64 0, .int .i64 0, .int .u64 0, .int .i64 0, .int .i64 0, .int .i64 0, .slice none 0 0, .int .u64 0] 47); have y0 := Y9.cell 0 _ rfl; have y1 := Y9.cell 1 _ rfl; have y2 := Y9.cell 2 _ rfl; have y3 := Y9.cell 3 _ rfl; have y4 := Y9.cell 4 _ rfl; have y5 := Y9.cell 5 _ rfl; have y6 := Y9.cell 6 _ rfl; have y7 := Y9.cell 7 _ rfl; clear Y9; unfold ev zeroE))
            | (go_at_call 30; go_must (refine (HOd.out _ (balloc HB9.out _)).mono ?_; rintro r w10 ⟨rfl, hb10⟩; have HBa : Hid (Below w7.heap.size w7 w10) := (show Below _ _ _ from bnext (balloc HB9.out _) hb10); clear hb10)))
          have HBb : Hid (Below w7.heap.size w7 ((w10.alloc (.cells #[.int .i64 0, .int .i64 0, .int .u64 0, .int .i64 0, .int .i64 0, .int .i64 0, .slice none 0 0, .int .u64 0] 47)).alloc (.cells #[.int .i64 0, .int .i64 0, .int .u64 0, .int .i64 0, .int .i64 0, .int .i64 0, .slice none 0 0, .int .u64 0] 47))) := balloc (balloc HBa.out _) _
          generalize (w10.alloc (.cells #[.int .i64 0, .int .i64 0, .int .u64 0, .int .i64 0, .int .i64 0, .int .i64 0, .slice none 0 0, .int .u64 0] 47)).alloc (.cells #[.int .i64 0, .int .i64 0, .int .u64 0, .int .i64 0, .int .i64 0, .int .i64 0, .slice none 0 0, .int .u64 0] 47) = wz at *
          clear HBa HB9 HB8 HOd x0 x1 x2 x3 x4 x5 x6 x7 y0 y1 y2 y3 y4 y5 y6 y7
          have HBz : Hid (Below w.heap.size w wz) := (show Below _ _ _ from bnext HBw.out (bnext HB7.out HBb.out))
          have k0 := fun z : WIn (fun w' => Below wz.heap.size wz w') => (HX7.out.below (bnext HBb.out z.ok)).cell 0 _ rfl
          have k1 := fun z : WIn (fun w' => Below wz.heap.size wz w') => (HX7.out.below (bnext HBb.out z.ok)).cell 1 _ rfl
          have k2 := fun z : WIn (fun w' => Below wz.heap.size wz w') => (HX7.out.below (bnext HBb.out z.ok)).cell 2 _ rfl
          have k3 := fun z : WIn (fun w' => Below wz.heap.size wz w') => (HX7.out.below (bnext HBb.out z.ok)).cell 3 _ rfl
          have k4 := fun z : WIn (fun w' => Below wz.heap.size wz w') => (HX7.out.below (bnext HBb.out z.ok)).cell 4 _ rfl
          have k5 := fun z : WIn (fun w' => Below wz.heap.size wz w') => (HX7.out.below (bnext HBb.out z.ok)).cell 5 _ rfl
          have k6 := fun z : WIn (fun w' => Below wz.heap.size wz w') => (HX7.out.below (bnext HBb.out z.ok)).cell 6 _ rfl
          have k7 := fun z : WIn (fun w' => Below wz.heap.size wz w') => (HX7.out.below (bnext HBb.out z.ok)).cell 7 _ rfl
          have m0 := fun z : WIn (fun w' => Below wz.heap.size wz w') => HC.out z.w (bnext HB7.out (bnext HBb.out z.ok)) 0 _ rfl
          have m1 := fun z : WIn (fun w' => Below wz.heap.size wz w') => HC.out z.w (bnext HB7.out (bnext HBb.out z.ok)) 1 _ rfl
          have m2 := fun z : WIn (fun w' => Below wz.heap.size wz w') => HC.out z.w (bnext HB7.out (bnext HBb.out z.ok)) 2 _ rfl
          have m3 := fun z : WIn (fun w' => Below wz.heap.size wz w') => HC.out z.w (bnext HB7.out (bnext HBb.out z.ok)) 3 _ rfl
          have m4 := fun z : WIn (fun w' => Below wz.heap.size wz w') => HC.out z.w (bnext HB7.out (bnext HBb.out z.ok)) 4 _ rfl
          have m5 := fun z : WIn (fun w' => Below wz.heap.size wz w') => HC.out z.w (bnext HB7.out (bnext HBb.out z.ok)) 5 _ rfl
          have m6 := fun z : WIn (fun w' => Below wz.heap.size wz w') => HC.out z.w (bnext HB7.out (bnext HBb.out z.ok)) 6 _ rfl
          have m7 := fun z : WIn (fun w' => Below wz.heap.size wz w') => HC.out z.w (bnext HB7.out (bnext HBb.out z.ok)) 7 _ rfl
          simp only [Nat.add_zero] at m0
          have ne : Nonempty (WIn (fun w' => Below wz.heap.size wz w')) := ⟨⟨wz, Below.refl _ _⟩⟩
          refine wp_region_ord (C := fun w' => ∃ z : WIn (fun w' => Below wz.heap.size wz w'), w' = z.w) [(false, 0), (false, 1), (false, 2), (false, 3), (false, 4), (false, 5), (false, 6), (false, 7), (true, 8), (false, 9), (false, 10), (false, 11), (true, 12), (false, 13), (false, 14), (false, 15), (false, 16), (true, 17), (false, 18), (false, 19), (false, 20), (false, 21), (false, 23), (true, 22), (false, 24), (false, 25), (false, 26), (false, 27), (false, 28), (false, 29), (false, 30), (false, 31), (false, 32), (false, 33), (false, 34), (false, 35), (false, 36), (true, 37), (false, 38), (false, 39), (false, 40), (false, 41), (false, 42), (true, 43), (false, 44), (false, 45), (false, 46), (false, 47), (false, 48), (false, 49), (false, 50), (true, 51), (false, 52), (false, 53)] (by kernel_rfl) (by kernel_rfl) ⟨⟨wz.drew, (Below.refl _ _).drew⟩, rfl⟩ ?_
          iterate 8 (refine ord_still rfl rfl ?_; go_big_quiet_step (fail); refine wpQuiet_nil ?_)
          refine ord_mem rfl rfl ?_
          go_simp
          refine (HSm.out wz.drew HBb.out.drew).mono ?_
          rintro r v1 ⟨rfl, hv1⟩
          have HV1 : Hid (Below wz.heap.size wz v1) := below_undrew hv1
          clear hv1
          refine ⟨⟨⟨v1, HV1.out⟩, rfl⟩, ?_⟩
          iterate 3 (refine ord_still rfl rfl ?_; go_big_quiet_step (fail); refine wpQuiet_nil ?_)
          refine ord_mem rfl rfl ?_
          go_simp
          refine (writerL_nil v1).mono ?_
          rintro r v2 ⟨rfl, hv2⟩
          replace hv2 := hv2.symm
          subst hv2
          refine ⟨⟨⟨v1, HV1.out⟩, rfl⟩, ?_⟩
          iterate 4 (refine ord_still rfl rfl ?_; go_big_quiet_step (fail); refine wpQuiet_nil ?_)
          refine ord_mem rfl rfl ?_
          go_simp
          refine (lenL_nil v1).mono ?_
          rintro r v2 ⟨rfl, hv2⟩
          replace hv2 := hv2.symm
          subst hv2
          refine ⟨⟨⟨v1, HV1.out⟩, rfl⟩, ?_⟩
          iterate 5 (refine ord_still rfl rfl ?_; go_big_quiet_step (fail); refine wpQuiet_nil ?_)
          refine ord_mem rfl rfl ?_
          go_simp
          refine (headL_nil v1).mono ?_
          rintro r v2 ⟨rfl, hv2⟩
          have HV2 : Hid (Below wz.heap.size wz v2) := (show Below _ _ _ from bnext HV1.out hv2)
          clear hv2
          refine ⟨⟨⟨v2, HV2.out⟩, rfl⟩, ?_⟩
          iterate 13 (refine ord_still rfl rfl ?_; go_big_quiet_step (fail); refine wpQuiet_nil ?_)
          refine ord_mem rfl rfl ?_
          go_simp
          refine (HCk.out v2 (bnext HBb.out HV2.out)).mono ?_
          rintro r v3 ⟨rfl, hv3⟩
          have HV3 : Hid (Below wz.heap.size wz v3) := (show Below _ _ _ from bnext HV2.out hv3)
          clear hv3
          refine ⟨⟨⟨v3, HV3.out⟩, rfl⟩, ?_⟩
          iterate 5 (refine ord_still rfl rfl ?_; go_big_quiet_step (fail); refine wpQuiet_nil ?_)
          refine ord_mem rfl rfl ?_
          go_simp
          refine (HAc.out v3 (bnext HBb.out HV3.out)).mono ?_
          rintro r v4 ⟨rfl, hv4⟩
          have HV4 : Hid (Below wz.heap.size wz v4) := (show Below _ _ _ from bnext HV3.out hv4)
          clear hv4
          refine ⟨⟨⟨v4, HV4.out⟩, rfl⟩, ?_⟩
          iterate 7 (refine ord_still rfl rfl ?_; go_big_quiet_step (fail); refine wpQuiet_nil ?_)
          refine ord_mem rfl rfl ?_
          go_simp
          refine (alive_any v4).mono ?_
          rintro r v5 ⟨rfl, hv5⟩
          have HV5 : Hid (Below wz.heap.size wz v5) := (show Below _ _ _ from bnext HV4.out hv5)
          clear hv5
          refine ⟨⟨⟨v5, HV5.out⟩, rfl⟩, ?_⟩
          iterate 2 (refine ord_still rfl rfl ?_; go_big_quiet_step (fail); refine wpQuiet_nil ?_)
          refine ord_end ?_
          clear k0 k1 k2 k3 k4 k5 k6 k7 m0 m1 m2 m3 m4 m5 m6 m7 ne
          go_wp2
          go_ret
          exact ⟨rfl, bnext HBz.out HV5.out⟩
        · have HAt : Hid (Calls Try.prog 29 #[ptr la, .int .i64 at'] wr fun r w' => r = .returned (.tuple #[ev zeroE (.slice none 0 0), .int .i64 2]) ∧ Below wr.heap.size wr w') := atL_out HG.out.log at' (by have := HLn.out; omega)
          have HSm : Hid (∀ w', Calls Try.prog 21 #[.agg #[.int .i64 0, .int .i64 0, .int .u64 0, .int .i64 0, .int .i64 0, .int .i64 0, .slice none 0 0, .int .u64 0], .agg #[.int .i64 0, .int .i64 0, .int .u64 0, .int .i64 0, .int .i64 0, .int .i64 0, .slice none 0 0, .int .u64 0]] w' fun r w'' => r = .returned (.bool true) ∧ Below w'.heap.size w' w'') := fun w' => by
            have := refsameE_any w' zeroE zeroE (.slice none 0 0) (.slice none 0 0) (rd_nil _) (rd_nil _)
            rw [(sameB_iff zeroE zeroE).2 rfl] at this
            exact this
          have HBw : Hid (Below w.heap.size w wr) := HG.out.bel
          clear HAll HG HLn HUp
          by_cases h0 : at' < 0
          · clear hin
            go_wp2_with (first
              | (go_at_call 29; go_must (refine (Calls.mono HAt.out ?_); rintro r w6 ⟨rfl, hb6⟩; unfold ev zeroE))
              | (go_at_call 21; go_must (refine (HSm.out _).mono ?_; rintro r w7 ⟨rfl, hb7⟩))
              | (go_at_call 10; go_must (refine (alive_any _).mono ?_; rintro r w8 ⟨rfl, hb8⟩)))
            go_ret
            exact ⟨rfl, bnext HBw.out (bnext (bnext (balloc hb6 _) hb7) hb8)⟩
          · have h1 : (ps.length : Int) ≤ at' := by omega
            clear hin
            go_wp2_with (first
              | (go_at_call 29; go_must (refine (Calls.mono HAt.out ?_); rintro r w6 ⟨rfl, hb6⟩; unfold ev zeroE))
              | (go_at_call 21; go_must (refine (HSm.out _).mono ?_; rintro r w7 ⟨rfl, hb7⟩))
              | (go_at_call 10; go_must (refine (alive_any _).mono ?_; rintro r w8 ⟨rfl, hb8⟩)))
            go_ret
            exact ⟨rfl, bnext HBw.out (bnext (bnext (balloc hb6 _) hb7) hb8)⟩
end Go.Proofs.Yteedjdflojfhmaa
