/-
  The walk of ChainWhole: how many entries of any list a new log would accept, and what is wrong with the next one.
-/
import Derived.Test.YteedjdflojfhmaaBoth
import Derived.Deep.LoopGhost
namespace Go.Proofs.Yteedjdflojfhmaa
set_option linter.unusedVariables false
set_option linter.unusedSimpArgs false
set_option synthInstance.maxSize 20000
set_option maxHeartbeats 2000000
set_option maxRecDepth 20000
open Go.RowKit Go.Maps

theorem row_none (w : World) : (w.alloc (.cells #[] 47)).ownsRow 0 47 8 (.slice (some ⟨w.heap.size, 0, none⟩) 0 0) ([] : List (Ent × Value)).length (flatE []) :=
  ⟨rfl, .inr ⟨w.heap.size, 0, #[], rfl, Nat.zero_le _, heap_alloc_new w _, Nat.le_refl _, Nat.zero_le _, rfl, rfl⟩⟩
theorem all_new {w w6 : World} {o : Nat → Nat} {v2 : Value} {ps : List (Ent × Value)} (hE : Ents w o ps) (hrow : w6.ownsRow 0 47 8 v2 ps.length (flatE ps)) (hg : (w.alloc (.cells #[] 47)).grownBy w6 (some w.heap.size)) (hwh : ∀ k, v2.ownBlock = some k → some w.heap.size = some k ∨ (w.alloc (.cells #[] 47)).heap.size ≤ k) : AllAt w6 (newTo o w 7) v2 ps ∧ Mv [7] w o w6 (newTo o w 7) := by
  have hb : Below w.heap.size w w6 := bgrown (balloc (Below.refl _ _) _) (Nat.le_refl _) hg
  have m : Mv [] w o w6 (newTo o w 7) := Mv.of_below 7 hb
  refine ⟨⟨hrow, fun k hk => newTo_new ?_, hE.mv m (by simp)⟩, m.widen (by simp)⟩
  rcases hwh k hk with r | r
  · have := Option.some.inj r
    omega
  · simp at r
    omega
theorem row_addr {w : World} {a : Option Addr} {n c : Nat} {xs : List Value} (h : w.ownsRow 0 47 8 (.slice a n c) n xs) (hn : 0 < n) : ∃ g, a = some ⟨g, 0, none⟩ := by
  rcases h.2 with ⟨_, e⟩ | ⟨g, cap, cur, e, _⟩
  · omega
  · cases e
    exact ⟨g, rfl⟩
theorem all_set {w : World} {o : Nat → Nat} {g cap k : Nat} {ps : List (Ent × Value)} {e : Ent} {y : Value} (h : AllAt w o (.slice (some ⟨g, 0, none⟩) ps.length cap) ps) (hk : k < ps.length) (he : EOk e) (hy : Kp0 w o y e.b) :
    AllAt ((((((((w.setCell ⟨g, k * 8, none⟩ (.int .i64 e.w)).setCell ⟨g, k * 8 + 1, none⟩ (.int .i64 e.i)).setCell ⟨g, k * 8 + 2, none⟩ (.int .u64 e.p)).setCell ⟨g, k * 8 + 3, none⟩ (.int .i64 e.t)).setCell ⟨g, k * 8 + 4, none⟩ (.int .i64 e.u)).setCell ⟨g, k * 8 + 5, none⟩ (.int .i64 e.n)).setCell ⟨g, k * 8 + 6, none⟩ y).setCell ⟨g, k * 8 + 7, none⟩ (.int .u64 e.g)) o (.slice (some ⟨g, 0, none⟩) ps.length cap) (ps.set k (e, y)) ∧
    Mv [7] w o ((((((((w.setCell ⟨g, k * 8, none⟩ (.int .i64 e.w)).setCell ⟨g, k * 8 + 1, none⟩ (.int .i64 e.i)).setCell ⟨g, k * 8 + 2, none⟩ (.int .u64 e.p)).setCell ⟨g, k * 8 + 3, none⟩ (.int .i64 e.t)).setCell ⟨g, k * 8 + 4, none⟩ (.int .i64 e.u)).setCell ⟨g, k * 8 + 5, none⟩ (.int .i64 e.n)).setCell ⟨g, k * 8 + 6, none⟩ y).setCell ⟨g, k * 8 + 7, none⟩ (.int .u64 e.g)) o := by
  have hs := row_set8 h.row hk e y
  dsimp only at hs
  rw [List.length_set] at hs
  obtain ⟨h1, G⟩ := hs
  have m : Mv [7] w o _ o := ⟨G.os, G.tape, G.output, G.size, fun _ _ => rfl, fun j hj hn => G.block j hj (fun e => hn (by have := Option.some.inj e; subst this; rw [h.own _ rfl]; simp))⟩
  refine ⟨⟨by rw [List.length_set]; exact h1, h.own, fun q hq => ?_⟩, m⟩
  rcases List.mem_or_eq_of_mem_set hq with c | c
  · exact ⟨(h.ents q c).1, (h.ents q c).2.mv m (by simp)⟩
  · subst c
    exact ⟨he, hy.mv m (by simp)⟩

theorem whole_dark (dv : Value) (ds : List Int) (v : Value) (qs : List (Opr × Value × Value)) (turn field : Int) (w : World) (hd : RdU w dv ds) (hv : RowO w v qs) (hl : lightB ds.length qs = false) : Calls Try.prog 4 #[dv, v, .int .i64 turn, .int .i64 field] w fun r w' => r = .returned (.bool true) ∧ Below w.heap.size w w' := by
  obtain ⟨_, ad, cd, rfl, hd1, hd2, _⟩ := hd
  unfold maxLen at hd2
  have LI := light_any (Below.refl w.heap.size w) ad ds.length cd (by omega) hv
  obtain ⟨a, cap, rfl⟩ := hv.len
  clear hv
  rw [hl] at LI
  have HLI : Hid (Calls Try.prog 9 #[.slice ad ds.length cd, .slice a qs.length cap] w fun r w'' => r = .returned (.bool false) ∧ w'' = w) := LI
  clear LI hl
  go_enter Try.func4, Try.ntmps4
  go_wp2_with (first
    | (go_at_call 9; go_must (refine (Calls.mono HLI.out ?_); rintro r w1 ⟨rfl, hw1⟩; replace hw1 := hw1.symm; subst hw1))
    | (go_at_call 10; go_must (refine (alive_any _).mono ?_; rintro r w2 ⟨rfl, hb2⟩)))
  go_ret
  exact ⟨rfl, hb2⟩

theorem whole_walk (dv : Value) (ds : List Int) (v : Value) (qs : List (Opr × Value × Value)) (turn field : Int) (w : World) (hd : RdU w dv ds) (hv : RowO w v qs) : Calls Try.prog 4 #[dv, v, .int .i64 turn, .int .i64 field] w fun r w' => r = .returned (.bool true) ∧ Below w.heap.size w w' := by
  cases hl : lightB ds.length qs with
  | false => exact whole_dark dv ds v qs turn field w hd hv hl
  | true =>
  have hdu := hd.1
  have HDv : Hid (RdU w dv ds) := hd
  obtain ⟨_, ad, cd, rfl, hd1, hd2, _⟩ := hd
  unfold maxLen at hd2
  have LI := light_any (Below.refl w.heap.size w) ad ds.length cd (by omega) hv
  rw [hl] at LI
  obtain ⟨hd50, hq40, hshort⟩ := lightB_iff hl
  have HSh : Hid (∀ q ∈ qs, q.1.b.length ≤ 1200 ∧ q.1.e.b.length ≤ 1200) := hshort
  clear hl hshort
  obtain ⟨a, cap, rfl⟩ := hv.len
  have hcap := hv.cap
  have HV : Hid (RowO w (.slice a qs.length cap) qs) := hv
  have HLI : Hid (Calls Try.prog 9 #[.slice ad ds.length cd, .slice a qs.length cap] w fun r w'' => r = .returned (.bool true) ∧ w'' = w) := LI
  have g0 : Good ⟨ds, []⟩ := good0 hdu
  have pa := pair_at g0 (by simp)
  have HKey : Hid (Keyed' (⟨ds, []⟩ : St).pair (⟨ds, []⟩ : St).fresh ((⟨ds, []⟩ : St).put .secret).fresh) := ⟨pair_good g0 (by simp), pa.1, pa.2⟩
  have HFine : Hid (Fine (⟨ds, []⟩ : St).pair) := (fine0 ds).pair g0 (by simp)
  have HLen : Hid ((⟨ds, []⟩ : St).pair.rows.length ≤ 2) := (show _ ≤ _ from by rw [pair_len]; simp)
  have hP1 := fun (w' : World) (o' : Nat → Nat) (b : Nat) (h : OrcAt w' o' b ⟨ds, []⟩) => (show Calls Try.prog 12 #[ptr b] w' fun r w'' => r = .returned (.tuple #[.int .u64 (⟨ds, []⟩ : St).fresh, .int .u64 ((⟨ds, []⟩ : St).put .secret).fresh]) ∧ ∃ o'', OrcAt w'' o'' b (⟨ds, []⟩ : St).pair ∧ Mv [1] w' o' w'' o'' from by
    obtain ⟨ft, hr, ho⟩ := h
    refine (pair_any w' b ft ⟨ds, []⟩ hr (by simp)).mono ?_
    rintro r w'' ⟨rfl, hl⟩
    obtain ⟨h1, h2⟩ := OrcAt.left ho hl hr.room
    exact ⟨rfl, _, h1, h2⟩)
  have hP2 := fun (w' : World) (o' : Nat → Nat) (r : Nat) (h : ROrc w w' o' r ⟨ds, []⟩) => (show Calls Try.prog 13 #[ptr r] w' fun q w'' => q = .returned (.tuple #[.int .u64 (⟨ds, []⟩ : St).fresh, .int .u64 ((⟨ds, []⟩ : St).put .secret).fresh]) ∧ ∃ o'', ROrc w w'' o'' r (⟨ds, []⟩ : St).pair ∧ Mv [8] w' o' w'' o'' from by
    obtain ⟨fr, sb, hR, h1, h2, h3⟩ := h
    refine (rpair_any ⟨w, sb⟩ w' r fr ⟨ds, []⟩ hR (by simp)).mono ?_
    rintro q w'' ⟨rfl, hl⟩
    exact ⟨rfl, rorc_step (ks := []) hR h1 h2 h3 (fun k hk => by cases hk) hl⟩)
  generalize (⟨ds, []⟩ : St).pair = S1 at *
  generalize (⟨ds, []⟩ : St).fresh = s at *
  generalize ((⟨ds, []⟩ : St).put .secret).fresh = p at *
  have HP1 : Hid (∀ (w' : World) (o' : Nat → Nat) (b : Nat), OrcAt w' o' b ⟨ds, []⟩ → Calls Try.prog 12 #[ptr b] w' fun r w'' => r = .returned (.tuple #[.int .u64 s, .int .u64 p]) ∧ ∃ o'', OrcAt w'' o'' b S1 ∧ Mv [1] w' o' w'' o'') := hP1
  have HP2 : Hid (∀ (w' : World) (o' : Nat → Nat) (r : Nat), ROrc w w' o' r ⟨ds, []⟩ → Calls Try.prog 13 #[ptr r] w' fun q w'' => q = .returned (.tuple #[.int .u64 s, .int .u64 p]) ∧ ∃ o'', ROrc w w'' o'' r S1 ∧ Mv [8] w' o' w'' o'') := hP2
  have HNL : Hid (∀ w' b, Calls Try.prog 14 #[ptr b, .int .i64 1, .int .u64 p] w' fun r w'' => r = .returned (.tuple #[ptr w'.heap.size, .int .i64 0]) ∧ (∀ o j, LogIs w'' (newTo o w' j) j w'.heap.size b 1 p ⟨[], 0⟩) ∧ Below w'.heap.size w' w'') := fun w' b => by
    refine (newL_world w' b 1 p (by omega) (by omega)).mono ?_
    rintro r w'' ⟨rfl, rfl⟩
    exact ⟨rfl, fun o j => log_new j b 1 p (i64_small (by omega) (by omega)) HKey.out.up, balloc (Below.refl _ _) _⟩
  clear LI hv hdu hP1 hP2 g0 pa
  go_enter Try.func4, Try.ntmps4
  go_upto_region 8 with (first
    | (go_at_call 9; go_must (refine (Calls.mono HLI.out ?_); rintro q w0 ⟨rfl, hw0⟩; replace hw0 := hw0.symm; subst hw0))
    | (go_at_call 11; go_must (refine (new_any _ ds w HDv.out (by omega)).mono ?_; rintro q w1 ⟨b, rfl, ht1, hb1⟩; have HOA : Hid (OrcAt (w1.alloc (.cells #[.slice ad ds.length cd, .slice none 0 0] 31)) (newTo (newTo (fun _ => 0) w 1) w1 8) b ⟨ds, []⟩) := (show OrcAt _ _ _ _ from (OrcAt.fresh ht1).mv (Mv.of_below (I := []) 8 (balloc (Below.refl _ _) _)) (by simp)); have HRA : Hid (ROrc w (w1.alloc (.cells #[.slice ad ds.length cd, .slice none 0 0] 31)) (newTo (newTo (fun _ => 0) w 1) w1 8) w1.heap.size ⟨ds, []⟩) := rorc_new hb1 HDv.out (fun k hk => newTo_old hk); have HB1 : Hid (Below w.heap.size w w1) := hb1; clear ht1 hb1))
    | (go_at_call 12; go_must (refine (HP1.out _ _ b HOA.out).mono ?_; rintro q w2 ⟨rfl, o2, hO2, hM2⟩; have HO2 : Hid (OrcAt w2 o2 b S1) := hO2; have HM2 : Hid (Mv [1] (w1.alloc (.cells #[.slice ad ds.length cd, .slice none 0 0] 31)) (newTo (newTo (fun _ => 0) w 1) w1 8) w2 o2) := hM2; clear hO2 hM2))
    | (go_at_call 13; go_must (refine (HP2.out w2 o2 w1.heap.size (HRA.out.mv HM2.out (by simp) (by simp))).mono ?_; rintro q w3 ⟨rfl, o3, hO3, hM3⟩; have HO3 : Hid (ROrc w w3 o3 w1.heap.size S1) := hO3; have HM3 : Hid (Mv [8] w2 o2 w3 o3) := hM3; clear hO3 hM3))
    | (go_at_call 14; go_must (refine (HNL.out w3 b).mono ?_; rintro q w4 ⟨rfl, hl4, hb4⟩)))
  obtain ⟨o5, hB5⟩ := both_new (ds := ds) (dv := .slice ad ds.length cd) HB1.out HO2.out HM2.out HO3.out HM3.out (fun o => hl4 o 3) hb4 HKey.out HFine.out
  have HB5 : Hid (BG w (w4.alloc (.cells #[.int .i64 1, .int .u64 p, .slice none 0 0] 42)) o5 b w3.heap.size w1.heap.size w4.heap.size s p S1 S1 ⟨[], 0⟩) := hB5
  clear hB5 hl4 hb4 HB1 HO2 HM2 HO3 HM3 HOA HRA HP1 HP2 HNL HLI HDv HKey HFine
  generalize w4.alloc (.cells #[.int .i64 1, .int .u64 p, .slice none 0 0] 42) = w5 at *
  obtain ⟨la, hla⟩ : ∃ la, la = w3.heap.size := ⟨_, rfl⟩
  obtain ⟨lx, hlx⟩ : ∃ lx, lx = w4.heap.size := ⟨_, rfl⟩
  obtain ⟨rr, hrr⟩ : ∃ rr, rr = w1.heap.size := ⟨_, rfl⟩
  rw [← hla, ← hlx, ← hrr] at HB5
  rw [← hla, ← hlx, ← hrr]
  clear hla hlx hrr
  go_wp2_with fail
  go_loopw [16] (fun s16 wr => ∃ (i : Nat) (S T : St) (L : Lg) (o : Nat → Nat), s16 = .int .i64 i ∧ i ≤ qs.length ∧ Hid (BG w wr o b la rr lx s p S T L) ∧ Hid (S.rows.length ≤ 2 + 2 * i ∧ L.es.length ≤ i)) (fun s16 _ => qs.length - (intOf s16).toNat)
  case atStart => exact ⟨0, S1, S1, ⟨[], 0⟩, o5, rfl, by omega, HB5, ⟨HLen.out, by simp⟩⟩
  case round =>
    obtain ⟨i, S, T, L, o, rfl, hi, HB, HRw⟩ := hrel
    clear HB5 HLen
    by_cases hi8 : i < qs.length
    · obtain ⟨q, hq⟩ : ∃ q, qs[i]? = some q := ⟨_, List.getElem?_eq_getElem hi8⟩
      obtain ⟨g, off, ea, hc⟩ := HV.out.at hq
      subst ea
      have HOkq : Hid (OprOk w q) := HV.out.1 q (List.mem_of_getElem? hq)
      have HShort : Hid (q.1.b.length ≤ 1200) := (HSh.out q (List.mem_of_getElem? hq)).1
      obtain ⟨q, x, y⟩ := q
      dsimp only at *
      unfold OprOk at HOkq
      dsimp only at HOkq
      obtain ⟨ax, cx, hxx⟩ := HOkq.out.2.2.2.2.2.2.1.len
      subst hxx
      clear hq
      have HD : Hid (∀ w', Below w.heap.size w w' → ∀ j u, (oc q (.slice ax q.b.length cx) y)[j]? = some u → w'.cell? ⟨g, off + i * 14 + j, none⟩ = some u) := hc
      have hrw := HRw.out
      have HIs : Hid (∀ (wa : World) (oa : Nat → Nat), G1 w wa oa b la s p S L → Kp0 wa oa (.slice ax q.b.length cx) q.b → Calls Try.prog 19 #[ptr la, .int .u64 s, .agg #[.int .i64 q.t, .int .i64 1], .int .i64 q.n, .slice ax q.b.length cx] wa fun r w' => ∃ e k S' L' y o', r = .returned (.tuple #[ev e y, .int .i64 k]) ∧ issueM S 1 s L q.t 1 q.n q.b = ((e, k), S', L') ∧ Issued S p s L q.t 1 q.n q.b e k S' L' ∧ G1 w w' o' b la s p S' L' ∧ Kp0 w' o' y e.b ∧ Mv [1, 3] wa oa w' o') := fun wa oa hg hk => hg.issue' (by omega) HOkq.out.2.1 (i64_small (by omega) (by omega)) HOkq.out.2.2.1 hk (by have := HShort.out; omega)
      have HRi : Hid (∀ (wb : World) (ob : Nat → Nat) (e : Ent) (k : Int) (S' : St) (L' : Lg), ROrc w wb ob rr T → RLogIs wb ob 5 lx 1 p L.es → Kp0 wb ob (.slice ax q.b.length cx) q.b → issueM S 1 s L q.t 1 q.n q.b = ((e, k), S', L') → Calls Try.prog 20 #[ptr lx, ptr rr, .int .u64 s, .agg #[.int .i64 q.t, .int .i64 1], .int .i64 q.n, .slice ax q.b.length cx] wb fun q w' => ∃ y T' o', q = .returned (.tuple #[ev e y, .int .i64 k]) ∧ Kp0 w' o' y e.b ∧ ROrc w w' o' rr T' ∧ RLogIs w' o' 5 lx 1 p L'.es ∧ Pend T' S' s p L' ∧ Mv [8, 5] wb ob w' o') := fun wb ob e k S' L' h1 h2 h3 h4 => rissue_pend HB.out.g.key HB.out.g.whole HB.out.pend h1 h2 (by have := HB.out.pend.len; omega) (by omega) HOkq.out.2.1 HOkq.out.2.2.1 h3 h4
      have HKx : Hid (Kp0 w (fun _ => 0) (.slice ax q.b.length cx) q.b) := kp0_in HOkq.out.2.2.2.2.2.2.1
      clear hc hrw
      go_upto_region 11 with fail
      have d1 := fun z : WIn (fun w' => Below w.heap.size w w') => HD.out z.w z.ok 1 _ rfl
      have d2 := fun z : WIn (fun w' => Below w.heap.size w w') => HD.out z.w z.ok 2 _ rfl
      have d3 := fun z : WIn (fun w' => Below w.heap.size w w') => HD.out z.w z.ok 3 _ rfl
      have ne : Nonempty (WIn (fun w' => Below w.heap.size w w')) := ⟨⟨w, Below.refl _ _⟩⟩
      have HBd : Hid (BG w wr.drew o b la rr lx s p S T L) := HB.out.mv (mv_drewn (I := []) wr o) (by simp)
      refine wp_region_ord (C := fun w' => ∃ z : WIn (fun w' => Below w.heap.size w w'), w' = z.w) [(false, 0), (false, 1), (false, 2), (false, 3), (false, 4), (false, 5), (false, 6), (false, 7), (false, 8), (false, 9), (false, 10), (false, 11), (false, 12), (false, 13), (false, 14), (false, 15), (false, 16), (false, 17), (true, 18)] (by kernel_rfl) (by kernel_rfl) ⟨⟨wr.drew, HBd.out.g.bel⟩, rfl⟩ ?_
      generalize wr.drew = wd at *
      iterate 18 (refine ord_still rfl rfl ?_; go_big_quiet_step (fail); refine wpQuiet_nil ?_)
      refine ord_mem rfl rfl ?_
      go_simp
      refine (HIs.out wd o HBd.out.g (HKx.out.mv HBd.out.g.mv (by simp))).mono ?_
      rintro r6 w6 ⟨e, k, S', L', y6, o6, rfl, hM6, hI6, hG6, _, hm6⟩
      have HM6 : Hid (issueM S 1 s L q.t 1 q.n q.b = ((e, k), S', L')) := hM6
      have HI6 : Hid (Issued S p s L q.t 1 q.n q.b e k S' L') := hI6
      have HG6 : Hid (G1 w w6 o6 b la s p S' L') := hG6
      have HO6 : Hid (ROrc w w6 o6 rr T) := HBd.out.orc.mv hm6 (by simp) (by simp)
      have HX6 : Hid (RLogIs w6 o6 5 lx 1 p L.es) := HBd.out.log.mv hm6 (by simp) (by simp)
      clear hM6 hI6 hG6 hm6
      refine ⟨⟨⟨w6, HG6.out.bel⟩, rfl⟩, ?_⟩
      refine ord_end ?_
      go_upto_region 12 with fail
      have HM6d : Hid (Mv [] w6 o6 w6.drew o6) := mv_drewn w6 o6
      refine wp_region_ord (C := fun w' => ∃ z : WIn (fun w' => Below w.heap.size w w'), w' = z.w) [(false, 0), (false, 1), (false, 2), (false, 3), (false, 4), (false, 5), (false, 6), (false, 7), (false, 8), (false, 9), (false, 10), (false, 11), (false, 12), (false, 13), (false, 14), (false, 15), (false, 16), (false, 17), (false, 18), (true, 19)] (by kernel_rfl) (by kernel_rfl) ⟨⟨w6.drew, HG6.out.bel.drew⟩, rfl⟩ ?_
      have HGd : Hid (G1 w w6.drew o6 b la s p S' L') := g1_drew HG6.out
      have HOd : Hid (ROrc w w6.drew o6 rr T) := HO6.out.mv HM6d.out (by simp) (by simp)
      have HXd : Hid (RLogIs w6.drew o6 5 lx 1 p L.es) := HX6.out.mv HM6d.out (by simp) (by simp)
      generalize w6.drew = we at *
      iterate 19 (refine ord_still rfl rfl ?_; go_big_quiet_step (fail); refine wpQuiet_nil ?_)
      refine ord_mem rfl rfl ?_
      go_simp
      refine (HRi.out we o6 e k S' L' HOd.out HXd.out (HKx.out.mv HGd.out.mv (by simp)) HM6.out).mono ?_
      rintro r7 w7 ⟨y7, T', o7, rfl, _, h1, h2, h3, h4⟩
      have HB7 : Hid (BG w w7 o7 b la rr lx s p S' T' L') := ⟨HGd.out.mvd h4 (by simp) (by simp) (by simp) (by simp), h1, h2, h3⟩
      clear h1 h2 h3 h4
      refine ⟨⟨⟨w7, HB7.out.g.bel⟩, rfl⟩, ?_⟩
      refine ord_end ?_
      clear d1 d2 d3 ne
      go_wp2_with fail
      go_roundw
      case rel =>
        refine ⟨i + 1, S', T', L', o7, by go_num, by omega, HB7, ?_⟩
        have hr := HRw.out
        have hl := HI6.out.len
        refine ⟨by omega, ?_⟩
        by_cases hk : k = 0
        · rw [(HI6.out.yes hk).es]; simp; omega
        · rw [(HI6.out.no hk).2.2]; omega
      case measure => simp [intOf]; omega
    · obtain rfl : i = qs.length := by omega
      obtain ⟨vx, ps, hA⟩ := HB.out.log
      obtain ⟨av, cv', hvv, hcv1, _⟩ := hA.row.slice
      subst hvv
      have HAx : Hid (RLogAt wr o 5 lx 1 p L.es (.slice av ps.length cv') ps) := hA
      clear hA
      have HPl : Hid (ps.length = L.es.length) := HAx.out.len.symm
      have q2 := (HAx.out.blk.alloc (.cells #[] 47)).cell 2 _ rfl
      have HR0 : Hid ((wr.alloc (.cells #[] 47)).ownsRow 0 47 8 (.slice (some ⟨wr.heap.size, 0, none⟩) 0 0) ([] : List (Ent × Value)).length (flatE [])) := row_none wr
      have HRx : Hid (RowE (wr.alloc (.cells #[] 47)) (.slice av ps.length cv') ps) := (show RowE _ _ _ from (rowE_c HAx.out.row).below (balloc (Below.refl _ _) _))
      have HOne : Hid (∀ u ∈ flatE ps, u.oneCell' = true) := HAx.out.ents.one
      have HPs : Hid (ps.length ≤ 200) := HAx.out.few
      go_upto_region 14 with (at_builtin; go_must (refine wpList_append_ents rfl (.tmp 93) (.tmp 97) rfl (.slice (some ⟨wr.heap.size, 0, none⟩) 0 0) [] rfl HR0.out _ ps rfl HRx.out HOne.out (by have := HPs.out; simp; omega) ?_; intro v2 w6 hrow hg hwh; rw [List.nil_append] at hrow; have HAm : Hid (AllAt w6 (newTo o wr 7) v2 ps ∧ Mv [7] wr o w6 (newTo o wr 7)) := all_new HAx.out.ents hrow hg hwh; obtain ⟨va, vc, hv2, hv2b, hv2c⟩ := slice_of_own hrow; subst hv2; clear hrow hg hwh))
      generalize newTo o wr 7 = o6 at *
      have HB6 : Hid (BG w w6 o6 b la rr lx s p S T L) := HB.out.mv HAm.out.2 (by simp)
      clear HB HR0 HRx HOne q2
      by_cases hin : 0 ≤ turn ∧ turn < ps.length
      · obtain ⟨kk, hkk⟩ : ∃ kk : Nat, turn = kk := ⟨turn.toNat, by omega⟩
        subst hkk
        have hkl : kk < ps.length := by omega
        have hkl' : (kk : Int) < ps.length := hin.2
        have hk0 : 0 ≤ (kk : Int) := hin.1
        clear hin
        obtain ⟨g2, hg2⟩ := row_addr HAm.out.1.row (by omega)
        subst hg2
        obtain ⟨q, hq⟩ : ∃ q, ps[kk]? = some q := ⟨_, List.getElem?_eq_getElem hkl⟩
        have hmem : q.1 ∈ L.es := by rw [← HAx.out.es]; exact List.mem_map.2 ⟨q, List.mem_of_getElem? hq, rfl⟩
        have hEq := HAm.out.1.ents q (List.mem_of_getElem? hq)
        obtain ⟨jj, hjj⟩ := HB6.out.g.whole.mem hmem
        have hz := (check_zero _ _ _ _ _).1 (HB6.out.g.whole.each jj q.1 hjj).1
        have htok := turn_ok hEq.1 hz.1 field
        have hsh : q.1.b.length ≤ 90000 := by have := hz.1.2.2.2.2.2.2; omega
        have HTu0 := fun (wa : World) (oa : Nat → Nat) (h : Kp0 wa oa q.2 q.1.b) => turned_any h hsh field
        have HHas0 : ∀ y, (ps.set kk (turnE q.1 field, y)).map (·.1) = L.es ∨ ∃ k e f, L.es[k]? = some e ∧ (ps.set kk (turnE q.1 field, y)).map (·.1) = L.es.set k (turnE e f) := fun y => .inr ⟨kk, q.1, field, by rw [← HAx.out.es, List.getElem?_map, hq]; rfl, by rw [List.map_set, HAx.out.es]⟩
        have hEk : EOk (turnE q.1 field) := htok.1
        have z0 := row_cell HAm.out.1.row hq rfl 0 _ rfl
        have z1 := row_cell HAm.out.1.row hq rfl 1 _ rfl
        have z2 := row_cell HAm.out.1.row hq rfl 2 _ rfl
        have z3 := row_cell HAm.out.1.row hq rfl 3 _ rfl
        have z4 := row_cell HAm.out.1.row hq rfl 4 _ rfl
        have z5 := row_cell HAm.out.1.row hq rfl 5 _ rfl
        have z6 := row_cell HAm.out.1.row hq rfl 6 _ rfl
        have z7 := row_cell HAm.out.1.row hq rfl 7 _ rfl
        simp only [Nat.add_zero] at z0
        have HQ0 : Hid (ps[kk]? = some q) := hq
        have HKq : Hid (Kp0 w6 o6 q.2 q.1.b) := hEq.2
        generalize turnE q.1 field = e2 at *
        have HEk : Hid (EOk e2) := hEk
        have HHas1 : Hid (∀ y, (ps.set kk (e2, y)).map (·.1) = L.es ∨ ∃ k e f, L.es[k]? = some e ∧ (ps.set kk (e2, y)).map (·.1) = L.es.set k (turnE e f)) := HHas0
        obtain ⟨e, x⟩ := q
        dsimp only at *
        obtain ⟨ax, cx, hxx⟩ := HKq.out.1.len
        subst hxx
        unfold ev at HTu0
        have HTu : Hid (∀ (wa : World) (oa : Nat → Nat), Kp0 wa oa (.slice ax e.b.length cx) e.b → Calls Try.prog 22 #[.agg #[.int .i64 e.w, .int .i64 e.i, .int .u64 e.p, .int .i64 e.t, .int .i64 e.u, .int .i64 e.n, .slice ax e.b.length cx, .int .u64 e.g], .int .i64 field] wa fun r w' => ∃ y, r = .returned (.agg #[.int .i64 e2.w, .int .i64 e2.i, .int .u64 e2.p, .int .i64 e2.t, .int .i64 e2.u, .int .i64 e2.n, y, .int .u64 e2.g]) ∧ Kp0 w' (newTo oa wa 0) y e2.b ∧ Below wa.heap.size wa w') := HTu0
        clear HTu0 HHas0 hEk htok hz hjj hEq hmem hq hsh
        go_upto_region 16 with (go_at_call 22; go_must (refine (HTu.out w6 o6 HKq.out).mono ?_; rintro r w7 ⟨y2, rfl, hk7, hb7⟩; obtain ⟨ay2, cy2, hyy⟩ := hk7.1.len; subst hyy; have HA7 : Hid (AllAt w7 (newTo o6 w6 0) (.slice (some ⟨g2, 0, none⟩) ps.length vc) ps) := HAm.out.1.mv (Mv.of_below (I := []) 0 hb7) (by simp) (by simp); have HB7 : Hid (BG w w7 (newTo o6 w6 0) b la rr lx s p S T L) := HB6.out.below hb7; have HK7 : Hid (Kp0 w7 (newTo o6 w6 0) (.slice ay2 e2.b.length cy2) e2.b) := hk7; clear hk7 hb7 z0 z1 z2 z3 z4 z5 z6 z7; have R2 := HA7.out.row; have z0 := row_cell R2 HQ0.out rfl 0 _ rfl; have z1 := row_cell R2 HQ0.out rfl 1 _ rfl; have z2 := row_cell R2 HQ0.out rfl 2 _ rfl; have z3 := row_cell R2 HQ0.out rfl 3 _ rfl; have z4 := row_cell R2 HQ0.out rfl 4 _ rfl; have z5 := row_cell R2 HQ0.out rfl 5 _ rfl; have z6 := row_cell R2 HQ0.out rfl 6 _ rfl; have z7 := row_cell R2 HQ0.out rfl 7 _ rfl; simp only [Nat.add_zero] at z0; have f0 := R2.frozenAt (kk * 8); have f1 := R2.frozenAt (kk * 8 + 1); have f2 := R2.frozenAt (kk * 8 + 2); have f3 := R2.frozenAt (kk * 8 + 3); have f4 := R2.frozenAt (kk * 8 + 4); have f5 := R2.frozenAt (kk * 8 + 5); have f6 := R2.frozenAt (kk * 8 + 6); have f7 := R2.frozenAt (kk * 8 + 7); clear R2))
        have HS := all_set HA7.out hkl HEk.out HK7.out
        have HB8 := HB7.out.mv HS.2 (by simp)
        have HHas := HHas1.out (.slice ay2 e2.b.length cy2)
        clear z0 z1 z2 z3 z4 z5 z6 z7 f0 f1 f2 f3 f4 f5 f6 f7
        have hsl : (ps.set kk (e2, (.slice ay2 e2.b.length cy2 : Value))).length = ps.length := List.length_set
        generalize hPZ : ps.set kk (e2, (.slice ay2 e2.b.length cy2 : Value)) = PZ at *
        rw [← hsl]
        rw [← hsl] at HS
        generalize newTo o6 w6 0 = o7 at *
        generalize ((((((((w7.setCell ⟨g2, kk * 8, none⟩ (.int .i64 e2.w)).setCell ⟨g2, kk * 8 + 1, none⟩ (.int .i64 e2.i)).setCell ⟨g2, kk * 8 + 2, none⟩ (.int .u64 e2.p)).setCell ⟨g2, kk * 8 + 3, none⟩ (.int .i64 e2.t)).setCell ⟨g2, kk * 8 + 4, none⟩ (.int .i64 e2.u)).setCell ⟨g2, kk * 8 + 5, none⟩ (.int .i64 e2.n)).setCell ⟨g2, kk * 8 + 6, none⟩ (.slice ay2 e2.b.length cy2)).setCell ⟨g2, kk * 8 + 7, none⟩ (.int .u64 e2.g)) = wz at *
        have HAz : Hid (AllAt wz o7 (.slice (some ⟨g2, 0, none⟩) PZ.length vc) PZ) := HS.1
        have HBz : Hid (BG w wz o7 b la rr lx s p S T L) := HB8
        have HHas' : Hid (PZ.map (·.1) = L.es ∨ ∃ k e f, L.es[k]? = some e ∧ PZ.map (·.1) = L.es.set k (turnE e f)) := HHas
        clear HS HB8 HHas HA7 HB7 HK7 hsl hPZ
        have HHas := HHas'
        clear HHas'
        obtain ⟨N, K, hw27, hw28⟩ := both_whole HBz.out (by have := HRw.out; omega) (by have := HRw.out; omega) HHas.out (rowE_own HAz.out.row) HAz.out.ents (fun k hk => ⟨HAz.out.own k hk, (HAz.out.row.lt k hk).2⟩)
        have H27 : Hid (Calls Try.prog 27 #[ptr b, .int .u64 p, .slice (some ⟨g2, 0, none⟩) PZ.length vc] wz fun q w' => q = .returned (.tuple #[.int .i64 N, .int .i64 K]) ∧ ∃ o', ROrc w w' o' rr T ∧ RowE w' (.slice (some ⟨g2, 0, none⟩) PZ.length vc) PZ ∧ Ents w' o' PZ ∧ (∀ k, (Value.slice (some ⟨g2, 0, none⟩) PZ.length vc).ownBlock = some k → o' k ≠ 8) ∧ Mv [1, 3, 4, 5, 6, 7, 8, 9] w (fun _ => 0) w' o') := hw27
        have H28 : Hid (∀ (w' : World) (o' : Nat → Nat), ROrc w w' o' rr T → RowE w' (.slice (some ⟨g2, 0, none⟩) PZ.length vc) PZ → Ents w' o' PZ → (∀ k, (Value.slice (some ⟨g2, 0, none⟩) PZ.length vc).ownBlock = some k → o' k ≠ 8) → Calls Try.prog 28 #[ptr rr, .int .u64 p, .slice (some ⟨g2, 0, none⟩) PZ.length vc] w' fun q w'' => q = .returned (.tuple #[.int .i64 N, .int .i64 K]) ∧ ∃ o'', ROrc w w'' o'' rr T ∧ Mv [8] w' o' w'' o'') := hw28
        clear hw27 hw28 HBz HHas HAz
        go_wp2_with (first
          | (go_at_call 27; go_must (refine (Calls.mono H27.out ?_); rintro q8 w8 ⟨rfl, o8, hA8, hB8, hC8, hD8, hM8⟩; have H28' := H28.out w8 o8 hA8 hB8 hC8 hD8; have HM8 : Hid (Mv [1, 3, 4, 5, 6, 7, 8, 9] w (fun _ => 0) w8 o8) := hM8; have H28a : Hid (Calls Try.prog 28 #[ptr rr, .int .u64 p, .slice (some ⟨g2, 0, none⟩) PZ.length vc] w8 fun q w'' => q = .returned (.tuple #[.int .i64 N, .int .i64 K]) ∧ ∃ o'', ROrc w w'' o'' rr T ∧ Mv [8] w8 o8 w'' o'') := H28'; clear H28' hA8 hB8 hC8 hD8 hM8))
          | (go_at_call 28; go_must (refine (Calls.mono H28a.out ?_); rintro q9 w9 ⟨rfl, o9, hA9, hM9⟩; have HM9 : Hid (Below w.heap.size w w9) := (HM8.out.trans (hM9.widen (by simp))).all0 (by simp); clear hA9 hM9))
          | (go_at_call 10; go_must (refine (alive_any _).mono ?_; rintro q10 w10 ⟨rfl, hb10⟩)))
        go_ret
        exact ⟨rfl, bnext HM9.out hb10⟩
      · have hg1 : Hid (¬ (0 ≤ turn ∧ turn < ps.length)) := hin
        clear hin
        have HHas : Hid (ps.map (·.1) = L.es ∨ ∃ k e f, L.es[k]? = some e ∧ ps.map (·.1) = L.es.set k (turnE e f)) := .inl HAx.out.es
        have HAz : Hid (AllAt w6 o6 (.slice va ps.length vc) ps) := HAm.out.1
        have HBz := HB6
        clear HB6 HAm
        by_cases h0 : 0 ≤ turn
        · have h1 : ¬ turn < (ps.length : Int) := fun c => hg1.out ⟨h0, c⟩
          obtain ⟨N, K, hw27, hw28⟩ := both_whole HBz.out (by have := HRw.out; omega) (by have := HRw.out; omega) HHas.out (rowE_own HAz.out.row) HAz.out.ents (fun k hk => ⟨HAz.out.own k hk, (HAz.out.row.lt k hk).2⟩)
          have H27 : Hid (Calls Try.prog 27 #[ptr b, .int .u64 p, .slice va ps.length vc] w6 fun q w' => q = .returned (.tuple #[.int .i64 N, .int .i64 K]) ∧ ∃ o', ROrc w w' o' rr T ∧ RowE w' (.slice va ps.length vc) ps ∧ Ents w' o' ps ∧ (∀ k, (Value.slice va ps.length vc).ownBlock = some k → o' k ≠ 8) ∧ Mv [1, 3, 4, 5, 6, 7, 8, 9] w (fun _ => 0) w' o') := hw27
          have H28 : Hid (∀ (w' : World) (o' : Nat → Nat), ROrc w w' o' rr T → RowE w' (.slice va ps.length vc) ps → Ents w' o' ps → (∀ k, (Value.slice va ps.length vc).ownBlock = some k → o' k ≠ 8) → Calls Try.prog 28 #[ptr rr, .int .u64 p, .slice va ps.length vc] w' fun q w'' => q = .returned (.tuple #[.int .i64 N, .int .i64 K]) ∧ ∃ o'', ROrc w w'' o'' rr T ∧ Mv [8] w' o' w'' o'') := hw28
          clear hw27 hw28 HBz HHas HAz
          go_wp2_with (first
            | (go_at_call 27; go_must (refine (Calls.mono H27.out ?_); rintro q8 w8 ⟨rfl, o8, hA8, hB8, hC8, hD8, hM8⟩; have H28' := H28.out w8 o8 hA8 hB8 hC8 hD8; have HM8 : Hid (Mv [1, 3, 4, 5, 6, 7, 8, 9] w (fun _ => 0) w8 o8) := hM8; have H28a : Hid (Calls Try.prog 28 #[ptr rr, .int .u64 p, .slice va ps.length vc] w8 fun q w'' => q = .returned (.tuple #[.int .i64 N, .int .i64 K]) ∧ ∃ o'', ROrc w w'' o'' rr T ∧ Mv [8] w8 o8 w'' o'') := H28'; clear H28' hA8 hB8 hC8 hD8 hM8))
            | (go_at_call 28; go_must (refine (Calls.mono H28a.out ?_); rintro q9 w9 ⟨rfl, o9, hA9, hM9⟩; have HM9 : Hid (Below w.heap.size w w9) := (HM8.out.trans (hM9.widen (by simp))).all0 (by simp); clear hA9 hM9))
            | (go_at_call 10; go_must (refine (alive_any _).mono ?_; rintro q10 w10 ⟨rfl, hb10⟩)))
          go_ret
          exact ⟨rfl, bnext HM9.out hb10⟩
        · have h1 : turn < 0 := by omega
          obtain ⟨N, K, hw27, hw28⟩ := both_whole HBz.out (by have := HRw.out; omega) (by have := HRw.out; omega) HHas.out (rowE_own HAz.out.row) HAz.out.ents (fun k hk => ⟨HAz.out.own k hk, (HAz.out.row.lt k hk).2⟩)
          have H27 : Hid (Calls Try.prog 27 #[ptr b, .int .u64 p, .slice va ps.length vc] w6 fun q w' => q = .returned (.tuple #[.int .i64 N, .int .i64 K]) ∧ ∃ o', ROrc w w' o' rr T ∧ RowE w' (.slice va ps.length vc) ps ∧ Ents w' o' ps ∧ (∀ k, (Value.slice va ps.length vc).ownBlock = some k → o' k ≠ 8) ∧ Mv [1, 3, 4, 5, 6, 7, 8, 9] w (fun _ => 0) w' o') := hw27
          have H28 : Hid (∀ (w' : World) (o' : Nat → Nat), ROrc w w' o' rr T → RowE w' (.slice va ps.length vc) ps → Ents w' o' ps → (∀ k, (Value.slice va ps.length vc).ownBlock = some k → o' k ≠ 8) → Calls Try.prog 28 #[ptr rr, .int .u64 p, .slice va ps.length vc] w' fun q w'' => q = .returned (.tuple #[.int .i64 N, .int .i64 K]) ∧ ∃ o'', ROrc w w'' o'' rr T ∧ Mv [8] w' o' w'' o'') := hw28
          clear hw27 hw28 HBz HHas HAz
          go_wp2_with (first
            | (go_at_call 27; go_must (refine (Calls.mono H27.out ?_); rintro q8 w8 ⟨rfl, o8, hA8, hB8, hC8, hD8, hM8⟩; have H28' := H28.out w8 o8 hA8 hB8 hC8 hD8; have HM8 : Hid (Mv [1, 3, 4, 5, 6, 7, 8, 9] w (fun _ => 0) w8 o8) := hM8; have H28a : Hid (Calls Try.prog 28 #[ptr rr, .int .u64 p, .slice va ps.length vc] w8 fun q w'' => q = .returned (.tuple #[.int .i64 N, .int .i64 K]) ∧ ∃ o'', ROrc w w'' o'' rr T ∧ Mv [8] w8 o8 w'' o'') := H28'; clear H28' hA8 hB8 hC8 hD8 hM8))
            | (go_at_call 28; go_must (refine (Calls.mono H28a.out ?_); rintro q9 w9 ⟨rfl, o9, hA9, hM9⟩; have HM9 : Hid (Below w.heap.size w w9) := (HM8.out.trans (hM9.widen (by simp))).all0 (by simp); clear hA9 hM9))
            | (go_at_call 10; go_must (refine (alive_any _).mono ?_; rintro q10 w10 ⟨rfl, hb10⟩)))
          go_ret
          exact ⟨rfl, bnext HM9.out hb10⟩

theorem whole_walk2 (dv : Value) (ds : List Int) (v : Value) (qs : List (Opr × Value × Value)) (turn field : Int) (w : World) (hd : RdU w dv ds) (hv : RowO w v qs) (h3 : I64 turn) (h4 : I64 field) : Calls Try.prog 4 #[dv, v, .int .i64 turn, .int .i64 field] w fun r w' => r = .returned (.bool true) ∧ Below w.heap.size w w' := whole_walk dv ds v qs turn field w hd hv
end Go.Proofs.Yteedjdflojfhmaa
