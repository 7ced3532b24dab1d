/-
  The law of what issuing and accepting answer: its walk.
-/
import Derived.Test.YteedjdflojfhmaaPx
namespace Go.Proofs.Yteedjdflojfhmaa
set_option linter.unusedVariables false
set_option linter.unusedSimpArgs false
set_option synthInstance.maxSize 20000
set_option maxHeartbeats 2000000
set_option maxRecDepth 20000
open Go.RowKit Go.Maps

theorem play_new {w0 w1 w2 w3 w4 w5 : World} {o2 o3 : Nat → Nat} {b : Nat} {s p : Int} {S1 : St} {dv : Value} (hb1 : Below w0.heap.size w0 w1) (h2 : OrcAt w2 o2 b S1) (m2 : Mv [1] (w1.alloc (.cells #[dv, .slice none 0 0] 31)) (newTo (newTo (fun _ => 0) w0 1) w1 8) w2 o2)
    (h3 : ROrc w0 w3 o3 w1.heap.size S1) (m3 : Mv [8] w2 o2 w3 o3) (hl4 : ∀ o j, LogIs w4 (newTo o w3 j) j w3.heap.size b 1 p ⟨[], 0⟩) (hb4 : Below w3.heap.size w3 w4) (hl5 : ∀ o j, LogIs w5 (newTo o w4 j) j w4.heap.size b 1 p ⟨[], 0⟩) (hb5 : Below w4.heap.size w4 w5) (K : Keyed' S1 s p) :
    ∃ o, PX w0 ((w5.alloc (.cells #[.int .i64 1, .int .u64 p, .slice none 0 0] 42)).alloc (.cells #[.int .i64 1, .int .u64 p, .slice none 0 0] 42)) o b w3.heap.size w4.heap.size w1.heap.size w5.heap.size (w5.heap.size + 1) s p S1 S1 ⟨[], 0⟩ [] ⟨[], 0⟩ [] := by
  have m4 : Mv [] w3 o3 w4 (newTo o3 w3 3) := Mv.of_below 3 hb4
  have m5 : Mv [] w4 (newTo o3 w3 3) w5 (newTo (newTo o3 w3 3) w4 4) := Mv.of_below 4 hb5
  have m6 : Mv [] w5 (newTo (newTo o3 w3 3) w4 4) (w5.alloc (.cells #[.int .i64 1, .int .u64 p, .slice none 0 0] 42)) (newTo (newTo (newTo o3 w3 3) w4 4) w5 5) := Mv.of_below 5 (balloc (Below.refl _ _) _)
  have hX := rlog_new (w := w5) (o := newTo (newTo o3 w3 3) w4 4) 5 1 p (i64_small (by omega) (by omega)) K.up
  have hs6 : (w5.alloc (.cells #[.int .i64 1, .int .u64 p, .slice none 0 0] 42)).heap.size = w5.heap.size + 1 := by simp
  have L4 := (hl4 o3 3).mv m5 (by simp) (by simp)
  have L5 := hl5 (newTo o3 w3 3) 4
  generalize newTo (newTo (newTo o3 w3 3) w4 4) w5 5 = o6 at *
  generalize w5.alloc (.cells #[.int .i64 1, .int .u64 p, .slice none 0 0] 42) = w6 at *
  have m7 : Mv [] w6 o6 (w6.alloc (.cells #[.int .i64 1, .int .u64 p, .slice none 0 0] 42)) (newTo o6 w6 6) := Mv.of_below 6 (balloc (Below.refl _ _) _)
  have hY := rlog_new (w := w6) (o := o6) 6 1 p (i64_small (by omega) (by omega)) K.up
  rw [hs6] at hY
  have m46 : Mv [] w4 _ _ _ := (m5.trans m6).trans m7
  refine ⟨newTo o6 w6 6, ⟨((h2.mv m3 (by simp)).mv m4 (by simp)).mv m46 (by simp), (L4.mv m6 (by simp) (by simp)).mv m7 (by simp) (by simp), K, whole_nil K.pub, ?_⟩, ⟨(L5.mv m6 (by simp) (by simp)).mv m7 (by simp) (by simp), whole_nil K.pub⟩, (h3.mv m4 (by simp) (by simp)).mv m46 (by simp) (by simp), hX.mv m7 (by simp) (by simp), hY⟩
  exact (((((Mv.of_below 1 hb1).trans (Mv.of_below 8 (balloc (Below.refl _ _) _))).trans (m2.widen (by simp))).trans (m3.widen (by simp))).trans (m4.widen (by simp))).trans (m46.widen (by simp))

/-- A round: the step that came in, and the entry that is handed on, in blocks of the law's own. -/
structure RD (w0 w1 : World) (o1 : Nat → Nat) (b la lb r lx ly : Nat) (s p : Int) (S : St) (L M : Lg) (nb : Nat) (cs es : List Value) : Prop where
  px : PX w0 w1 o1 b la lb r lx ly s p S S L L.es M M.es
  op : Blk w1 nb 49 cs
  eb : Blk w1 (nb + 1) 47 es
  opo : o1 nb = 9
  ebo : o1 (nb + 1) = 7
theorem rd_new {w0 wr : World} {o : Nat → Nat} {b la lb r lx ly : Nat} {s p : Int} {S : St} {L M : Lg} (h : PX w0 wr o b la lb r lx ly s p S S L L.es M M.es) (cs es : List Value) : ∃ o1, RD w0 ((wr.alloc (.cells cs.toArray 49)).alloc (.cells es.toArray 47)) o1 b la lb r lx ly s p S L M wr.heap.size cs es ∧ Mv [] wr o ((wr.alloc (.cells cs.toArray 49)).alloc (.cells es.toArray 47)) o1 := by
  have m : Mv [] wr o ((wr.alloc (.cells cs.toArray 49)).alloc (.cells es.toArray 47)) (newBy o wr (fun k => if k = wr.heap.size then 9 else 7)) := Mv.of_turn' (ft := []) _ (Turn.of_below (balloc (balloc (Below.refl _ _) _) _)) (fun k hk => by cases hk)
  refine ⟨_, ⟨h.mv m (by simp), (blk_new wr cs 49).alloc _, ?_, ?_, ?_⟩, m⟩
  · have := blk_new (wr.alloc (.cells cs.toArray 49)) es 47
    simpa using this
  · rw [newBy_new (Nat.le_refl _)]; simp
  · rw [newBy_new (by omega)]; simp

theorem RD.opAt {I : List Nat} {w0 w1 w' : World} {o1 o' : Nat → Nat} {b la lb r lx ly : Nat} {s p : Int} {S : St} {L M : Lg} {nb : Nat} {cs es : List Value} (h : RD w0 w1 o1 b la lb r lx ly s p S L M nb cs es) (m : Mv I w1 o1 w' o') (h9 : 9 ∉ I) : Blk w' nb 49 cs := h.op.block (m.block nb h.op.lt (by rw [h.opo]; exact h9))
theorem RD.ebAt {I : List Nat} {w0 w1 w' : World} {o1 o' : Nat → Nat} {b la lb r lx ly : Nat} {s p : Int} {S : St} {L M : Lg} {nb : Nat} {cs es : List Value} (h : RD w0 w1 o1 b la lb r lx ly s p S L M nb cs es) (m : Mv I w1 o1 w' o') (h7 : 7 ∉ I) : Blk w' (nb + 1) 47 es := h.eb.block (m.block (nb + 1) h.eb.lt (by rw [h.ebo]; exact h7))

theorem px_box {w0 w : World} {o : Nat → Nat} {b la lb r lx ly : Nat} {s p : Int} {S T : St} {L : Lg} {xs : List Ent} {M : Lg} {ys : List Ent} (h : PX w0 w o b la lb r lx ly s p S T L xs M ys) (cs : List Value) : PX w0 (w.alloc (.cells cs.toArray 47)) (newTo o w 9) b la lb r lx ly s p S T L xs M ys ∧ Blk (w.alloc (.cells cs.toArray 47)) w.heap.size 47 cs ∧ newTo o w 9 w.heap.size = 9 ∧ Mv [] w o (w.alloc (.cells cs.toArray 47)) (newTo o w 9) :=
  have m : Mv [] w o (w.alloc (.cells cs.toArray 47)) (newTo o w 9) := Mv.of_below 9 (balloc (Below.refl _ _) _)
  ⟨h.mv m (by simp), blk_new w cs 47, newTo_new (Nat.le_refl _), m⟩

theorem RD.drew {w0 w1 : World} {o1 : Nat → Nat} {b la lb r lx ly : Nat} {s p : Int} {S : St} {L M : Lg} {nb : Nat} {cs es : List Value} (h : RD w0 w1 o1 b la lb r lx ly s p S L M nb cs es) : RD w0 w1.drew o1 b la lb r lx ly s p S L M nb cs es := ⟨h.px.drew, h.opAt (mv_drewn (I := []) w1 o1) (by simp), h.ebAt (mv_drewn (I := []) w1 o1) (by simp), h.opo, h.ebo⟩
theorem RD.below {w0 w1 w' : World} {o1 : Nat → Nat} {b la lb r lx ly : Nat} {s p : Int} {S : St} {L M : Lg} {nb : Nat} {cs es : List Value} (h : RD w0 w1 o1 b la lb r lx ly s p S L M nb cs es) (hb : Below w1.heap.size w1 w') : RD w0 w' (newTo o1 w1 0) b la lb r lx ly s p S L M nb cs es := ⟨h.px.below hb, h.op.below hb, h.eb.below hb, by rw [newTo_old h.op.lt]; exact h.opo, by rw [newTo_old h.eb.lt]; exact h.ebo⟩
theorem RD.setE {w0 w1 : World} {o1 : Nat → Nat} {b la lb r lx ly : Nat} {s p : Int} {S : St} {L M : Lg} {nb : Nat} {cs : List Value} {x0 x1 x2 x3 x4 x5 x6 x7 : Value} (h : RD w0 w1 o1 b la lb r lx ly s p S L M nb cs [x0, x1, x2, x3, x4, x5, x6, x7]) (u0 u1 u2 u3 u4 u5 u6 u7 : Value) :
    RD w0 ((((((((w1.setCell ⟨nb + 1, 0, none⟩ u0).setCell ⟨nb + 1, 1, none⟩ u1).setCell ⟨nb + 1, 2, none⟩ u2).setCell ⟨nb + 1, 3, none⟩ u3).setCell ⟨nb + 1, 4, none⟩ u4).setCell ⟨nb + 1, 5, none⟩ u5).setCell ⟨nb + 1, 6, none⟩ u6).setCell ⟨nb + 1, 7, none⟩ u7) o1 b la lb r lx ly s p S L M nb cs [u0, u1, u2, u3, u4, u5, u6, u7] ∧
    Mv [7] w1 o1 ((((((((w1.setCell ⟨nb + 1, 0, none⟩ u0).setCell ⟨nb + 1, 1, none⟩ u1).setCell ⟨nb + 1, 2, none⟩ u2).setCell ⟨nb + 1, 3, none⟩ u3).setCell ⟨nb + 1, 4, none⟩ u4).setCell ⟨nb + 1, 5, none⟩ u5).setCell ⟨nb + 1, 6, none⟩ u6).setCell ⟨nb + 1, 7, none⟩ u7) o1 := by
  have G := grown_set8 w1 (nb + 1) u0 u1 u2 u3 u4 u5 u6 u7
  have m : Mv [7] w1 o1 _ o1 := ⟨G.os, G.tape, G.output, G.size, fun _ _ => rfl, fun j hj hn => G.block j hj (fun e => hn (by have := Option.some.inj e; subst this; rw [h.ebo]; simp))⟩
  exact ⟨⟨h.px.mv m (by simp), h.opAt m (by simp), h.eb.set8 u0 u1 u2 u3 u4 u5 u6 u7, h.opo, h.ebo⟩, m⟩
theorem RLogAt.cellAt {w : World} {o : Nat → Nat} {j lx : Nat} {W p : Int} {es : List Ent} {g off n cap : Nat} {ps : List (Ent × Value)} (h : RLogAt w o j lx W p es (.slice (some ⟨g, off, none⟩) n cap) ps) {i : Nat} {q : Ent × Value} (hq : ps[i]? = some q) (k : Nat) (u : Value) (hk : (ec q.1 q.2)[k]? = some u) : w.cell? ⟨g, off + i * 8 + k, none⟩ = some u := by
  obtain ⟨b, off', e, hc⟩ := (rowE_c h.row).at hq
  cases e
  exact hc k u hk

theorem plays_dark (dv : Value) (ds : List Int) (v : Value) (qs : List (Opr × Value × Value)) (w : World) (hd : RdU w dv ds) (hv : RowO w v qs) (hl : lightB ds.length qs = false) : Calls Try.prog 3 #[dv, v] w fun r w' => r = .returned (.bool true) ∧ Below w.heap.size w w' := by
  obtain ⟨_, ad, cd, rfl, hd1, hd2, _⟩ := hd
  unfold maxLen at hd2
  have LI := light_any (Below.refl w.heap.size w) ad ds.length cd (by omega) hv
  obtain ⟨a, cap, rfl⟩ := hv.len
  clear hv
  rw [hl] at LI
  have HLI : Hid (Calls Try.prog 9 #[.slice ad ds.length cd, .slice a qs.length cap] w fun r w'' => r = .returned (.bool false) ∧ w'' = w) := LI
  clear LI hl
  go_enter Try.func3, Try.ntmps3
  go_wp2_with (first
    | (go_at_call 9; go_must (refine (Calls.mono HLI.out ?_); rintro r w1 ⟨rfl, hw1⟩; replace hw1 := hw1.symm; subst hw1))
    | (go_at_call 10; go_must (refine (alive_any _).mono ?_; rintro r w2 ⟨rfl, hb2⟩)))
  go_ret
  exact ⟨rfl, hb2⟩

theorem plays_walk (dv : Value) (ds : List Int) (v : Value) (qs : List (Opr × Value × Value)) (w : World) (hd : RdU w dv ds) (hv : RowO w v qs) : Calls Try.prog 3 #[dv, v] w fun r w' => r = .returned (.bool true) ∧ Below w.heap.size w w' := by
  cases hl : lightB ds.length qs with
  | false => exact plays_dark dv ds v qs w hd hv hl
  | true =>
  have hdu := hd.1
  have HDv : Hid (RdU w dv ds) := hd
  obtain ⟨_, ad, cd, rfl, hd1, hd2, _⟩ := hd
  unfold maxLen at hd2
  have LI := light_any (Below.refl w.heap.size w) ad ds.length cd (by omega) hv
  rw [hl] at LI
  obtain ⟨hd50, hq40, hshort⟩ := lightB_iff hl
  have HSh : Hid (∀ q ∈ qs, q.1.b.length ≤ 1200 ∧ q.1.e.b.length ≤ 1200) := hshort
  clear hl hshort
  obtain ⟨a, cap, rfl⟩ := hv.len
  have hcap := hv.cap
  have HV : Hid (RowO w (.slice a qs.length cap) qs) := hv
  have HLI : Hid (Calls Try.prog 9 #[.slice ad ds.length cd, .slice a qs.length cap] w fun r w'' => r = .returned (.bool true) ∧ w'' = w) := LI
  have g0 : Good ⟨ds, []⟩ := good0 hdu
  have pa := pair_at g0 (by simp)
  have HKey : Hid (Keyed' (⟨ds, []⟩ : St).pair (⟨ds, []⟩ : St).fresh ((⟨ds, []⟩ : St).put .secret).fresh) := ⟨pair_good g0 (by simp), pa.1, pa.2⟩
  have HFine : Hid (Fine (⟨ds, []⟩ : St).pair) := (fine0 ds).pair g0 (by simp)
  have HLen : Hid ((⟨ds, []⟩ : St).pair.rows.length ≤ 2) := (show _ ≤ _ from by rw [pair_len]; simp)
  have hP1 := fun (w' : World) (o' : Nat → Nat) (b : Nat) (h : OrcAt w' o' b ⟨ds, []⟩) => (show Calls Try.prog 12 #[ptr b] w' fun r w'' => r = .returned (.tuple #[.int .u64 (⟨ds, []⟩ : St).fresh, .int .u64 ((⟨ds, []⟩ : St).put .secret).fresh]) ∧ ∃ o'', OrcAt w'' o'' b (⟨ds, []⟩ : St).pair ∧ Mv [1] w' o' w'' o'' from by
    obtain ⟨ft, hr, ho⟩ := h
    refine (pair_any w' b ft ⟨ds, []⟩ hr (by simp)).mono ?_
    rintro r w'' ⟨rfl, hl⟩
    obtain ⟨h1, h2⟩ := OrcAt.left ho hl hr.room
    exact ⟨rfl, _, h1, h2⟩)
  have hP2 := fun (w' : World) (o' : Nat → Nat) (r : Nat) (h : ROrc w w' o' r ⟨ds, []⟩) => (show Calls Try.prog 13 #[ptr r] w' fun q w'' => q = .returned (.tuple #[.int .u64 (⟨ds, []⟩ : St).fresh, .int .u64 ((⟨ds, []⟩ : St).put .secret).fresh]) ∧ ∃ o'', ROrc w w'' o'' r (⟨ds, []⟩ : St).pair ∧ Mv [8] w' o' w'' o'' from by
    obtain ⟨fr, sb, hR, h1, h2, h3⟩ := h
    refine (rpair_any ⟨w, sb⟩ w' r fr ⟨ds, []⟩ hR (by simp)).mono ?_
    rintro q w'' ⟨rfl, hl⟩
    exact ⟨rfl, rorc_step (ks := []) hR h1 h2 h3 (fun k hk => by cases hk) hl⟩)
  generalize (⟨ds, []⟩ : St).pair = S1 at *
  generalize (⟨ds, []⟩ : St).fresh = s at *
  generalize ((⟨ds, []⟩ : St).put .secret).fresh = p at *
  have HP1 : Hid (∀ (w' : World) (o' : Nat → Nat) (b : Nat), OrcAt w' o' b ⟨ds, []⟩ → Calls Try.prog 12 #[ptr b] w' fun r w'' => r = .returned (.tuple #[.int .u64 s, .int .u64 p]) ∧ ∃ o'', OrcAt w'' o'' b S1 ∧ Mv [1] w' o' w'' o'') := hP1
  have HP2 : Hid (∀ (w' : World) (o' : Nat → Nat) (r : Nat), ROrc w w' o' r ⟨ds, []⟩ → Calls Try.prog 13 #[ptr r] w' fun q w'' => q = .returned (.tuple #[.int .u64 s, .int .u64 p]) ∧ ∃ o'', ROrc w w'' o'' r S1 ∧ Mv [8] w' o' w'' o'') := hP2
  have HNL : Hid (∀ w' b, Calls Try.prog 14 #[ptr b, .int .i64 1, .int .u64 p] w' fun r w'' => r = .returned (.tuple #[ptr w'.heap.size, .int .i64 0]) ∧ (∀ o j, LogIs w'' (newTo o w' j) j w'.heap.size b 1 p ⟨[], 0⟩) ∧ Below w'.heap.size w' w'') := fun w' b => by
    refine (newL_world w' b 1 p (by omega) (by omega)).mono ?_
    rintro r w'' ⟨rfl, rfl⟩
    exact ⟨rfl, fun o j => log_new j b 1 p (i64_small (by omega) (by omega)) HKey.out.up, balloc (Below.refl _ _) _⟩
  have tk : Hid True := trivial
  clear LI hv hdu hP1 hP2 g0 pa
  go_enter Try.func3, Try.ntmps3
  go_upto_region 9 with (first
    | (go_at_call 9; go_must (refine (Calls.mono HLI.out ?_); rintro q w0 ⟨rfl, hw0⟩; replace hw0 := hw0.symm; subst hw0))
    | (go_at_call 11; go_must (refine (new_any _ ds w HDv.out (by omega)).mono ?_; rintro q w1 ⟨b, rfl, ht1, hb1⟩; have HOA : Hid (OrcAt (w1.alloc (.cells #[.slice ad ds.length cd, .slice none 0 0] 31)) (newTo (newTo (fun _ => 0) w 1) w1 8) b ⟨ds, []⟩) := (show OrcAt _ _ _ _ from (OrcAt.fresh ht1).mv (Mv.of_below (I := []) 8 (balloc (Below.refl _ _) _)) (by simp)); have HRA : Hid (ROrc w (w1.alloc (.cells #[.slice ad ds.length cd, .slice none 0 0] 31)) (newTo (newTo (fun _ => 0) w 1) w1 8) w1.heap.size ⟨ds, []⟩) := rorc_new hb1 HDv.out (fun k hk => newTo_old hk); have HB1 : Hid (Below w.heap.size w w1) := hb1; clear ht1 hb1))
    | (go_at_call 12; go_must (refine (HP1.out _ _ b HOA.out).mono ?_; rintro q w2 ⟨rfl, o2, hO2, hM2⟩; have HO2 : Hid (OrcAt w2 o2 b S1) := hO2; have HM2 : Hid (Mv [1] (w1.alloc (.cells #[.slice ad ds.length cd, .slice none 0 0] 31)) (newTo (newTo (fun _ => 0) w 1) w1 8) w2 o2) := hM2; clear hO2 hM2))
    | (go_at_call 13; go_must (refine (HP2.out w2 o2 w1.heap.size (HRA.out.mv HM2.out (by simp) (by simp))).mono ?_; rintro q w3 ⟨rfl, o3, hO3, hM3⟩; have HO3 : Hid (ROrc w w3 o3 w1.heap.size S1) := hO3; have HM3 : Hid (Mv [8] w2 o2 w3 o3) := hM3; clear hO3 hM3))
    | (go_at_call 14; clear tk; go_must (refine (HNL.out w3 b).mono ?_; rintro q w4 ⟨rfl, hl4, hb4⟩; have HL4 : Hid (∀ o j, LogIs w4 (newTo o w3 j) j w3.heap.size b 1 p ⟨[], 0⟩) := hl4; have HB4 : Hid (Below w3.heap.size w3 w4) := hb4; clear hl4 hb4))
    | (go_at_call 14; go_must (refine (HNL.out w4 b).mono ?_; rintro q w5 ⟨rfl, hl5, hb5⟩; have HL5 : Hid (∀ o j, LogIs w5 (newTo o w4 j) j w4.heap.size b 1 p ⟨[], 0⟩) := hl5; have HB5 : Hid (Below w4.heap.size w4 w5) := hb5; clear hl5 hb5)))
  obtain ⟨o5, hB5⟩ := play_new (dv := .slice ad ds.length cd) HB1.out HO2.out HM2.out HO3.out HM3.out HL4.out HB4.out HL5.out HB5.out HKey.out
  have HB6 : Hid (PX w ((w5.alloc (.cells #[.int .i64 1, .int .u64 p, .slice none 0 0] 42)).alloc (.cells #[.int .i64 1, .int .u64 p, .slice none 0 0] 42)) o5 b w3.heap.size w4.heap.size w1.heap.size w5.heap.size (w5.heap.size + 1) s p S1 S1 ⟨[], 0⟩ [] ⟨[], 0⟩ []) := hB5
  clear hB5 HB1 HO2 HM2 HO3 HM3 HOA HRA HP1 HP2 HNL HLI HDv HKey HL4 HB4 HL5 HB5
  generalize (w5.alloc (.cells #[.int .i64 1, .int .u64 p, .slice none 0 0] 42)).alloc (.cells #[.int .i64 1, .int .u64 p, .slice none 0 0] 42) = w6 at *
  obtain ⟨la, hla⟩ : ∃ la, la = w3.heap.size := ⟨_, rfl⟩
  obtain ⟨lb, hlb⟩ : ∃ lb, lb = w4.heap.size := ⟨_, rfl⟩
  obtain ⟨ly, hly⟩ : ∃ ly, ly = w5.heap.size + 1 := ⟨_, rfl⟩
  obtain ⟨lx, hlx⟩ : ∃ lx, lx = w5.heap.size := ⟨_, rfl⟩
  obtain ⟨rr, hrr⟩ : ∃ rr, rr = w1.heap.size := ⟨_, rfl⟩
  rw [← hly, ← hla, ← hlb, ← hlx, ← hrr] at HB6
  rw [← hly, ← hla, ← hlb, ← hlx, ← hrr]
  clear hla hlb hlx hly hrr
  go_wp2_with (go_at_call 10; go_must (refine (alive_any _).mono ?_; rintro q10 w7 ⟨rfl, hb10⟩; have HB7 : Hid (PX w w7 (newTo o5 w6 0) b la lb rr lx ly s p S1 S1 ⟨[], 0⟩ [] ⟨[], 0⟩ []) := HB6.out.below hb10; clear hb10 HB6))
  go_loopw [15] (fun s15 wr => ∃ (i : Nat) (S : St) (L M : Lg) (o : Nat → Nat), s15 = .int .i64 i ∧ i ≤ qs.length ∧ Hid (PX w wr o b la lb rr lx ly s p S S L L.es M M.es) ∧ Hid (Fine S ∧ S.rows.length ≤ 2 + 2 * i ∧ L.es.length ≤ i)) (fun s15 _ => qs.length - (intOf s15).toNat)
  case atStart => exact ⟨0, S1, ⟨[], 0⟩, ⟨[], 0⟩, _, rfl, by omega, HB7, ⟨HFine.out, HLen.out, by simp⟩⟩
  case round =>
    obtain ⟨i, S, L, M, o, rfl, hi, HB, HRw⟩ := hrel
    clear HB7 HLen HFine
    by_cases hi8 : i < qs.length
    · obtain ⟨q, hq⟩ : ∃ q, qs[i]? = some q := ⟨_, List.getElem?_eq_getElem hi8⟩
      obtain ⟨g, off, ea, hc⟩ := HV.out.at hq
      subst ea
      have HOkq : Hid (OprOk w q) := HV.out.1 q (List.mem_of_getElem? hq)
      have HShort : Hid (q.1.b.length ≤ 1200 ∧ q.1.e.b.length ≤ 1200) := HSh.out q (List.mem_of_getElem? hq)
      obtain ⟨q, x, y⟩ := q
      dsimp only at *
      unfold OprOk at HOkq
      dsimp only at HOkq
      obtain ⟨ax, cx, hxx⟩ := HOkq.out.2.2.2.2.2.2.1.len
      subst hxx
      obtain ⟨ay, cy, hyy⟩ := HOkq.out.2.2.2.2.2.2.2.len
      subst hyy
      clear hq
      obtain ⟨qk, qt, qn, qb, qN, qf, ⟨ew, ei, ep, et, eu, en, eb, eg⟩⟩ := q
      dsimp only at *
      have hc1 := hc wr HB.out.bel
      unfold oc at hc1
      dsimp only at hc1
      have d0 := hc1 0 _ rfl; have d1 := hc1 1 _ rfl; have d2 := hc1 2 _ rfl; have d3 := hc1 3 _ rfl; have d4 := hc1 4 _ rfl; have d5 := hc1 5 _ rfl; have d6 := hc1 6 _ rfl; have d7 := hc1 7 _ rfl; have d8 := hc1 8 _ rfl; have d9 := hc1 9 _ rfl; have d10 := hc1 10 _ rfl; have d11 := hc1 11 _ rfl; have d12 := hc1 12 _ rfl; have d13 := hc1 13 _ rfl
      simp only [Nat.add_zero] at d0
      clear hc hc1
      go_upto_region 16 with fail
      obtain ⟨o1, hRD, _⟩ := rd_new HB.out [.int .i64 qk, .int .i64 qt, .int .i64 qn, .slice ax qb.length cx, .int .i64 qN, .int .i64 qf, .int .i64 ew, .int .i64 ei, .int .u64 ep, .int .i64 et, .int .i64 eu, .int .i64 en, .slice ay eb.length cy, .int .u64 eg] [.int .i64 ew, .int .i64 ei, .int .u64 ep, .int .i64 et, .int .i64 eu, .int .i64 en, .slice ay eb.length cy, .int .u64 eg]
      have HRD : Hid (RD w ((wr.alloc (.cells #[.int .i64 qk, .int .i64 qt, .int .i64 qn, .slice ax qb.length cx, .int .i64 qN, .int .i64 qf, .int .i64 ew, .int .i64 ei, .int .u64 ep, .int .i64 et, .int .i64 eu, .int .i64 en, .slice ay eb.length cy, .int .u64 eg] 49)).alloc (.cells #[.int .i64 ew, .int .i64 ei, .int .u64 ep, .int .i64 et, .int .i64 eu, .int .i64 en, .slice ay eb.length cy, .int .u64 eg] 47)) o1 b la lb rr lx ly s p S L M wr.heap.size [.int .i64 qk, .int .i64 qt, .int .i64 qn, .slice ax qb.length cx, .int .i64 qN, .int .i64 qf, .int .i64 ew, .int .i64 ei, .int .u64 ep, .int .i64 et, .int .i64 eu, .int .i64 en, .slice ay eb.length cy, .int .u64 eg] [.int .i64 ew, .int .i64 ei, .int .u64 ep, .int .i64 et, .int .i64 eu, .int .i64 en, .slice ay eb.length cy, .int .u64 eg]) := hRD
      clear hRD HB d0 d1 d2 d3 d4 d5 d6 d7 d8 d9 d10 d11 d12 d13
      generalize (wr.alloc (.cells #[.int .i64 qk, .int .i64 qt, .int .i64 qn, .slice ax qb.length cx, .int .i64 qN, .int .i64 qf, .int .i64 ew, .int .i64 ei, .int .u64 ep, .int .i64 et, .int .i64 eu, .int .i64 en, .slice ay eb.length cy, .int .u64 eg] 49)).alloc (.cells #[.int .i64 ew, .int .i64 ei, .int .u64 ep, .int .i64 et, .int .i64 eu, .int .i64 en, .slice ay eb.length cy, .int .u64 eg] 47) = w1 at *
      obtain ⟨nb, hnb⟩ : ∃ nb, nb = wr.heap.size := ⟨_, rfl⟩
      rw [← hnb] at HRD ⊢
      clear hnb
      have p0 := HRD.out.op.cell 0 _ rfl; have p1 := HRD.out.op.cell 1 _ rfl; have p2 := HRD.out.op.cell 2 _ rfl; have p3 := HRD.out.op.cell 3 _ rfl; have p4 := HRD.out.op.cell 4 _ rfl; have p5 := HRD.out.op.cell 5 _ rfl; have p6 := HRD.out.op.cell 6 _ rfl; have p7 := HRD.out.op.cell 7 _ rfl; have p8 := HRD.out.op.cell 8 _ rfl; have p9 := HRD.out.op.cell 9 _ rfl; have p10 := HRD.out.op.cell 10 _ rfl; have p11 := HRD.out.op.cell 11 _ rfl; have p12 := HRD.out.op.cell 12 _ rfl; have p13 := HRD.out.op.cell 13 _ rfl; have k0 := HRD.out.eb.cell 0 _ rfl; have k1 := HRD.out.eb.cell 1 _ rfl; have k2 := HRD.out.eb.cell 2 _ rfl; have k3 := HRD.out.eb.cell 3 _ rfl; have k4 := HRD.out.eb.cell 4 _ rfl; have k5 := HRD.out.eb.cell 5 _ rfl; have k6 := HRD.out.eb.cell 6 _ rfl; have k7 := HRD.out.eb.cell 7 _ rfl
      by_cases hk4 : qk = 4
      · subst hk4
        go_upto_region 17 with fail
        have n4 := fun z : WIn (fun w' => ∃ o', Mv [1, 4, 6, 8] w1 o1 w' o') => (HRD.out.opAt z.ok.choose_spec (by simp)).cell 4 _ rfl
        have ne : Nonempty (WIn (fun w' => ∃ o', Mv [1, 4, 6, 8] w1 o1 w' o')) := ⟨⟨w1, o1, Mv.refl _ _ _⟩⟩
        refine wp_region_ord (C := fun w' => ∃ z : WIn (fun w' => ∃ o', Mv [1, 4, 6, 8] w1 o1 w' o'), w' = z.w) [(false, 0), (false, 1), (false, 2), (false, 4), (false, 5), (false, 6), (true, 3), (true, 7), (true, 8), (false, 9), (false, 10), (false, 11), (false, 12), (false, 13), (true, 14), (false, 15), (false, 16)] (by kernel_rfl) (by kernel_rfl) ⟨⟨w1.drew, o1, mv_drewn w1 o1⟩, rfl⟩ ?_
        have HPd : Hid (PX w w1.drew o1 b la lb rr lx ly s p S S L L.es M M.es) := HRD.out.px.drew
        have HMd : Hid (Mv [1, 4, 6, 8] w1 o1 w1.drew o1) := mv_drewn w1 o1
        generalize w1.drew = wd at *
        iterate 6 (refine ord_still rfl rfl ?_; go_big_quiet_step (fail); refine wpQuiet_nil ?_)
        refine ord_mem rfl rfl ?_
        go_simp
        refine (HPd.out.cut qN).mono ?_
        rintro r2 w2 ⟨v2, ps2, o2', rfl, h1, h2, h3, h4, h5, h6⟩
        obtain ⟨va2, vc2, hv2⟩ := h2.len
        subst hv2
        have HM2 : Hid (Mv [1, 4, 6, 8] w1 o1 w2 o2') := HMd.out.trans (h6.widen (by simp))
        have HM' : Hid (M.es.take (cutK qN M.es.length) = (⟨M.es.take (cutK qN M.es.length), sumOf S (M.es.take (cutK qN M.es.length))⟩ : Lg).es) := (show _ = _ from rfl)
        have HP2 : Hid (PX w w2 o2' b la lb rr lx ly s p S S L L.es ⟨M.es.take (cutK qN M.es.length), sumOf S (M.es.take (cutK qN M.es.length))⟩ M.es) := h5
        generalize (⟨M.es.take (cutK qN M.es.length), sumOf S (M.es.take (cutK qN M.es.length))⟩ : Lg) = M' at *
        have HR2 : Hid (RowE w2 (.slice va2 ps2.length vc2) ps2 ∧ Ents w2 o2' ps2 ∧ (∀ k, (Value.slice va2 ps2.length vc2).ownBlock = some k → o2' k = 0) ∧ ps2.map (·.1) = M.es.drop (cutK qN M.es.length)) := ⟨h2, h3, h4, h1⟩
        clear h1 h2 h3 h4 h5 h6
        refine ⟨⟨⟨w2, o2', HM2.out⟩, rfl⟩, ?_⟩
        refine ord_mem rfl rfl ?_
        go_simp
        refine (HP2.out.rcut qN).mono ?_
        rintro r3 w3 ⟨v3, ps3, o3', rfl, h1, h2, h3, h4, h5⟩
        obtain ⟨va3, vc3, hv3⟩ := h2.len
        subst hv3
        rw [HM'.out] at h4
        have HM3 : Hid (Mv [1, 4, 6, 8] w1 o1 w3 o3') := HM2.out.trans (h5.widen (by simp))
        have HP3 : Hid (PX w w3 o3' b la lb rr lx ly s p S S L L.es M' M'.es) := h4
        have HAl : Hid (Calls Try.prog 15 #[.slice va2 ps2.length vc2, .slice va3 ps3.length vc3] w3 fun r w' => r = .returned (.bool true) ∧ Below w3.heap.size w3 w') := refall_eq (HR2.out.1.mv h5 (fun k hk => by rw [HR2.out.2.2.1 k hk]; simp)) (HR2.out.2.1.mv h5 (by simp)) h2 h3 (HR2.out.2.2.2.trans h1.symm)
        clear h1 h2 h3 h4 h5 HR2
        refine ⟨⟨⟨w3, o3', HM3.out⟩, rfl⟩, ?_⟩
        refine ord_mem rfl rfl ?_
        go_simp
        refine (Calls.mono HAl.out ?_)
        rintro r4 w4 ⟨rfl, hb4⟩
        have HM4 : Hid (Mv [1, 4, 6, 8] w1 o1 w4 (newTo o3' w3 0)) := HM3.out.trans (Mv.of_below 0 hb4)
        have HP4 : Hid (PX w w4 (newTo o3' w3 0) b la lb rr lx ly s p S S L L.es M' M'.es) := HP3.out.below hb4
        clear hb4
        refine ⟨⟨⟨w4, _, HM4.out⟩, rfl⟩, ?_⟩
        iterate 5 (refine ord_still rfl rfl ?_; go_big_quiet_step (fail); refine wpQuiet_nil ?_)
        refine ord_mem rfl rfl ?_
        go_simp
        refine (HP4.out.sameB (pend_full HP4.out.g.key HRw.out.1 HP4.out.duo.whole).hd (by have := HRw.out; omega)).mono ?_
        rintro r5 w5 ⟨rfl, o5', h1, h2⟩
        have HP5 : Hid (PX w w5 o5' b la lb rr lx ly s p S S L L.es M' M'.es) := h1
        refine ⟨⟨⟨w5, _, HM4.out.trans (h2.widen (by simp))⟩, rfl⟩, ?_⟩
        clear h1 h2
        iterate 2 (refine ord_still rfl rfl ?_; go_big_quiet_step (fail); refine wpQuiet_nil ?_)
        refine ord_end ?_
        clear n4 ne p0 p1 p2 p3 p4 p5 p6 p7 p8 p9 p10 p11 p12 p13 k0 k1 k2 k3 k4 k5 k6 k7
        go_wp2_with fail
        go_roundw
        case rel =>
          have hr := HRw.out
          exact ⟨i + 1, S, L, M', o5', by go_num, by omega, HP5, ⟨hr.1, by omega, by omega⟩⟩
        case measure => simp [intOf]; omega
      · have HK4 : Hid (¬ qk = 4) := hk4
        by_cases hk0 : qk = 0
        · subst hk0
          have HIs : Hid (Calls Try.prog 19 #[ptr la, .int .u64 s, .agg #[.int .i64 qt, .int .i64 1], .int .i64 qn, .slice ax qb.length cx] w1 fun r w' => ∃ e k S' L' y o', r = .returned (.tuple #[.agg #[.int .i64 e.w, .int .i64 e.i, .int .u64 e.p, .int .i64 e.t, .int .i64 e.u, .int .i64 e.n, y, .int .u64 e.g], .int .i64 k]) ∧ issueM S 1 s L qt 1 qn qb = ((e, k), S', L') ∧ Issued S p s L qt 1 qn qb e k S' L' ∧ PX w w' o' b la lb rr lx ly s p S' S L' L.es M M.es ∧ Kp0 w' o' y e.b ∧ Mv [1, 3] w1 o1 w' o') := HRD.out.px.issue (by have := HRw.out; omega) HOkq.out.2.1 HOkq.out.2.2.1 (HRD.out.px.g.kp HOkq.out.2.2.2.2.2.2.1) (by have := HShort.out; omega)
          have HKx : Hid (Kp0 w1 o1 (.slice ax qb.length cx) qb) := HRD.out.px.g.kp HOkq.out.2.2.2.2.2.2.1
          go_upto_region 21 with (go_at_call 19; go_must (refine (Calls.mono HIs.out ?_); rintro r2 w2 ⟨e2, kk2, S2, L2, y2, o2', rfl, h1, h2, h3, h4, h5⟩; obtain ⟨ay2, cy2, hyy⟩ := h4.1.len; subst hyy; have HM2 : Hid (issueM S 1 s L qt 1 qn qb = ((e2, kk2), S2, L2)) := h1; have HI2 : Hid (Issued S p s L qt 1 qn qb e2 kk2 S2 L2) := h2; have HP2 : Hid (PX w w2 o2' b la lb rr lx ly s p S2 S L2 L.es M M.es) := h3; have HY2 : Hid (Kp0 w2 o2' (.slice ay2 e2.b.length cy2) e2.b) := h4; have HV2 : Hid (Mv [1, 3] w1 o1 w2 o2') := h5; clear h1 h2 h3 h4 h5 HIs))
          have hbx := px_box HP2.out [.int .i64 e2.w, .int .i64 e2.i, .int .u64 e2.p, .int .i64 e2.t, .int .i64 e2.u, .int .i64 e2.n, .slice ay2 e2.b.length cy2, .int .u64 e2.g]
          have HP3 : Hid (PX w (w2.alloc (.cells #[.int .i64 e2.w, .int .i64 e2.i, .int .u64 e2.p, .int .i64 e2.t, .int .i64 e2.u, .int .i64 e2.n, .slice ay2 e2.b.length cy2, .int .u64 e2.g] 47)) (newTo o2' w2 9) b la lb rr lx ly s p S2 S L2 L.es M M.es) := hbx.1
          have HC3 : Hid (Blk (w2.alloc (.cells #[.int .i64 e2.w, .int .i64 e2.i, .int .u64 e2.p, .int .i64 e2.t, .int .i64 e2.u, .int .i64 e2.n, .slice ay2 e2.b.length cy2, .int .u64 e2.g] 47)) w2.heap.size 47 [.int .i64 e2.w, .int .i64 e2.i, .int .u64 e2.p, .int .i64 e2.t, .int .i64 e2.u, .int .i64 e2.n, .slice ay2 e2.b.length cy2, .int .u64 e2.g]) := hbx.2.1
          have HO3 : Hid (newTo o2' w2 9 w2.heap.size = 9) := hbx.2.2.1
          have HY3 : Hid (Kp0 (w2.alloc (.cells #[.int .i64 e2.w, .int .i64 e2.i, .int .u64 e2.p, .int .i64 e2.t, .int .i64 e2.u, .int .i64 e2.n, .slice ay2 e2.b.length cy2, .int .u64 e2.g] 47)) (newTo o2' w2 9) (.slice ay2 e2.b.length cy2) e2.b) := HY2.out.mv hbx.2.2.2 (by simp)
          have HW3 : Hid (Mv [1, 3] w1 o1 (w2.alloc (.cells #[.int .i64 e2.w, .int .i64 e2.i, .int .u64 e2.p, .int .i64 e2.t, .int .i64 e2.u, .int .i64 e2.n, .slice ay2 e2.b.length cy2, .int .u64 e2.g] 47)) (newTo o2' w2 9)) := HV2.out.trans (hbx.2.2.2.widen (by simp))
          clear hbx HP2 HV2 HY2 p0 p1 p2 p3 p4 p5 p6 p7 p8 p9 p10 p11 p12 p13 k0 k1 k2 k3 k4 k5 k6 k7
          generalize newTo o2' w2 9 = o3' at *
          generalize w2.alloc (.cells #[.int .i64 e2.w, .int .i64 e2.i, .int .u64 e2.p, .int .i64 e2.t, .int .i64 e2.u, .int .i64 e2.n, .slice ay2 e2.b.length cy2, .int .u64 e2.g] 47) = w3x at *
          obtain ⟨nc, hnc⟩ : ∃ nc, nc = w2.heap.size := ⟨_, rfl⟩
          rw [← hnc] at HC3 HO3 ⊢
          clear hnc
          have t1 := (HRD.out.opAt HW3.out (by simp)).cell 1 _ rfl
          have t2 := (HRD.out.opAt HW3.out (by simp)).cell 2 _ rfl
          have t3 := (HRD.out.opAt HW3.out (by simp)).cell 3 _ rfl
          have HRi : Hid (Calls Try.prog 20 #[ptr lx, ptr rr, .int .u64 s, .agg #[.int .i64 qt, .int .i64 1], .int .i64 qn, .slice ax qb.length cx] w3x fun r w' => ∃ y T' o', r = .returned (.tuple #[.agg #[.int .i64 e2.w, .int .i64 e2.i, .int .u64 e2.p, .int .i64 e2.t, .int .i64 e2.u, .int .i64 e2.n, y, .int .u64 e2.g], .int .i64 kk2]) ∧ Kp0 w' o' y e2.b ∧ PX w w' o' b la lb rr lx ly s p S2 T' L2 L2.es M M.es ∧ headM T' L2.es = (L2.sum, S2) ∧ Fine T' ∧ T'.rows.length ≤ S2.rows.length ∧ Mv [8, 5] w3x o3' w' o') := HP3.out.rissue HRD.out.px.g.key HRD.out.px.g.whole HRw.out.1 (by have := HRw.out; omega) (by have := HRw.out; omega) HOkq.out.2.1 HOkq.out.2.2.1 (HKx.out.mv HW3.out (by simp)) HM2.out
          go_upto_region 22 with (go_at_call 20; go_must (refine (Calls.mono HRi.out ?_); rintro r4 w4 ⟨y4, T4, o4', rfl, h1, h2, h3, h4, h5, h6⟩; obtain ⟨ay4, cy4, hyy⟩ := h1.1.len; subst hyy; have HY4 : Hid (Kp0 w4 o4' (.slice ay4 e2.b.length cy4) e2.b) := h1; have HP4 : Hid (PX w w4 o4' b la lb rr lx ly s p S2 T4 L2 L2.es M M.es) := h2; have HH4 : Hid (headM T4 L2.es = (L2.sum, S2) ∧ Fine T4 ∧ T4.rows.length ≤ S2.rows.length) := ⟨h3, h4, h5⟩; have HV4 : Hid (Mv [8, 5] w3x o3' w4 o4') := h6; clear h1 h2 h3 h4 h5 h6 HRi t1 t2 t3))
          have hbx := px_box HP4.out [.int .i64 e2.w, .int .i64 e2.i, .int .u64 e2.p, .int .i64 e2.t, .int .i64 e2.u, .int .i64 e2.n, .slice ay4 e2.b.length cy4, .int .u64 e2.g]
          have HP5 : Hid (PX w (w4.alloc (.cells #[.int .i64 e2.w, .int .i64 e2.i, .int .u64 e2.p, .int .i64 e2.t, .int .i64 e2.u, .int .i64 e2.n, .slice ay4 e2.b.length cy4, .int .u64 e2.g] 47)) (newTo o4' w4 9) b la lb rr lx ly s p S2 T4 L2 L2.es M M.es) := hbx.1
          have HD5 : Hid (Blk (w4.alloc (.cells #[.int .i64 e2.w, .int .i64 e2.i, .int .u64 e2.p, .int .i64 e2.t, .int .i64 e2.u, .int .i64 e2.n, .slice ay4 e2.b.length cy4, .int .u64 e2.g] 47)) w4.heap.size 47 [.int .i64 e2.w, .int .i64 e2.i, .int .u64 e2.p, .int .i64 e2.t, .int .i64 e2.u, .int .i64 e2.n, .slice ay4 e2.b.length cy4, .int .u64 e2.g]) := hbx.2.1
          have HW5 : Hid (Mv [8, 5] w3x o3' (w4.alloc (.cells #[.int .i64 e2.w, .int .i64 e2.i, .int .u64 e2.p, .int .i64 e2.t, .int .i64 e2.u, .int .i64 e2.n, .slice ay4 e2.b.length cy4, .int .u64 e2.g] 47)) (newTo o4' w4 9)) := HV4.out.trans (hbx.2.2.2.widen (by simp))
          have HY5 : Hid (Kp0 (w4.alloc (.cells #[.int .i64 e2.w, .int .i64 e2.i, .int .u64 e2.p, .int .i64 e2.t, .int .i64 e2.u, .int .i64 e2.n, .slice ay4 e2.b.length cy4, .int .u64 e2.g] 47)) (newTo o4' w4 9) (.slice ay4 e2.b.length cy4) e2.b) := HY4.out.mv hbx.2.2.2 (by simp)
          clear hbx HP4 HV4 HY4
          generalize newTo o4' w4 9 = o5' at *
          generalize w4.alloc (.cells #[.int .i64 e2.w, .int .i64 e2.i, .int .u64 e2.p, .int .i64 e2.t, .int .i64 e2.u, .int .i64 e2.n, .slice ay4 e2.b.length cy4, .int .u64 e2.g] 47) = w5x at *
          obtain ⟨nd, hnd⟩ : ∃ nd, nd = w4.heap.size := ⟨_, rfl⟩
          rw [← hnd] at HD5 ⊢
          clear hnd
          have HC5 : Hid (Blk w5x nc 47 [.int .i64 e2.w, .int .i64 e2.i, .int .u64 e2.p, .int .i64 e2.t, .int .i64 e2.u, .int .i64 e2.n, .slice ay2 e2.b.length cy2, .int .u64 e2.g]) := HC3.out.block (HW5.out.block nc HC3.out.lt (by rw [HO3.out]; simp))
          have HSm : Hid (Calls Try.prog 21 #[.agg #[.int .i64 e2.w, .int .i64 e2.i, .int .u64 e2.p, .int .i64 e2.t, .int .i64 e2.u, .int .i64 e2.n, .slice ay2 e2.b.length cy2, .int .u64 e2.g], .agg #[.int .i64 e2.w, .int .i64 e2.i, .int .u64 e2.p, .int .i64 e2.t, .int .i64 e2.u, .int .i64 e2.n, .slice ay4 e2.b.length cy4, .int .u64 e2.g]] w5x fun r w' => r = .returned (.bool true) ∧ Below w5x.heap.size w5x w') := (show Calls _ _ _ _ _ from by
            have := refsameE_any w5x e2 e2 (.slice ay2 e2.b.length cy2) (.slice ay4 e2.b.length cy4) (HY3.out.mv HW5.out (by simp)).1 HY5.out.1
            rw [(sameB_iff e2 e2).2 rfl] at this
            exact this)
          have c0 := HC5.out.cell 0 _ rfl; have c1 := HC5.out.cell 1 _ rfl; have c2 := HC5.out.cell 2 _ rfl; have c3 := HC5.out.cell 3 _ rfl; have c4 := HC5.out.cell 4 _ rfl; have c5 := HC5.out.cell 5 _ rfl; have c6 := HC5.out.cell 6 _ rfl; have c7 := HC5.out.cell 7 _ rfl; have dd0 := HD5.out.cell 0 _ rfl; have dd1 := HD5.out.cell 1 _ rfl; have dd2 := HD5.out.cell 2 _ rfl; have dd3 := HD5.out.cell 3 _ rfl; have dd4 := HD5.out.cell 4 _ rfl; have dd5 := HD5.out.cell 5 _ rfl; have dd6 := HD5.out.cell 6 _ rfl; have dd7 := HD5.out.cell 7 _ rfl
          go_wp2_with (first
            | (go_at_call 21; go_must (refine (Calls.mono HSm.out ?_); rintro r6 w6x ⟨rfl, hb6⟩; have HP6 : Hid (PX w w6x (newTo o5' w5x 0) b la lb rr lx ly s p S2 T4 L2 L2.es M M.es) := HP5.out.below hb6; clear hb6))
            | (go_at_call 18; go_must (refine (HP6.out.sameA HH4.out.1 (by have := HRw.out; have := HH4.out.2.2; have := HI2.out.len; omega)).mono ?_; rintro r7 w7x ⟨rfl, o7', h1, h2⟩; have HP7 : Hid (PX w w7x o7' b la lb rr lx ly s p S2 S2 L2 L2.es M M.es) := h1; clear h1 h2)))
          go_roundw
          case rel =>
            have hr := HRw.out
            have hl := HI2.out.len
            have hh := HH4.out
            refine ⟨i + 1, S2, L2, M, o7', by go_num, by omega, HP7, ⟨fine_head hh.1 HP6.out.orc.good hh.2.1 (by omega), by omega, ?_⟩⟩
            by_cases hk : kk2 = 0
            · rw [(HI2.out.yes hk).es]; simp; omega
            · rw [(HI2.out.no hk).2.2]; omega
          case measure => simp [intOf]; omega
        · by_cases hk1 : qk = 1
          · subst hk1
            have hqN := HOkq.out.2.2.2.1
            unfold I64 at hqN
            obtain ⟨vx, psx, hAx⟩ := HRD.out.px.xlog
            have HXl : Hid (L.es.length = psx.length) := hAx.len
            obtain ⟨avx, cvx, hvx, hcx1, hcx2, _⟩ := hAx.row.slice
            subst hvx
            unfold maxLen at hcx2
            have HAx : Hid (RLogAt w1 o1 5 lx 1 p L.es (.slice avx psx.length cvx) psx) := hAx
            have hfx := hAx.few
            clear hAx
            by_cases hlo : qN < 0
            · go_upto_region 25 with fail
              have n4 := fun z : WIn (fun w' => ∃ o', Mv [] w1 o1 w' o') => (HRD.out.opAt z.ok.choose_spec (by simp)).cell 4 _ rfl
              have nx := fun z : WIn (fun w' => ∃ o', Mv [] w1 o1 w' o') => (HAx.out.mv z.ok.choose_spec (by simp) (by simp)).blk.cell 2 _ rfl
              have ne : Nonempty (WIn (fun w' => ∃ o', Mv [] w1 o1 w' o')) := ⟨⟨w1, o1, Mv.refl _ _ _⟩⟩
              refine wp_region_ord (C := fun w' => ∃ z : WIn (fun w' => ∃ o', Mv [] w1 o1 w' o'), w' = z.w) [(false, 0), (false, 1), (false, 2), (false, 3), (false, 4), (false, 5), (false, 6), (false, 7), (false, 8), (false, 9), (false, 10), (false, 11), (false, 12)] (by kernel_rfl) (by kernel_rfl) ⟨⟨w1.drew, o1, mv_drewn w1 o1⟩, rfl⟩ ?_
              iterate 13 (refine ord_still rfl rfl ?_; go_big_quiet_step (fail); refine wpQuiet_nil ?_)
              refine ord_end ?_
              clear n4 nx ne
              clear p0 p1 p2 p3 p4 p5 p6 p7 p8 p9 p10 p11 p12 p13 k0 k1 k2 k3 k4 k5 k6 k7
              have HPd : Hid (PX w w1.drew o1 b la lb rr lx ly s p S S L L.es M M.es) := HRD.out.px.drew
              generalize w1.drew = wd1 at *
              go_wp2_with fail
              go_roundw
              case rel =>
                have hr := HRw.out
                exact ⟨i + 1, S, L, M, o1, by go_num, by omega, HPd, ⟨hr.1, by omega, by omega⟩⟩
              case measure => simp [intOf]; omega
            by_cases hhi : (psx.length : Int) ≤ qN
            · go_upto_region 25 with fail
              have n4 := fun z : WIn (fun w' => ∃ o', Mv [] w1 o1 w' o') => (HRD.out.opAt z.ok.choose_spec (by simp)).cell 4 _ rfl
              have nx := fun z : WIn (fun w' => ∃ o', Mv [] w1 o1 w' o') => (HAx.out.mv z.ok.choose_spec (by simp) (by simp)).blk.cell 2 _ rfl
              have ne : Nonempty (WIn (fun w' => ∃ o', Mv [] w1 o1 w' o')) := ⟨⟨w1, o1, Mv.refl _ _ _⟩⟩
              refine wp_region_ord (C := fun w' => ∃ z : WIn (fun w' => ∃ o', Mv [] w1 o1 w' o'), w' = z.w) [(false, 0), (false, 1), (false, 2), (false, 3), (false, 4), (false, 5), (false, 6), (false, 7), (false, 8), (false, 9), (false, 10), (false, 11), (false, 12)] (by kernel_rfl) (by kernel_rfl) ⟨⟨w1.drew, o1, mv_drewn w1 o1⟩, rfl⟩ ?_
              iterate 13 (refine ord_still rfl rfl ?_; go_big_quiet_step (fail); refine wpQuiet_nil ?_)
              refine ord_end ?_
              clear n4 nx ne
              clear p0 p1 p2 p3 p4 p5 p6 p7 p8 p9 p10 p11 p12 p13 k0 k1 k2 k3 k4 k5 k6 k7
              have HPd : Hid (PX w w1.drew o1 b la lb rr lx ly s p S S L L.es M M.es) := HRD.out.px.drew
              generalize w1.drew = wd1 at *
              go_wp2_with fail
              go_roundw
              case rel =>
                have hr := HRw.out
                exact ⟨i + 1, S, L, M, o1, by go_num, by omega, HPd, ⟨hr.1, by omega, by omega⟩⟩
              case measure => simp [intOf]; omega
            obtain ⟨nN, hnN⟩ : ∃ nN : Nat, qN = nN := ⟨qN.toNat, by omega⟩
            subst hnN
            have hn1 : (nN : Int) < psx.length := by omega
            have hn0 : ¬ (nN : Int) < 0 := by omega
            have hn2 : ¬ (psx.length : Int) ≤ nN := by omega
            clear hhi hlo
            obtain ⟨jj, hjj⟩ : ∃ jj : Nat, (psx.length : Int) - 1 - nN = jj := ⟨psx.length - 1 - nN, by omega⟩
            have hjl : (jj : Int) < psx.length := by omega
            have hjl' : jj < psx.length := by omega
            obtain ⟨q', hq'⟩ : ∃ q', psx[jj]? = some q' := ⟨_, List.getElem?_eq_getElem hjl'⟩
            obtain ⟨gx, offx, hgx, _⟩ := (rowE_c HAx.out.row).at hq'
            subst hgx
            have hmem : q'.1 ∈ L.es := by rw [← HAx.out.es]; exact List.mem_map.2 ⟨q', List.mem_of_getElem? hq', rfl⟩
            have hEq := HAx.out.ents q' (List.mem_of_getElem? hq')
            obtain ⟨j9, hj9⟩ := HRD.out.px.g.whole.mem hmem
            have hz9 := (check_zero _ _ _ _ _).1 (HRD.out.px.g.whole.each j9 q'.1 hj9).1
            have hsh : q'.1.b.length ≤ 1100 := hz9.1.2.2.2.2.2.2
            have HQ : Hid (psx[jj]? = some q') := hq'
            have hEq1 := hEq.1
            have hEq2 := hEq.2
            clear hmem hj9 hz9 hq' hEq
            obtain ⟨⟨fw, fi, fp, ft, fu, fn, fb, fg⟩, fx⟩ := q'
            dsimp only at *
            obtain ⟨af, cf, hfs⟩ := hEq2.1.len
            subst hfs
            have HEf : Hid (EOk (⟨fw, fi, fp, ft, fu, fn, fb, fg⟩ : Ent)) := hEq1
            have HKf : Hid (Kp0 w1 o1 (.slice af fb.length cf) fb) := hEq2
            have HLf : Hid (fb.length ≤ 90000) := (show _ ≤ _ from by omega)
            clear hEq1 hEq2
            clear hsh
            go_upto_region 25 with fail
            have n4 := fun z : WIn (fun w' => ∃ o', Mv [] w1 o1 w' o') => (HRD.out.opAt z.ok.choose_spec (by simp)).cell 4 _ rfl
            have nx := fun z : WIn (fun w' => ∃ o', Mv [] w1 o1 w' o') => (HAx.out.mv z.ok.choose_spec (by simp) (by simp)).blk.cell 2 _ rfl
            have ne : Nonempty (WIn (fun w' => ∃ o', Mv [] w1 o1 w' o')) := ⟨⟨w1, o1, Mv.refl _ _ _⟩⟩
            refine wp_region_ord (C := fun w' => ∃ z : WIn (fun w' => ∃ o', Mv [] w1 o1 w' o'), w' = z.w) [(false, 0), (false, 1), (false, 2), (false, 3), (false, 4), (false, 5), (false, 6), (false, 7), (false, 8), (false, 9), (false, 10), (false, 11), (false, 12)] (by kernel_rfl) (by kernel_rfl) ⟨⟨w1.drew, o1, mv_drewn w1 o1⟩, rfl⟩ ?_
            iterate 13 (refine ord_still rfl rfl ?_; go_big_quiet_step (fail); refine wpQuiet_nil ?_)
            refine ord_end ?_
            clear n4 nx ne
            have HRd : Hid (RD w w1.drew o1 b la lb rr lx ly s p S L M nb [.int .i64 1, .int .i64 qt, .int .i64 qn, .slice ax qb.length cx, .int .i64 (nN : Int), .int .i64 qf, .int .i64 ew, .int .i64 ei, .int .u64 ep, .int .i64 et, .int .i64 eu, .int .i64 en, .slice ay eb.length cy, .int .u64 eg] [.int .i64 ew, .int .i64 ei, .int .u64 ep, .int .i64 et, .int .i64 eu, .int .i64 en, .slice ay eb.length cy, .int .u64 eg]) := HRD.out.drew
            have HAd : Hid (RLogAt w1.drew o1 5 lx 1 p L.es (.slice (some ⟨gx, offx, none⟩) psx.length cvx) psx) := HAx.out.mv (mv_drewn (I := []) w1 o1) (by simp) (by simp)
            have HKg : Hid (Kp0 w1.drew o1 (.slice af fb.length cf) fb) := HKf.out.mv (mv_drewn (I := []) w1 o1) (by simp)
            clear p0 p1 p2 p3 p4 p5 p6 p7 p8 p9 p10 p11 p12 p13 k0 k1 k2 k3 k4 k5 k6 k7 HRD HAx HKf
            generalize w1.drew = wd1 at *
            go_upto_region 26 with fail
            have n4 := fun z : WIn (fun w' => ∃ o', Mv [7] wd1 o1 w' o') => (HRd.out.opAt z.ok.choose_spec (by simp)).cell 4 _ rfl
            have nx := fun z : WIn (fun w' => ∃ o', Mv [7] wd1 o1 w' o') => (HAd.out.mv z.ok.choose_spec (by simp) (by simp)).blk.cell 2 _ rfl
            have nz0 := fun z : WIn (fun w' => ∃ o', Mv [7] wd1 o1 w' o') => (HAd.out.mv z.ok.choose_spec (by simp) (by simp)).cellAt HQ.out 0 _ rfl
            have nz1 := fun z : WIn (fun w' => ∃ o', Mv [7] wd1 o1 w' o') => (HAd.out.mv z.ok.choose_spec (by simp) (by simp)).cellAt HQ.out 1 _ rfl
            have nz2 := fun z : WIn (fun w' => ∃ o', Mv [7] wd1 o1 w' o') => (HAd.out.mv z.ok.choose_spec (by simp) (by simp)).cellAt HQ.out 2 _ rfl
            have nz3 := fun z : WIn (fun w' => ∃ o', Mv [7] wd1 o1 w' o') => (HAd.out.mv z.ok.choose_spec (by simp) (by simp)).cellAt HQ.out 3 _ rfl
            have nz4 := fun z : WIn (fun w' => ∃ o', Mv [7] wd1 o1 w' o') => (HAd.out.mv z.ok.choose_spec (by simp) (by simp)).cellAt HQ.out 4 _ rfl
            have nz5 := fun z : WIn (fun w' => ∃ o', Mv [7] wd1 o1 w' o') => (HAd.out.mv z.ok.choose_spec (by simp) (by simp)).cellAt HQ.out 5 _ rfl
            have nz6 := fun z : WIn (fun w' => ∃ o', Mv [7] wd1 o1 w' o') => (HAd.out.mv z.ok.choose_spec (by simp) (by simp)).cellAt HQ.out 6 _ rfl
            have nz7 := fun z : WIn (fun w' => ∃ o', Mv [7] wd1 o1 w' o') => (HAd.out.mv z.ok.choose_spec (by simp) (by simp)).cellAt HQ.out 7 _ rfl
            simp only [Nat.add_zero] at nz0
            have ne : Nonempty (WIn (fun w' => ∃ o', Mv [7] wd1 o1 w' o')) := ⟨⟨wd1, o1, Mv.refl _ _ _⟩⟩
            refine wp_region_ord (C := fun w' => ∃ z : WIn (fun w' => ∃ o', Mv [7] wd1 o1 w' o'), w' = z.w) [(false, 0), (false, 1), (false, 2), (false, 3), (false, 4), (false, 5), (false, 6), (false, 7), (false, 8), (false, 9), (false, 10), (false, 11), (false, 12), (false, 13), (false, 14), (true, 15)] (by kernel_rfl) (by kernel_rfl) ⟨⟨wd1.drew, o1, mv_drewn wd1 o1⟩, rfl⟩ ?_
            have HRe : Hid (RD w wd1.drew o1 b la lb rr lx ly s p S L M nb [.int .i64 1, .int .i64 qt, .int .i64 qn, .slice ax qb.length cx, .int .i64 (nN : Int), .int .i64 qf, .int .i64 ew, .int .i64 ei, .int .u64 ep, .int .i64 et, .int .i64 eu, .int .i64 en, .slice ay eb.length cy, .int .u64 eg] [.int .i64 ew, .int .i64 ei, .int .u64 ep, .int .i64 et, .int .i64 eu, .int .i64 en, .slice ay eb.length cy, .int .u64 eg]) := HRd.out.drew
            have HKh : Hid (Kp0 wd1.drew o1 (.slice af fb.length cf) fb) := HKg.out.mv (mv_drewn (I := []) wd1 o1) (by simp)
            have HMd : Hid (Mv [7] wd1 o1 wd1.drew o1) := mv_drewn wd1 o1
            generalize wd1.drew = wd2 at *
            iterate 15 (refine ord_still rfl rfl ?_; go_big_quiet_step (fail); refine wpQuiet_nil ?_)
            have k0 := HRe.out.eb.cell 0 _ rfl; have fz0 := HRe.out.eb.frozen 0; have k1 := HRe.out.eb.cell 1 _ rfl; have fz1 := HRe.out.eb.frozen 1; have k2 := HRe.out.eb.cell 2 _ rfl; have fz2 := HRe.out.eb.frozen 2; have k3 := HRe.out.eb.cell 3 _ rfl; have fz3 := HRe.out.eb.frozen 3; have k4 := HRe.out.eb.cell 4 _ rfl; have fz4 := HRe.out.eb.frozen 4; have k5 := HRe.out.eb.cell 5 _ rfl; have fz5 := HRe.out.eb.frozen 5; have k6 := HRe.out.eb.cell 6 _ rfl; have fz6 := HRe.out.eb.frozen 6; have k7 := HRe.out.eb.cell 7 _ rfl; have fz7 := HRe.out.eb.frozen 7
            refine ord_mem rfl rfl ?_
            go_simp
            have HR3 : Hid (RD w ((((((((wd2.setCell ⟨nb + 1, 0, none⟩ (.int .i64 fw)).setCell ⟨nb + 1, 1, none⟩ (.int .i64 fi)).setCell ⟨nb + 1, 2, none⟩ (.int .u64 fp)).setCell ⟨nb + 1, 3, none⟩ (.int .i64 ft)).setCell ⟨nb + 1, 4, none⟩ (.int .i64 fu)).setCell ⟨nb + 1, 5, none⟩ (.int .i64 fn)).setCell ⟨nb + 1, 6, none⟩ (.slice af fb.length cf)).setCell ⟨nb + 1, 7, none⟩ (.int .u64 fg)) o1 b la lb rr lx ly s p S L M nb [.int .i64 1, .int .i64 qt, .int .i64 qn, .slice ax qb.length cx, .int .i64 (nN : Int), .int .i64 qf, .int .i64 ew, .int .i64 ei, .int .u64 ep, .int .i64 et, .int .i64 eu, .int .i64 en, .slice ay eb.length cy, .int .u64 eg] [.int .i64 fw, .int .i64 fi, .int .u64 fp, .int .i64 ft, .int .i64 fu, .int .i64 fn, .slice af fb.length cf, .int .u64 fg] ∧ Mv [7] wd2 o1 ((((((((wd2.setCell ⟨nb + 1, 0, none⟩ (.int .i64 fw)).setCell ⟨nb + 1, 1, none⟩ (.int .i64 fi)).setCell ⟨nb + 1, 2, none⟩ (.int .u64 fp)).setCell ⟨nb + 1, 3, none⟩ (.int .i64 ft)).setCell ⟨nb + 1, 4, none⟩ (.int .i64 fu)).setCell ⟨nb + 1, 5, none⟩ (.int .i64 fn)).setCell ⟨nb + 1, 6, none⟩ (.slice af fb.length cf)).setCell ⟨nb + 1, 7, none⟩ (.int .u64 fg)) o1) := HRe.out.setE (.int .i64 fw) (.int .i64 fi) (.int .u64 fp) (.int .i64 ft) (.int .i64 fu) (.int .i64 fn) (.slice af fb.length cf) (.int .u64 fg)
            clear k0 k1 k2 k3 k4 k5 k6 k7 fz0 fz1 fz2 fz3 fz4 fz5 fz6 fz7
            generalize ((((((((wd2.setCell ⟨nb + 1, 0, none⟩ (.int .i64 fw)).setCell ⟨nb + 1, 1, none⟩ (.int .i64 fi)).setCell ⟨nb + 1, 2, none⟩ (.int .u64 fp)).setCell ⟨nb + 1, 3, none⟩ (.int .i64 ft)).setCell ⟨nb + 1, 4, none⟩ (.int .i64 fu)).setCell ⟨nb + 1, 5, none⟩ (.int .i64 fn)).setCell ⟨nb + 1, 6, none⟩ (.slice af fb.length cf)).setCell ⟨nb + 1, 7, none⟩ (.int .u64 fg)) = w3x at *
            refine ⟨⟨⟨w3x, o1, HMd.out.trans HR3.out.2⟩, rfl⟩, ?_⟩
            refine ord_end ?_
            clear n4 nx ne nz0 nz1 nz2 nz3 nz4 nz5 nz6 nz7 hjj
            have HRz : Hid (RD w w3x o1 b la lb rr lx ly s p S L M nb [.int .i64 1, .int .i64 qt, .int .i64 qn, .slice ax qb.length cx, .int .i64 (nN : Int), .int .i64 qf, .int .i64 ew, .int .i64 ei, .int .u64 ep, .int .i64 et, .int .i64 eu, .int .i64 en, .slice ay eb.length cy, .int .u64 eg] [.int .i64 fw, .int .i64 fi, .int .u64 fp, .int .i64 ft, .int .i64 fu, .int .i64 fn, .slice af fb.length cf, .int .u64 fg]) := HR3.out.1
            have HKz : Hid (Kp0 w3x o1 (.slice af fb.length cf) fb) := HKh.out.mv HR3.out.2 (by simp)
            clear HR3 HKh HKg HRe HRd HAd HMd
            have p0 := HRz.out.op.cell 0 _ rfl
            have p5 := HRz.out.op.cell 5 _ rfl
            go_upto_region 29 with fail
            clear p0 p5
            obtain ⟨wz, hwz⟩ : ∃ wz, wz = w3x := ⟨_, rfl⟩
            rw [← hwz] at HRz HKz ⊢
            clear hwz
            have nn0 := fun z : WIn (fun w' => ∃ o', Mv [1, 4, 6, 8] wz o1 w' o') => (HRz.out.ebAt z.ok.choose_spec (by simp)).cell 0 _ rfl
            have nn1 := fun z : WIn (fun w' => ∃ o', Mv [1, 4, 6, 8] wz o1 w' o') => (HRz.out.ebAt z.ok.choose_spec (by simp)).cell 1 _ rfl
            have nn2 := fun z : WIn (fun w' => ∃ o', Mv [1, 4, 6, 8] wz o1 w' o') => (HRz.out.ebAt z.ok.choose_spec (by simp)).cell 2 _ rfl
            have nn3 := fun z : WIn (fun w' => ∃ o', Mv [1, 4, 6, 8] wz o1 w' o') => (HRz.out.ebAt z.ok.choose_spec (by simp)).cell 3 _ rfl
            have nn4 := fun z : WIn (fun w' => ∃ o', Mv [1, 4, 6, 8] wz o1 w' o') => (HRz.out.ebAt z.ok.choose_spec (by simp)).cell 4 _ rfl
            have nn5 := fun z : WIn (fun w' => ∃ o', Mv [1, 4, 6, 8] wz o1 w' o') => (HRz.out.ebAt z.ok.choose_spec (by simp)).cell 5 _ rfl
            have nn6 := fun z : WIn (fun w' => ∃ o', Mv [1, 4, 6, 8] wz o1 w' o') => (HRz.out.ebAt z.ok.choose_spec (by simp)).cell 6 _ rfl
            have nn7 := fun z : WIn (fun w' => ∃ o', Mv [1, 4, 6, 8] wz o1 w' o') => (HRz.out.ebAt z.ok.choose_spec (by simp)).cell 7 _ rfl
            have ne : Nonempty (WIn (fun w' => ∃ o', Mv [1, 4, 6, 8] wz o1 w' o')) := ⟨⟨wz, o1, Mv.refl _ _ _⟩⟩
            obtain ⟨kc, hkc⟩ : ∃ kc, checkM S 1 p M (⟨fw, fi, fp, ft, fu, fn, fb, fg⟩ : Ent) = kc := ⟨_, rfl⟩
            have HKc : Hid (checkM S 1 p M (⟨fw, fi, fp, ft, fu, fn, fb, fg⟩ : Ent) = kc) := hkc
            clear hkc
            refine wp_region_ord (C := fun w' => ∃ z : WIn (fun w' => ∃ o', Mv [1, 4, 6, 8] wz o1 w' o'), w' = z.w) [(false, 0), (false, 1), (false, 3), (false, 4), (false, 5), (true, 2), (true, 6), (false, 7), (false, 8), (false, 9), (false, 10), (false, 12), (false, 13), (false, 14), (true, 11), (true, 15), (false, 16), (false, 17), (false, 18), (false, 19), (false, 20), (false, 21), (true, 22), (false, 23), (false, 24)] (by kernel_rfl) (by kernel_rfl) ⟨⟨wz.drew, o1, mv_drewn wz o1⟩, rfl⟩ ?_
            have HPd : Hid (PX w wz.drew o1 b la lb rr lx ly s p S S L L.es M M.es) := HRz.out.px.drew
            have HMd : Hid (Mv [1, 4, 6, 8] wz o1 wz.drew o1) := mv_drewn wz o1
            have HKd : Hid (Kp0 wz.drew o1 (.slice af fb.length cf) fb) := HKz.out.mv HMd.out (by simp)
            generalize wz.drew = wd at *
            iterate 5 (refine ord_still rfl rfl ?_; go_big_quiet_step (fail); refine wpQuiet_nil ?_)
            refine ord_mem rfl rfl ?_
            go_simp
            have HCk : Hid (Calls Try.prog 23 #[ptr lb, .agg #[.int .i64 fw, .int .i64 fi, .int .u64 fp, .int .i64 ft, .int .i64 fu, .int .i64 fn, .slice af fb.length cf, .int .u64 fg]] wd fun q w' => q = .returned (.int .i64 kc) ∧ Below wd.heap.size wd w') := (show Calls _ _ _ _ _ from by rw [← HKc.out]; exact HPd.out.check HEf.out HKd.out HLf.out)
            refine (Calls.mono HCk.out ?_)
            rintro r2 w2x ⟨rfl, hb2⟩
            have HM2 : Hid (Mv [1, 4, 6, 8] wz o1 w2x (newTo o1 wd 0)) := HMd.out.trans (Mv.of_below 0 hb2)
            have HP2 : Hid (PX w w2x (newTo o1 wd 0) b la lb rr lx ly s p S S L L.es M M.es) := HPd.out.below hb2
            have HK2 : Hid (Kp0 w2x (newTo o1 wd 0) (.slice af fb.length cf) fb) := HKz.out.mv HM2.out (by simp)
            clear hb2 HCk HKd HPd HMd
            generalize newTo o1 wd 0 = o2x at *
            refine ⟨⟨⟨w2x, _, HM2.out⟩, rfl⟩, ?_⟩
            refine ord_mem rfl rfl ?_
            go_simp
            have HRk : Hid (Calls Try.prog 24 #[ptr ly, ptr rr, .agg #[.int .i64 fw, .int .i64 fi, .int .u64 fp, .int .i64 ft, .int .i64 fu, .int .i64 fn, .slice af fb.length cf, .int .u64 fg]] w2x fun q w' => q = .returned (.int .i64 kc) ∧ ∃ o', PX w w' o' b la lb rr lx ly s p S S L L.es M M.es ∧ Mv [8] w2x o2x w' o') := (show Calls _ _ _ _ _ from by rw [← HKc.out]; exact HP2.out.rcheck HRw.out.1 HEf.out HK2.out (by have := HRw.out; omega))
            refine (Calls.mono HRk.out ?_)
            rintro r3 w3x ⟨rfl, o3x, h1, h2⟩
            have HM3 : Hid (Mv [1, 4, 6, 8] wz o1 w3x o3x) := HM2.out.trans (h2.widen (by simp))
            have HP3 : Hid (PX w w3x o3x b la lb rr lx ly s p S S L L.es M M.es) := h1
            have HK3 : Hid (Kp0 w3x o3x (.slice af fb.length cf) fb) := HKz.out.mv HM3.out (by simp)
            clear h1 h2 HRk HP2 HK2 HM2
            refine ⟨⟨⟨w3x, _, HM3.out⟩, rfl⟩, ?_⟩
            iterate 7 (refine ord_still rfl rfl ?_; go_big_quiet_step (fail); refine wpQuiet_nil ?_)
            refine ord_mem rfl rfl ?_
            go_simp
            have HAc : Hid (Calls Try.prog 25 #[ptr lb, .agg #[.int .i64 fw, .int .i64 fi, .int .u64 fp, .int .i64 ft, .int .i64 fu, .int .i64 fn, .slice af fb.length cf, .int .u64 fg]] w3x fun q w' => ∃ k S' M' o', q = .returned (.int .i64 k) ∧ acceptM S 1 p M (⟨fw, fi, fp, ft, fu, fn, fb, fg⟩ : Ent) = (k, S', M') ∧ S'.rows.length ≤ S.rows.length + 1 ∧ PX w w' o' b la lb rr lx ly s p S' S L L.es M' M.es ∧ Mv [1, 4] w3x o3x w' o') := HP3.out.accept (by have := HRw.out; omega) HEf.out HK3.out HLf.out
            refine (Calls.mono HAc.out ?_)
            rintro r4 w4x ⟨k4, S4, M4, o4x, rfl, h1, h2, h3, h4⟩
            have HM4 : Hid (Mv [1, 4, 6, 8] wz o1 w4x o4x) := HM3.out.trans (h4.widen (by simp))
            have HP4 : Hid (PX w w4x o4x b la lb rr lx ly s p S4 S L L.es M4 M.es) := h3
            have HA4 : Hid (acceptM S 1 p M (⟨fw, fi, fp, ft, fu, fn, fb, fg⟩ : Ent) = (k4, S4, M4) ∧ S4.rows.length ≤ S.rows.length + 1) := ⟨h1, h2⟩
            have HK4x : Hid (Kp0 w4x o4x (.slice af fb.length cf) fb) := HKz.out.mv HM4.out (by simp)
            clear h1 h2 h3 h4 HAc HP3 HK3 HM3
            refine ⟨⟨⟨w4x, _, HM4.out⟩, rfl⟩, ?_⟩
            refine ord_mem rfl rfl ?_
            go_simp
            have HRa : Hid (Calls Try.prog 26 #[ptr ly, ptr rr, .agg #[.int .i64 fw, .int .i64 fi, .int .u64 fp, .int .i64 ft, .int .i64 fu, .int .i64 fn, .slice af fb.length cf, .int .u64 fg]] w4x fun q w' => q = .returned (.int .i64 k4) ∧ ∃ o', PX w w' o' b la lb rr lx ly s p S4 S L L.es M4 M4.es ∧ headM S M4.es = (M4.sum, S4) ∧ Mv [8, 6] w4x o4x w' o') := HP4.out.raccept HRz.out.px.g.key HRz.out.px.duo.whole HRw.out.1 HEf.out HK4x.out (by have := HRw.out; omega) HA4.out.1
            refine (Calls.mono HRa.out ?_)
            rintro r5 w5x ⟨rfl, o5x, h1, h2, h3⟩
            have HM5 : Hid (Mv [1, 4, 6, 8] wz o1 w5x o5x) := HM4.out.trans (h3.widen (by simp))
            have HP5 : Hid (PX w w5x o5x b la lb rr lx ly s p S4 S L L.es M4 M4.es) := h1
            have HH5 : Hid (headM S M4.es = (M4.sum, S4)) := h2
            clear h1 h2 h3 HRa HP4 HK4x HM4
            refine ⟨⟨⟨w5x, _, HM5.out⟩, rfl⟩, ?_⟩
            iterate 6 (refine ord_still rfl rfl ?_; go_big_quiet_step (fail); refine wpQuiet_nil ?_)
            refine ord_mem rfl rfl ?_
            go_simp
            refine (HP5.out.sameB HH5.out (by have := HRw.out; omega)).mono ?_
            rintro r6 w6x ⟨rfl, o6x, h1, h2⟩
            have HP6 : Hid (PX w w6x o6x b la lb rr lx ly s p S4 S4 L L.es M4 M4.es) := h1
            refine ⟨⟨⟨w6x, _, HM5.out.trans (h2.widen (by simp))⟩, rfl⟩, ?_⟩
            clear h1 h2
            iterate 2 (refine ord_still rfl rfl ?_; go_big_quiet_step (fail); refine wpQuiet_nil ?_)
            refine ord_end ?_
            clear ne nn0 nn1 nn2 nn3 nn4 nn5 nn6 nn7
            go_wp2_with fail
            go_roundw
            case rel =>
              have hr := HRw.out
              have hl := HA4.out.2
              exact ⟨i + 1, S4, L, M4, o6x, by go_num, by omega, HP6, ⟨fine_head HH5.out HRz.out.px.orc.good hr.1 (by omega), by omega, by omega⟩⟩
            case measure => simp [intOf]; omega
          · by_cases hk2 : qk = 2
            · subst hk2
              have hqN := HOkq.out.2.2.2.1
              unfold I64 at hqN
              obtain ⟨vx, psx, hAx⟩ := HRD.out.px.xlog
              have HXl : Hid (L.es.length = psx.length) := hAx.len
              obtain ⟨avx, cvx, hvx, hcx1, hcx2, _⟩ := hAx.row.slice
              subst hvx
              unfold maxLen at hcx2
              have HAx : Hid (RLogAt w1 o1 5 lx 1 p L.es (.slice avx psx.length cvx) psx) := hAx
              have hfx := hAx.few
              clear hAx
              by_cases hlo : qN < 0
              · go_upto_region 25 with fail
                have n4 := fun z : WIn (fun w' => ∃ o', Mv [] w1 o1 w' o') => (HRD.out.opAt z.ok.choose_spec (by simp)).cell 4 _ rfl
                have nx := fun z : WIn (fun w' => ∃ o', Mv [] w1 o1 w' o') => (HAx.out.mv z.ok.choose_spec (by simp) (by simp)).blk.cell 2 _ rfl
                have ne : Nonempty (WIn (fun w' => ∃ o', Mv [] w1 o1 w' o')) := ⟨⟨w1, o1, Mv.refl _ _ _⟩⟩
                refine wp_region_ord (C := fun w' => ∃ z : WIn (fun w' => ∃ o', Mv [] w1 o1 w' o'), w' = z.w) [(false, 0), (false, 1), (false, 2), (false, 3), (false, 4), (false, 5), (false, 6), (false, 7), (false, 8), (false, 9), (false, 10), (false, 11), (false, 12)] (by kernel_rfl) (by kernel_rfl) ⟨⟨w1.drew, o1, mv_drewn w1 o1⟩, rfl⟩ ?_
                iterate 13 (refine ord_still rfl rfl ?_; go_big_quiet_step (fail); refine wpQuiet_nil ?_)
                refine ord_end ?_
                clear n4 nx ne
                clear p0 p1 p2 p3 p4 p5 p6 p7 p8 p9 p10 p11 p12 p13 k0 k1 k2 k3 k4 k5 k6 k7
                have HPd : Hid (PX w w1.drew o1 b la lb rr lx ly s p S S L L.es M M.es) := HRD.out.px.drew
                generalize w1.drew = wd1 at *
                go_wp2_with fail
                go_roundw
                case rel =>
                  have hr := HRw.out
                  exact ⟨i + 1, S, L, M, o1, by go_num, by omega, HPd, ⟨hr.1, by omega, by omega⟩⟩
                case measure => simp [intOf]; omega
              by_cases hhi : (psx.length : Int) ≤ qN
              · go_upto_region 25 with fail
                have n4 := fun z : WIn (fun w' => ∃ o', Mv [] w1 o1 w' o') => (HRD.out.opAt z.ok.choose_spec (by simp)).cell 4 _ rfl
                have nx := fun z : WIn (fun w' => ∃ o', Mv [] w1 o1 w' o') => (HAx.out.mv z.ok.choose_spec (by simp) (by simp)).blk.cell 2 _ rfl
                have ne : Nonempty (WIn (fun w' => ∃ o', Mv [] w1 o1 w' o')) := ⟨⟨w1, o1, Mv.refl _ _ _⟩⟩
                refine wp_region_ord (C := fun w' => ∃ z : WIn (fun w' => ∃ o', Mv [] w1 o1 w' o'), w' = z.w) [(false, 0), (false, 1), (false, 2), (false, 3), (false, 4), (false, 5), (false, 6), (false, 7), (false, 8), (false, 9), (false, 10), (false, 11), (false, 12)] (by kernel_rfl) (by kernel_rfl) ⟨⟨w1.drew, o1, mv_drewn w1 o1⟩, rfl⟩ ?_
                iterate 13 (refine ord_still rfl rfl ?_; go_big_quiet_step (fail); refine wpQuiet_nil ?_)
                refine ord_end ?_
                clear n4 nx ne
                clear p0 p1 p2 p3 p4 p5 p6 p7 p8 p9 p10 p11 p12 p13 k0 k1 k2 k3 k4 k5 k6 k7
                have HPd : Hid (PX w w1.drew o1 b la lb rr lx ly s p S S L L.es M M.es) := HRD.out.px.drew
                generalize w1.drew = wd1 at *
                go_wp2_with fail
                go_roundw
                case rel =>
                  have hr := HRw.out
                  exact ⟨i + 1, S, L, M, o1, by go_num, by omega, HPd, ⟨hr.1, by omega, by omega⟩⟩
                case measure => simp [intOf]; omega
              obtain ⟨nN, hnN⟩ : ∃ nN : Nat, qN = nN := ⟨qN.toNat, by omega⟩
              subst hnN
              have hn1 : (nN : Int) < psx.length := by omega
              have hn0 : ¬ (nN : Int) < 0 := by omega
              have hn2 : ¬ (psx.length : Int) ≤ nN := by omega
              clear hhi hlo
              obtain ⟨jj, hjj⟩ : ∃ jj : Nat, (psx.length : Int) - 1 - nN = jj := ⟨psx.length - 1 - nN, by omega⟩
              have hjl : (jj : Int) < psx.length := by omega
              have hjl' : jj < psx.length := by omega
              obtain ⟨q', hq'⟩ : ∃ q', psx[jj]? = some q' := ⟨_, List.getElem?_eq_getElem hjl'⟩
              obtain ⟨gx, offx, hgx, _⟩ := (rowE_c HAx.out.row).at hq'
              subst hgx
              have hmem : q'.1 ∈ L.es := by rw [← HAx.out.es]; exact List.mem_map.2 ⟨q', List.mem_of_getElem? hq', rfl⟩
              have hEq := HAx.out.ents q' (List.mem_of_getElem? hq')
              obtain ⟨j9, hj9⟩ := HRD.out.px.g.whole.mem hmem
              have hz9 := (check_zero _ _ _ _ _).1 (HRD.out.px.g.whole.each j9 q'.1 hj9).1
              have hsh : q'.1.b.length ≤ 1100 := hz9.1.2.2.2.2.2.2
              have HQ : Hid (psx[jj]? = some q') := hq'
              have htk := turn_ok hEq.1 hz9.1 qf
              have hEq1 := hEq.1
              have hEq2 := hEq.2
              clear hmem hj9 hz9 hq' hEq
              obtain ⟨⟨fw, fi, fp, ft, fu, fn, fb, fg⟩, fx⟩ := q'
              dsimp only at *
              obtain ⟨af, cf, hfs⟩ := hEq2.1.len
              subst hfs
              have HEf : Hid (EOk (⟨fw, fi, fp, ft, fu, fn, fb, fg⟩ : Ent)) := hEq1
              have HKf : Hid (Kp0 w1 o1 (.slice af fb.length cf) fb) := hEq2
              have HLf : Hid (fb.length ≤ 90000) := (show _ ≤ _ from by omega)
              clear hEq1 hEq2
              have HTk : Hid (EOk (turnE (⟨fw, fi, fp, ft, fu, fn, fb, fg⟩ : Ent) qf) ∧ (turnE (⟨fw, fi, fp, ft, fu, fn, fb, fg⟩ : Ent) qf).b.length ≤ 90000) := ⟨htk.1, (show _ ≤ _ from by have h1 := htk.2; omega)⟩
              clear htk
              clear hsh
              go_upto_region 25 with fail
              have n4 := fun z : WIn (fun w' => ∃ o', Mv [] w1 o1 w' o') => (HRD.out.opAt z.ok.choose_spec (by simp)).cell 4 _ rfl
              have nx := fun z : WIn (fun w' => ∃ o', Mv [] w1 o1 w' o') => (HAx.out.mv z.ok.choose_spec (by simp) (by simp)).blk.cell 2 _ rfl
              have ne : Nonempty (WIn (fun w' => ∃ o', Mv [] w1 o1 w' o')) := ⟨⟨w1, o1, Mv.refl _ _ _⟩⟩
              refine wp_region_ord (C := fun w' => ∃ z : WIn (fun w' => ∃ o', Mv [] w1 o1 w' o'), w' = z.w) [(false, 0), (false, 1), (false, 2), (false, 3), (false, 4), (false, 5), (false, 6), (false, 7), (false, 8), (false, 9), (false, 10), (false, 11), (false, 12)] (by kernel_rfl) (by kernel_rfl) ⟨⟨w1.drew, o1, mv_drewn w1 o1⟩, rfl⟩ ?_
              iterate 13 (refine ord_still rfl rfl ?_; go_big_quiet_step (fail); refine wpQuiet_nil ?_)
              refine ord_end ?_
              clear n4 nx ne
              have HRd : Hid (RD w w1.drew o1 b la lb rr lx ly s p S L M nb [.int .i64 2, .int .i64 qt, .int .i64 qn, .slice ax qb.length cx, .int .i64 (nN : Int), .int .i64 qf, .int .i64 ew, .int .i64 ei, .int .u64 ep, .int .i64 et, .int .i64 eu, .int .i64 en, .slice ay eb.length cy, .int .u64 eg] [.int .i64 ew, .int .i64 ei, .int .u64 ep, .int .i64 et, .int .i64 eu, .int .i64 en, .slice ay eb.length cy, .int .u64 eg]) := HRD.out.drew
              have HAd : Hid (RLogAt w1.drew o1 5 lx 1 p L.es (.slice (some ⟨gx, offx, none⟩) psx.length cvx) psx) := HAx.out.mv (mv_drewn (I := []) w1 o1) (by simp) (by simp)
              have HKg : Hid (Kp0 w1.drew o1 (.slice af fb.length cf) fb) := HKf.out.mv (mv_drewn (I := []) w1 o1) (by simp)
              clear p0 p1 p2 p3 p4 p5 p6 p7 p8 p9 p10 p11 p12 p13 k0 k1 k2 k3 k4 k5 k6 k7 HRD HAx HKf
              generalize w1.drew = wd1 at *
              go_upto_region 26 with fail
              have n4 := fun z : WIn (fun w' => ∃ o', Mv [7] wd1 o1 w' o') => (HRd.out.opAt z.ok.choose_spec (by simp)).cell 4 _ rfl
              have nx := fun z : WIn (fun w' => ∃ o', Mv [7] wd1 o1 w' o') => (HAd.out.mv z.ok.choose_spec (by simp) (by simp)).blk.cell 2 _ rfl
              have nz0 := fun z : WIn (fun w' => ∃ o', Mv [7] wd1 o1 w' o') => (HAd.out.mv z.ok.choose_spec (by simp) (by simp)).cellAt HQ.out 0 _ rfl
              have nz1 := fun z : WIn (fun w' => ∃ o', Mv [7] wd1 o1 w' o') => (HAd.out.mv z.ok.choose_spec (by simp) (by simp)).cellAt HQ.out 1 _ rfl
              have nz2 := fun z : WIn (fun w' => ∃ o', Mv [7] wd1 o1 w' o') => (HAd.out.mv z.ok.choose_spec (by simp) (by simp)).cellAt HQ.out 2 _ rfl
              have nz3 := fun z : WIn (fun w' => ∃ o', Mv [7] wd1 o1 w' o') => (HAd.out.mv z.ok.choose_spec (by simp) (by simp)).cellAt HQ.out 3 _ rfl
              have nz4 := fun z : WIn (fun w' => ∃ o', Mv [7] wd1 o1 w' o') => (HAd.out.mv z.ok.choose_spec (by simp) (by simp)).cellAt HQ.out 4 _ rfl
              have nz5 := fun z : WIn (fun w' => ∃ o', Mv [7] wd1 o1 w' o') => (HAd.out.mv z.ok.choose_spec (by simp) (by simp)).cellAt HQ.out 5 _ rfl
              have nz6 := fun z : WIn (fun w' => ∃ o', Mv [7] wd1 o1 w' o') => (HAd.out.mv z.ok.choose_spec (by simp) (by simp)).cellAt HQ.out 6 _ rfl
              have nz7 := fun z : WIn (fun w' => ∃ o', Mv [7] wd1 o1 w' o') => (HAd.out.mv z.ok.choose_spec (by simp) (by simp)).cellAt HQ.out 7 _ rfl
              simp only [Nat.add_zero] at nz0
              have ne : Nonempty (WIn (fun w' => ∃ o', Mv [7] wd1 o1 w' o')) := ⟨⟨wd1, o1, Mv.refl _ _ _⟩⟩
              refine wp_region_ord (C := fun w' => ∃ z : WIn (fun w' => ∃ o', Mv [7] wd1 o1 w' o'), w' = z.w) [(false, 0), (false, 1), (false, 2), (false, 3), (false, 4), (false, 5), (false, 6), (false, 7), (false, 8), (false, 9), (false, 10), (false, 11), (false, 12), (false, 13), (false, 14), (true, 15)] (by kernel_rfl) (by kernel_rfl) ⟨⟨wd1.drew, o1, mv_drewn wd1 o1⟩, rfl⟩ ?_
              have HRe : Hid (RD w wd1.drew o1 b la lb rr lx ly s p S L M nb [.int .i64 2, .int .i64 qt, .int .i64 qn, .slice ax qb.length cx, .int .i64 (nN : Int), .int .i64 qf, .int .i64 ew, .int .i64 ei, .int .u64 ep, .int .i64 et, .int .i64 eu, .int .i64 en, .slice ay eb.length cy, .int .u64 eg] [.int .i64 ew, .int .i64 ei, .int .u64 ep, .int .i64 et, .int .i64 eu, .int .i64 en, .slice ay eb.length cy, .int .u64 eg]) := HRd.out.drew
              have HKh : Hid (Kp0 wd1.drew o1 (.slice af fb.length cf) fb) := HKg.out.mv (mv_drewn (I := []) wd1 o1) (by simp)
              have HMd : Hid (Mv [7] wd1 o1 wd1.drew o1) := mv_drewn wd1 o1
              generalize wd1.drew = wd2 at *
              iterate 15 (refine ord_still rfl rfl ?_; go_big_quiet_step (fail); refine wpQuiet_nil ?_)
              have k0 := HRe.out.eb.cell 0 _ rfl; have fz0 := HRe.out.eb.frozen 0; have k1 := HRe.out.eb.cell 1 _ rfl; have fz1 := HRe.out.eb.frozen 1; have k2 := HRe.out.eb.cell 2 _ rfl; have fz2 := HRe.out.eb.frozen 2; have k3 := HRe.out.eb.cell 3 _ rfl; have fz3 := HRe.out.eb.frozen 3; have k4 := HRe.out.eb.cell 4 _ rfl; have fz4 := HRe.out.eb.frozen 4; have k5 := HRe.out.eb.cell 5 _ rfl; have fz5 := HRe.out.eb.frozen 5; have k6 := HRe.out.eb.cell 6 _ rfl; have fz6 := HRe.out.eb.frozen 6; have k7 := HRe.out.eb.cell 7 _ rfl; have fz7 := HRe.out.eb.frozen 7
              refine ord_mem rfl rfl ?_
              go_simp
              have HR3 : Hid (RD w ((((((((wd2.setCell ⟨nb + 1, 0, none⟩ (.int .i64 fw)).setCell ⟨nb + 1, 1, none⟩ (.int .i64 fi)).setCell ⟨nb + 1, 2, none⟩ (.int .u64 fp)).setCell ⟨nb + 1, 3, none⟩ (.int .i64 ft)).setCell ⟨nb + 1, 4, none⟩ (.int .i64 fu)).setCell ⟨nb + 1, 5, none⟩ (.int .i64 fn)).setCell ⟨nb + 1, 6, none⟩ (.slice af fb.length cf)).setCell ⟨nb + 1, 7, none⟩ (.int .u64 fg)) o1 b la lb rr lx ly s p S L M nb [.int .i64 2, .int .i64 qt, .int .i64 qn, .slice ax qb.length cx, .int .i64 (nN : Int), .int .i64 qf, .int .i64 ew, .int .i64 ei, .int .u64 ep, .int .i64 et, .int .i64 eu, .int .i64 en, .slice ay eb.length cy, .int .u64 eg] [.int .i64 fw, .int .i64 fi, .int .u64 fp, .int .i64 ft, .int .i64 fu, .int .i64 fn, .slice af fb.length cf, .int .u64 fg] ∧ Mv [7] wd2 o1 ((((((((wd2.setCell ⟨nb + 1, 0, none⟩ (.int .i64 fw)).setCell ⟨nb + 1, 1, none⟩ (.int .i64 fi)).setCell ⟨nb + 1, 2, none⟩ (.int .u64 fp)).setCell ⟨nb + 1, 3, none⟩ (.int .i64 ft)).setCell ⟨nb + 1, 4, none⟩ (.int .i64 fu)).setCell ⟨nb + 1, 5, none⟩ (.int .i64 fn)).setCell ⟨nb + 1, 6, none⟩ (.slice af fb.length cf)).setCell ⟨nb + 1, 7, none⟩ (.int .u64 fg)) o1) := HRe.out.setE (.int .i64 fw) (.int .i64 fi) (.int .u64 fp) (.int .i64 ft) (.int .i64 fu) (.int .i64 fn) (.slice af fb.length cf) (.int .u64 fg)
              clear k0 k1 k2 k3 k4 k5 k6 k7 fz0 fz1 fz2 fz3 fz4 fz5 fz6 fz7
              generalize ((((((((wd2.setCell ⟨nb + 1, 0, none⟩ (.int .i64 fw)).setCell ⟨nb + 1, 1, none⟩ (.int .i64 fi)).setCell ⟨nb + 1, 2, none⟩ (.int .u64 fp)).setCell ⟨nb + 1, 3, none⟩ (.int .i64 ft)).setCell ⟨nb + 1, 4, none⟩ (.int .i64 fu)).setCell ⟨nb + 1, 5, none⟩ (.int .i64 fn)).setCell ⟨nb + 1, 6, none⟩ (.slice af fb.length cf)).setCell ⟨nb + 1, 7, none⟩ (.int .u64 fg)) = w3x at *
              refine ⟨⟨⟨w3x, o1, HMd.out.trans HR3.out.2⟩, rfl⟩, ?_⟩
              refine ord_end ?_
              clear n4 nx ne nz0 nz1 nz2 nz3 nz4 nz5 nz6 nz7 hjj
              have HRz : Hid (RD w w3x o1 b la lb rr lx ly s p S L M nb [.int .i64 2, .int .i64 qt, .int .i64 qn, .slice ax qb.length cx, .int .i64 (nN : Int), .int .i64 qf, .int .i64 ew, .int .i64 ei, .int .u64 ep, .int .i64 et, .int .i64 eu, .int .i64 en, .slice ay eb.length cy, .int .u64 eg] [.int .i64 fw, .int .i64 fi, .int .u64 fp, .int .i64 ft, .int .i64 fu, .int .i64 fn, .slice af fb.length cf, .int .u64 fg]) := HR3.out.1
              have HKz : Hid (Kp0 w3x o1 (.slice af fb.length cf) fb) := HKh.out.mv HR3.out.2 (by simp)
              clear HR3 HKh HKg HRe HRd HAd HMd
              have p0 := HRz.out.op.cell 0 _ rfl
              have p5 := HRz.out.op.cell 5 _ rfl
              have hTu0 := turned_any (e := (⟨fw, fi, fp, ft, fu, fn, fb, fg⟩ : Ent)) HKz.out HLf.out qf
              generalize turnE (⟨fw, fi, fp, ft, fu, fn, fb, fg⟩ : Ent) qf = te at *
              obtain ⟨tw, ti, tp, tt, tu, tn, tb, tg⟩ := te
              unfold ev at hTu0
              dsimp only at *
              have HTu : Hid (Calls Try.prog 22 #[.agg #[.int .i64 fw, .int .i64 fi, .int .u64 fp, .int .i64 ft, .int .i64 fu, .int .i64 fn, .slice af fb.length cf, .int .u64 fg], .int .i64 qf] w3x fun r w' => ∃ y, r = .returned (.agg #[.int .i64 tw, .int .i64 ti, .int .u64 tp, .int .i64 tt, .int .i64 tu, .int .i64 tn, y, .int .u64 tg]) ∧ Kp0 w' (newTo o1 w3x 0) y tb ∧ Below w3x.heap.size w3x w') := hTu0
              clear hTu0
              have k0 := HRz.out.eb.cell 0 _ rfl; have k1 := HRz.out.eb.cell 1 _ rfl; have k2 := HRz.out.eb.cell 2 _ rfl; have k3 := HRz.out.eb.cell 3 _ rfl; have k4 := HRz.out.eb.cell 4 _ rfl; have k5 := HRz.out.eb.cell 5 _ rfl; have k6 := HRz.out.eb.cell 6 _ rfl; have k7 := HRz.out.eb.cell 7 _ rfl
              go_upto_region 29 with (go_at_call 22; go_must (refine (Calls.mono HTu.out ?_); rintro r4 w4y ⟨y4, rfl, hk4, hb4⟩; obtain ⟨at', ct, hyy⟩ := hk4.1.len; subst hyy; have HR4 : Hid (RD w w4y (newTo o1 w3x 0) b la lb rr lx ly s p S L M nb [.int .i64 2, .int .i64 qt, .int .i64 qn, .slice ax qb.length cx, .int .i64 (nN : Int), .int .i64 qf, .int .i64 ew, .int .i64 ei, .int .u64 ep, .int .i64 et, .int .i64 eu, .int .i64 en, .slice ay eb.length cy, .int .u64 eg] [.int .i64 fw, .int .i64 fi, .int .u64 fp, .int .i64 ft, .int .i64 fu, .int .i64 fn, .slice af fb.length cf, .int .u64 fg]) := HRz.out.below hb4; have HK4y : Hid (Kp0 w4y (newTo o1 w3x 0) (.slice at' tb.length ct) tb) := hk4; clear k0 k1 k2 k3 k4 k5 k6 k7 hk4 hb4; have k0 := HR4.out.eb.cell 0 _ rfl; have fz0 := HR4.out.eb.frozen 0; have k1 := HR4.out.eb.cell 1 _ rfl; have fz1 := HR4.out.eb.frozen 1; have k2 := HR4.out.eb.cell 2 _ rfl; have fz2 := HR4.out.eb.frozen 2; have k3 := HR4.out.eb.cell 3 _ rfl; have fz3 := HR4.out.eb.frozen 3; have k4 := HR4.out.eb.cell 4 _ rfl; have fz4 := HR4.out.eb.frozen 4; have k5 := HR4.out.eb.cell 5 _ rfl; have fz5 := HR4.out.eb.frozen 5; have k6 := HR4.out.eb.cell 6 _ rfl; have fz6 := HR4.out.eb.frozen 6; have k7 := HR4.out.eb.cell 7 _ rfl; have fz7 := HR4.out.eb.frozen 7))
              clear k0 k1 k2 k3 k4 k5 k6 k7 fz0 fz1 fz2 fz3 fz4 fz5 fz6 fz7 p0 p5
              generalize newTo o1 w3x 0 = o4y at *
              have HR5 : Hid (RD w ((((((((w4y.setCell ⟨nb + 1, 0, none⟩ (.int .i64 tw)).setCell ⟨nb + 1, 1, none⟩ (.int .i64 ti)).setCell ⟨nb + 1, 2, none⟩ (.int .u64 tp)).setCell ⟨nb + 1, 3, none⟩ (.int .i64 tt)).setCell ⟨nb + 1, 4, none⟩ (.int .i64 tu)).setCell ⟨nb + 1, 5, none⟩ (.int .i64 tn)).setCell ⟨nb + 1, 6, none⟩ (.slice at' tb.length ct)).setCell ⟨nb + 1, 7, none⟩ (.int .u64 tg)) o4y b la lb rr lx ly s p S L M nb [.int .i64 2, .int .i64 qt, .int .i64 qn, .slice ax qb.length cx, .int .i64 (nN : Int), .int .i64 qf, .int .i64 ew, .int .i64 ei, .int .u64 ep, .int .i64 et, .int .i64 eu, .int .i64 en, .slice ay eb.length cy, .int .u64 eg] [.int .i64 tw, .int .i64 ti, .int .u64 tp, .int .i64 tt, .int .i64 tu, .int .i64 tn, .slice at' tb.length ct, .int .u64 tg] ∧ Mv [7] w4y o4y ((((((((w4y.setCell ⟨nb + 1, 0, none⟩ (.int .i64 tw)).setCell ⟨nb + 1, 1, none⟩ (.int .i64 ti)).setCell ⟨nb + 1, 2, none⟩ (.int .u64 tp)).setCell ⟨nb + 1, 3, none⟩ (.int .i64 tt)).setCell ⟨nb + 1, 4, none⟩ (.int .i64 tu)).setCell ⟨nb + 1, 5, none⟩ (.int .i64 tn)).setCell ⟨nb + 1, 6, none⟩ (.slice at' tb.length ct)).setCell ⟨nb + 1, 7, none⟩ (.int .u64 tg)) o4y) := HR4.out.setE (.int .i64 tw) (.int .i64 ti) (.int .u64 tp) (.int .i64 tt) (.int .i64 tu) (.int .i64 tn) (.slice at' tb.length ct) (.int .u64 tg)
              generalize ((((((((w4y.setCell ⟨nb + 1, 0, none⟩ (.int .i64 tw)).setCell ⟨nb + 1, 1, none⟩ (.int .i64 ti)).setCell ⟨nb + 1, 2, none⟩ (.int .u64 tp)).setCell ⟨nb + 1, 3, none⟩ (.int .i64 tt)).setCell ⟨nb + 1, 4, none⟩ (.int .i64 tu)).setCell ⟨nb + 1, 5, none⟩ (.int .i64 tn)).setCell ⟨nb + 1, 6, none⟩ (.slice at' tb.length ct)).setCell ⟨nb + 1, 7, none⟩ (.int .u64 tg)) = wz at *
              have HRy : Hid (RD w wz o4y b la lb rr lx ly s p S L M nb [.int .i64 2, .int .i64 qt, .int .i64 qn, .slice ax qb.length cx, .int .i64 (nN : Int), .int .i64 qf, .int .i64 ew, .int .i64 ei, .int .u64 ep, .int .i64 et, .int .i64 eu, .int .i64 en, .slice ay eb.length cy, .int .u64 eg] [.int .i64 tw, .int .i64 ti, .int .u64 tp, .int .i64 tt, .int .i64 tu, .int .i64 tn, .slice at' tb.length ct, .int .u64 tg]) := HR5.out.1
              have HKy : Hid (Kp0 wz o4y (.slice at' tb.length ct) tb) := HK4y.out.mv HR5.out.2 (by simp)
              have HEt : Hid (EOk (⟨tw, ti, tp, tt, tu, tn, tb, tg⟩ : Ent)) := HTk.out.1
              have HLt : Hid (tb.length ≤ 90000) := HTk.out.2
              clear HR5 HR4 HRz HKz HK4y HTu HTk
              have nn0 := fun z : WIn (fun w' => ∃ o', Mv [1, 4, 6, 8] wz o4y w' o') => (HRy.out.ebAt z.ok.choose_spec (by simp)).cell 0 _ rfl
              have nn1 := fun z : WIn (fun w' => ∃ o', Mv [1, 4, 6, 8] wz o4y w' o') => (HRy.out.ebAt z.ok.choose_spec (by simp)).cell 1 _ rfl
              have nn2 := fun z : WIn (fun w' => ∃ o', Mv [1, 4, 6, 8] wz o4y w' o') => (HRy.out.ebAt z.ok.choose_spec (by simp)).cell 2 _ rfl
              have nn3 := fun z : WIn (fun w' => ∃ o', Mv [1, 4, 6, 8] wz o4y w' o') => (HRy.out.ebAt z.ok.choose_spec (by simp)).cell 3 _ rfl
              have nn4 := fun z : WIn (fun w' => ∃ o', Mv [1, 4, 6, 8] wz o4y w' o') => (HRy.out.ebAt z.ok.choose_spec (by simp)).cell 4 _ rfl
              have nn5 := fun z : WIn (fun w' => ∃ o', Mv [1, 4, 6, 8] wz o4y w' o') => (HRy.out.ebAt z.ok.choose_spec (by simp)).cell 5 _ rfl
              have nn6 := fun z : WIn (fun w' => ∃ o', Mv [1, 4, 6, 8] wz o4y w' o') => (HRy.out.ebAt z.ok.choose_spec (by simp)).cell 6 _ rfl
              have nn7 := fun z : WIn (fun w' => ∃ o', Mv [1, 4, 6, 8] wz o4y w' o') => (HRy.out.ebAt z.ok.choose_spec (by simp)).cell 7 _ rfl
              have ne : Nonempty (WIn (fun w' => ∃ o', Mv [1, 4, 6, 8] wz o4y w' o')) := ⟨⟨wz, o4y, Mv.refl _ _ _⟩⟩
              obtain ⟨kc, hkc⟩ : ∃ kc, checkM S 1 p M (⟨tw, ti, tp, tt, tu, tn, tb, tg⟩ : Ent) = kc := ⟨_, rfl⟩
              have HKc : Hid (checkM S 1 p M (⟨tw, ti, tp, tt, tu, tn, tb, tg⟩ : Ent) = kc) := hkc
              clear hkc
              refine wp_region_ord (C := fun w' => ∃ z : WIn (fun w' => ∃ o', Mv [1, 4, 6, 8] wz o4y w' o'), w' = z.w) [(false, 0), (false, 1), (false, 3), (false, 4), (false, 5), (true, 2), (true, 6), (false, 7), (false, 8), (false, 9), (false, 10), (false, 12), (false, 13), (false, 14), (true, 11), (true, 15), (false, 16), (false, 17), (false, 18), (false, 19), (false, 20), (false, 21), (true, 22), (false, 23), (false, 24)] (by kernel_rfl) (by kernel_rfl) ⟨⟨wz.drew, o4y, mv_drewn wz o4y⟩, rfl⟩ ?_
              have HPd : Hid (PX w wz.drew o4y b la lb rr lx ly s p S S L L.es M M.es) := HRy.out.px.drew
              have HMd : Hid (Mv [1, 4, 6, 8] wz o4y wz.drew o4y) := mv_drewn wz o4y
              have HKd : Hid (Kp0 wz.drew o4y (.slice at' tb.length ct) tb) := HKy.out.mv HMd.out (by simp)
              generalize wz.drew = wd at *
              iterate 5 (refine ord_still rfl rfl ?_; go_big_quiet_step (fail); refine wpQuiet_nil ?_)
              refine ord_mem rfl rfl ?_
              go_simp
              have HCk : Hid (Calls Try.prog 23 #[ptr lb, .agg #[.int .i64 tw, .int .i64 ti, .int .u64 tp, .int .i64 tt, .int .i64 tu, .int .i64 tn, .slice at' tb.length ct, .int .u64 tg]] wd fun q w' => q = .returned (.int .i64 kc) ∧ Below wd.heap.size wd w') := (show Calls _ _ _ _ _ from by rw [← HKc.out]; exact HPd.out.check HEt.out HKd.out HLt.out)
              refine (Calls.mono HCk.out ?_)
              rintro r2 w2x ⟨rfl, hb2⟩
              have HM2 : Hid (Mv [1, 4, 6, 8] wz o4y w2x (newTo o4y wd 0)) := HMd.out.trans (Mv.of_below 0 hb2)
              have HP2 : Hid (PX w w2x (newTo o4y wd 0) b la lb rr lx ly s p S S L L.es M M.es) := HPd.out.below hb2
              have HK2 : Hid (Kp0 w2x (newTo o4y wd 0) (.slice at' tb.length ct) tb) := HKy.out.mv HM2.out (by simp)
              clear hb2 HCk HKd HPd HMd
              generalize newTo o4y wd 0 = o2x at *
              refine ⟨⟨⟨w2x, _, HM2.out⟩, rfl⟩, ?_⟩
              refine ord_mem rfl rfl ?_
              go_simp
              have HRk : Hid (Calls Try.prog 24 #[ptr ly, ptr rr, .agg #[.int .i64 tw, .int .i64 ti, .int .u64 tp, .int .i64 tt, .int .i64 tu, .int .i64 tn, .slice at' tb.length ct, .int .u64 tg]] w2x fun q w' => q = .returned (.int .i64 kc) ∧ ∃ o', PX w w' o' b la lb rr lx ly s p S S L L.es M M.es ∧ Mv [8] w2x o2x w' o') := (show Calls _ _ _ _ _ from by rw [← HKc.out]; exact HP2.out.rcheck HRw.out.1 HEt.out HK2.out (by have := HRw.out; omega))
              refine (Calls.mono HRk.out ?_)
              rintro r3 w3x ⟨rfl, o3x, h1, h2⟩
              have HM3 : Hid (Mv [1, 4, 6, 8] wz o4y w3x o3x) := HM2.out.trans (h2.widen (by simp))
              have HP3 : Hid (PX w w3x o3x b la lb rr lx ly s p S S L L.es M M.es) := h1
              have HK3 : Hid (Kp0 w3x o3x (.slice at' tb.length ct) tb) := HKy.out.mv HM3.out (by simp)
              clear h1 h2 HRk HP2 HK2 HM2
              refine ⟨⟨⟨w3x, _, HM3.out⟩, rfl⟩, ?_⟩
              iterate 7 (refine ord_still rfl rfl ?_; go_big_quiet_step (fail); refine wpQuiet_nil ?_)
              refine ord_mem rfl rfl ?_
              go_simp
              have HAc : Hid (Calls Try.prog 25 #[ptr lb, .agg #[.int .i64 tw, .int .i64 ti, .int .u64 tp, .int .i64 tt, .int .i64 tu, .int .i64 tn, .slice at' tb.length ct, .int .u64 tg]] w3x fun q w' => ∃ k S' M' o', q = .returned (.int .i64 k) ∧ acceptM S 1 p M (⟨tw, ti, tp, tt, tu, tn, tb, tg⟩ : Ent) = (k, S', M') ∧ S'.rows.length ≤ S.rows.length + 1 ∧ PX w w' o' b la lb rr lx ly s p S' S L L.es M' M.es ∧ Mv [1, 4] w3x o3x w' o') := HP3.out.accept (by have := HRw.out; omega) HEt.out HK3.out HLt.out
              refine (Calls.mono HAc.out ?_)
              rintro r4 w4x ⟨k4, S4, M4, o4x, rfl, h1, h2, h3, h4⟩
              have HM4 : Hid (Mv [1, 4, 6, 8] wz o4y w4x o4x) := HM3.out.trans (h4.widen (by simp))
              have HP4 : Hid (PX w w4x o4x b la lb rr lx ly s p S4 S L L.es M4 M.es) := h3
              have HA4 : Hid (acceptM S 1 p M (⟨tw, ti, tp, tt, tu, tn, tb, tg⟩ : Ent) = (k4, S4, M4) ∧ S4.rows.length ≤ S.rows.length + 1) := ⟨h1, h2⟩
              have HK4x : Hid (Kp0 w4x o4x (.slice at' tb.length ct) tb) := HKy.out.mv HM4.out (by simp)
              clear h1 h2 h3 h4 HAc HP3 HK3 HM3
              refine ⟨⟨⟨w4x, _, HM4.out⟩, rfl⟩, ?_⟩
              refine ord_mem rfl rfl ?_
              go_simp
              have HRa : Hid (Calls Try.prog 26 #[ptr ly, ptr rr, .agg #[.int .i64 tw, .int .i64 ti, .int .u64 tp, .int .i64 tt, .int .i64 tu, .int .i64 tn, .slice at' tb.length ct, .int .u64 tg]] w4x fun q w' => q = .returned (.int .i64 k4) ∧ ∃ o', PX w w' o' b la lb rr lx ly s p S4 S L L.es M4 M4.es ∧ headM S M4.es = (M4.sum, S4) ∧ Mv [8, 6] w4x o4x w' o') := HP4.out.raccept HRy.out.px.g.key HRy.out.px.duo.whole HRw.out.1 HEt.out HK4x.out (by have := HRw.out; omega) HA4.out.1
              refine (Calls.mono HRa.out ?_)
              rintro r5 w5x ⟨rfl, o5x, h1, h2, h3⟩
              have HM5 : Hid (Mv [1, 4, 6, 8] wz o4y w5x o5x) := HM4.out.trans (h3.widen (by simp))
              have HP5 : Hid (PX w w5x o5x b la lb rr lx ly s p S4 S L L.es M4 M4.es) := h1
              have HH5 : Hid (headM S M4.es = (M4.sum, S4)) := h2
              clear h1 h2 h3 HRa HP4 HK4x HM4
              refine ⟨⟨⟨w5x, _, HM5.out⟩, rfl⟩, ?_⟩
              iterate 6 (refine ord_still rfl rfl ?_; go_big_quiet_step (fail); refine wpQuiet_nil ?_)
              refine ord_mem rfl rfl ?_
              go_simp
              refine (HP5.out.sameB HH5.out (by have := HRw.out; omega)).mono ?_
              rintro r6 w6x ⟨rfl, o6x, h1, h2⟩
              have HP6 : Hid (PX w w6x o6x b la lb rr lx ly s p S4 S4 L L.es M4 M4.es) := h1
              refine ⟨⟨⟨w6x, _, HM5.out.trans (h2.widen (by simp))⟩, rfl⟩, ?_⟩
              clear h1 h2
              iterate 2 (refine ord_still rfl rfl ?_; go_big_quiet_step (fail); refine wpQuiet_nil ?_)
              refine ord_end ?_
              clear ne nn0 nn1 nn2 nn3 nn4 nn5 nn6 nn7
              go_wp2_with fail
              go_roundw
              case rel =>
                have hr := HRw.out
                have hl := HA4.out.2
                exact ⟨i + 1, S4, L, M4, o6x, by go_num, by omega, HP6, ⟨fine_head HH5.out HRy.out.px.orc.good hr.1 (by omega), by omega, by omega⟩⟩
              case measure => simp [intOf]; omega
            · skip
              have hq1 : (qk == 1) = false := by simpa using hk1
              have hq2 : (qk == 2) = false := by simpa using hk2
              have hq0 : (qk == 0) = false := by simpa using hk0
              have hq4 : (qk == 4) = false := by simpa using HK4.out
              clear hk0 hk1 hk2
              have HEe : Hid (EOk (⟨ew, ei, ep, et, eu, en, eb, eg⟩ : Ent)) := HOkq.out.2.2.2.2.2.1
              have HKe : Hid (Kp0 w1 o1 (.slice ay eb.length cy) eb) := HRD.out.px.g.kp HOkq.out.2.2.2.2.2.2.2
              have HLe : Hid (eb.length ≤ 90000) := (show _ ≤ _ from by have := HShort.out; omega)
              go_upto_region 29 with fail
              clear p0 p1 p2 p3 p4 p5 p6 p7 p8 p9 p10 p11 p12 p13 k0 k1 k2 k3 k4 k5 k6 k7 hq0 hq1 hq2 hq4
              have nn0 := fun z : WIn (fun w' => ∃ o', Mv [1, 4, 6, 8] w1 o1 w' o') => (HRD.out.ebAt z.ok.choose_spec (by simp)).cell 0 _ rfl
              have nn1 := fun z : WIn (fun w' => ∃ o', Mv [1, 4, 6, 8] w1 o1 w' o') => (HRD.out.ebAt z.ok.choose_spec (by simp)).cell 1 _ rfl
              have nn2 := fun z : WIn (fun w' => ∃ o', Mv [1, 4, 6, 8] w1 o1 w' o') => (HRD.out.ebAt z.ok.choose_spec (by simp)).cell 2 _ rfl
              have nn3 := fun z : WIn (fun w' => ∃ o', Mv [1, 4, 6, 8] w1 o1 w' o') => (HRD.out.ebAt z.ok.choose_spec (by simp)).cell 3 _ rfl
              have nn4 := fun z : WIn (fun w' => ∃ o', Mv [1, 4, 6, 8] w1 o1 w' o') => (HRD.out.ebAt z.ok.choose_spec (by simp)).cell 4 _ rfl
              have nn5 := fun z : WIn (fun w' => ∃ o', Mv [1, 4, 6, 8] w1 o1 w' o') => (HRD.out.ebAt z.ok.choose_spec (by simp)).cell 5 _ rfl
              have nn6 := fun z : WIn (fun w' => ∃ o', Mv [1, 4, 6, 8] w1 o1 w' o') => (HRD.out.ebAt z.ok.choose_spec (by simp)).cell 6 _ rfl
              have nn7 := fun z : WIn (fun w' => ∃ o', Mv [1, 4, 6, 8] w1 o1 w' o') => (HRD.out.ebAt z.ok.choose_spec (by simp)).cell 7 _ rfl
              have ne : Nonempty (WIn (fun w' => ∃ o', Mv [1, 4, 6, 8] w1 o1 w' o')) := ⟨⟨w1, o1, Mv.refl _ _ _⟩⟩
              obtain ⟨kc, hkc⟩ : ∃ kc, checkM S 1 p M (⟨ew, ei, ep, et, eu, en, eb, eg⟩ : Ent) = kc := ⟨_, rfl⟩
              have HKc : Hid (checkM S 1 p M (⟨ew, ei, ep, et, eu, en, eb, eg⟩ : Ent) = kc) := hkc
              clear hkc
              refine wp_region_ord (C := fun w' => ∃ z : WIn (fun w' => ∃ o', Mv [1, 4, 6, 8] w1 o1 w' o'), w' = z.w) [(false, 0), (false, 1), (false, 3), (false, 4), (false, 5), (true, 2), (true, 6), (false, 7), (false, 8), (false, 9), (false, 10), (false, 12), (false, 13), (false, 14), (true, 11), (true, 15), (false, 16), (false, 17), (false, 18), (false, 19), (false, 20), (false, 21), (true, 22), (false, 23), (false, 24)] (by kernel_rfl) (by kernel_rfl) ⟨⟨w1.drew, o1, mv_drewn w1 o1⟩, rfl⟩ ?_
              have HPd : Hid (PX w w1.drew o1 b la lb rr lx ly s p S S L L.es M M.es) := HRD.out.px.drew
              have HMd : Hid (Mv [1, 4, 6, 8] w1 o1 w1.drew o1) := mv_drewn w1 o1
              have HKd : Hid (Kp0 w1.drew o1 (.slice ay eb.length cy) eb) := HKe.out.mv HMd.out (by simp)
              generalize w1.drew = wd at *
              iterate 5 (refine ord_still rfl rfl ?_; go_big_quiet_step (fail); refine wpQuiet_nil ?_)
              refine ord_mem rfl rfl ?_
              go_simp
              have HCk : Hid (Calls Try.prog 23 #[ptr lb, .agg #[.int .i64 ew, .int .i64 ei, .int .u64 ep, .int .i64 et, .int .i64 eu, .int .i64 en, .slice ay eb.length cy, .int .u64 eg]] wd fun q w' => q = .returned (.int .i64 kc) ∧ Below wd.heap.size wd w') := (show Calls _ _ _ _ _ from by rw [← HKc.out]; exact HPd.out.check HEe.out HKd.out HLe.out)
              refine (Calls.mono HCk.out ?_)
              rintro r2 w2x ⟨rfl, hb2⟩
              have HM2 : Hid (Mv [1, 4, 6, 8] w1 o1 w2x (newTo o1 wd 0)) := HMd.out.trans (Mv.of_below 0 hb2)
              have HP2 : Hid (PX w w2x (newTo o1 wd 0) b la lb rr lx ly s p S S L L.es M M.es) := HPd.out.below hb2
              have HK2 : Hid (Kp0 w2x (newTo o1 wd 0) (.slice ay eb.length cy) eb) := HKe.out.mv HM2.out (by simp)
              clear hb2 HCk HKd HPd HMd
              generalize newTo o1 wd 0 = o2x at *
              refine ⟨⟨⟨w2x, _, HM2.out⟩, rfl⟩, ?_⟩
              refine ord_mem rfl rfl ?_
              go_simp
              have HRk : Hid (Calls Try.prog 24 #[ptr ly, ptr rr, .agg #[.int .i64 ew, .int .i64 ei, .int .u64 ep, .int .i64 et, .int .i64 eu, .int .i64 en, .slice ay eb.length cy, .int .u64 eg]] w2x fun q w' => q = .returned (.int .i64 kc) ∧ ∃ o', PX w w' o' b la lb rr lx ly s p S S L L.es M M.es ∧ Mv [8] w2x o2x w' o') := (show Calls _ _ _ _ _ from by rw [← HKc.out]; exact HP2.out.rcheck HRw.out.1 HEe.out HK2.out (by have := HRw.out; omega))
              refine (Calls.mono HRk.out ?_)
              rintro r3 w3x ⟨rfl, o3x, h1, h2⟩
              have HM3 : Hid (Mv [1, 4, 6, 8] w1 o1 w3x o3x) := HM2.out.trans (h2.widen (by simp))
              have HP3 : Hid (PX w w3x o3x b la lb rr lx ly s p S S L L.es M M.es) := h1
              have HK3 : Hid (Kp0 w3x o3x (.slice ay eb.length cy) eb) := HKe.out.mv HM3.out (by simp)
              clear h1 h2 HRk HP2 HK2 HM2
              refine ⟨⟨⟨w3x, _, HM3.out⟩, rfl⟩, ?_⟩
              iterate 7 (refine ord_still rfl rfl ?_; go_big_quiet_step (fail); refine wpQuiet_nil ?_)
              refine ord_mem rfl rfl ?_
              go_simp
              have HAc : Hid (Calls Try.prog 25 #[ptr lb, .agg #[.int .i64 ew, .int .i64 ei, .int .u64 ep, .int .i64 et, .int .i64 eu, .int .i64 en, .slice ay eb.length cy, .int .u64 eg]] w3x fun q w' => ∃ k S' M' o', q = .returned (.int .i64 k) ∧ acceptM S 1 p M (⟨ew, ei, ep, et, eu, en, eb, eg⟩ : Ent) = (k, S', M') ∧ S'.rows.length ≤ S.rows.length + 1 ∧ PX w w' o' b la lb rr lx ly s p S' S L L.es M' M.es ∧ Mv [1, 4] w3x o3x w' o') := HP3.out.accept (by have := HRw.out; omega) HEe.out HK3.out HLe.out
              refine (Calls.mono HAc.out ?_)
              rintro r4 w4x ⟨k4, S4, M4, o4x, rfl, h1, h2, h3, h4⟩
              have HM4 : Hid (Mv [1, 4, 6, 8] w1 o1 w4x o4x) := HM3.out.trans (h4.widen (by simp))
              have HP4 : Hid (PX w w4x o4x b la lb rr lx ly s p S4 S L L.es M4 M.es) := h3
              have HA4 : Hid (acceptM S 1 p M (⟨ew, ei, ep, et, eu, en, eb, eg⟩ : Ent) = (k4, S4, M4) ∧ S4.rows.length ≤ S.rows.length + 1) := ⟨h1, h2⟩
              have HK4x : Hid (Kp0 w4x o4x (.slice ay eb.length cy) eb) := HKe.out.mv HM4.out (by simp)
              clear h1 h2 h3 h4 HAc HP3 HK3 HM3
              refine ⟨⟨⟨w4x, _, HM4.out⟩, rfl⟩, ?_⟩
              refine ord_mem rfl rfl ?_
              go_simp
              have HRa : Hid (Calls Try.prog 26 #[ptr ly, ptr rr, .agg #[.int .i64 ew, .int .i64 ei, .int .u64 ep, .int .i64 et, .int .i64 eu, .int .i64 en, .slice ay eb.length cy, .int .u64 eg]] w4x fun q w' => q = .returned (.int .i64 k4) ∧ ∃ o', PX w w' o' b la lb rr lx ly s p S4 S L L.es M4 M4.es ∧ headM S M4.es = (M4.sum, S4) ∧ Mv [8, 6] w4x o4x w' o') := HP4.out.raccept HRD.out.px.g.key HRD.out.px.duo.whole HRw.out.1 HEe.out HK4x.out (by have := HRw.out; omega) HA4.out.1
              refine (Calls.mono HRa.out ?_)
              rintro r5 w5x ⟨rfl, o5x, h1, h2, h3⟩
              have HM5 : Hid (Mv [1, 4, 6, 8] w1 o1 w5x o5x) := HM4.out.trans (h3.widen (by simp))
              have HP5 : Hid (PX w w5x o5x b la lb rr lx ly s p S4 S L L.es M4 M4.es) := h1
              have HH5 : Hid (headM S M4.es = (M4.sum, S4)) := h2
              clear h1 h2 h3 HRa HP4 HK4x HM4
              refine ⟨⟨⟨w5x, _, HM5.out⟩, rfl⟩, ?_⟩
              iterate 6 (refine ord_still rfl rfl ?_; go_big_quiet_step (fail); refine wpQuiet_nil ?_)
              refine ord_mem rfl rfl ?_
              go_simp
              refine (HP5.out.sameB HH5.out (by have := HRw.out; omega)).mono ?_
              rintro r6 w6x ⟨rfl, o6x, h1, h2⟩
              have HP6 : Hid (PX w w6x o6x b la lb rr lx ly s p S4 S4 L L.es M4 M4.es) := h1
              refine ⟨⟨⟨w6x, _, HM5.out.trans (h2.widen (by simp))⟩, rfl⟩, ?_⟩
              clear h1 h2
              iterate 2 (refine ord_still rfl rfl ?_; go_big_quiet_step (fail); refine wpQuiet_nil ?_)
              refine ord_end ?_
              clear ne nn0 nn1 nn2 nn3 nn4 nn5 nn6 nn7
              go_wp2_with fail
              go_roundw
              case rel =>
                have hr := HRw.out
                have hl := HA4.out.2
                exact ⟨i + 1, S4, L, M4, o6x, by go_num, by omega, HP6, ⟨fine_head HH5.out HRD.out.px.orc.good hr.1 (by omega), by omega, by omega⟩⟩
              case measure => simp [intOf]; omega
    · have hie : i = qs.length := by omega
      subst hie
      go_wp2_with fail
      go_ret
      exact ⟨rfl, HB.out.bel⟩
end Go.Proofs.Yteedjdflojfhmaa
