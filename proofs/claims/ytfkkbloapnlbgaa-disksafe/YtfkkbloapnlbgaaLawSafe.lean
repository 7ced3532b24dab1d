/-
  What was synced is there behind any restart: the walk of DiskSafe.
-/
import Derived.Test.YtfkkbloapnlbgaaLawD
namespace Go.Proofs.Ytfkkbloapnlbgaa
set_option linter.unusedVariables false
set_option linter.unusedSimpArgs false
set_option synthInstance.maxSize 20000
set_option maxHeartbeats 4000000
set_option maxRecDepth 20000
open Go.RowKit Go.Maps

/-- Ahead of the Sync: nothing is armed, and what is there now is what will be there for good. -/
structure Saf1 (D : Dk) : Prop where
  down : D.down = false
  armed : D.armed = false
  len : D.now.length = 6
  all : settle (fun _ => true) 0 D.pend D.good = D.now
theorem saf1_new : Saf1 (newD 6) := ⟨rfl, rfl, rfl, rfl⟩
theorem Saf1.write {D : Dk} (h : Saf1 D) (i : Int) (l : List Int) : Saf1 (D.write i l).2 := by
  unfold Dk.write
  split
  · exact h
  · split
    · exact h
    · rw [if_neg (by rw [h.armed]; simp)]
      refine ⟨h.down, h.armed, by simp [Dk.put, h.len], ?_⟩
      show settle _ 0 (D.pend ++ [(i.toNat, mkS l)]) D.good = D.now.set i.toNat (mkS l)
      rw [settle_append, h.all]
      rfl
/-- Behind the Sync. -/
structure Saf2 (D : Dk) (G : List Sec) (T : List Bool) : Prop where
  good : D.good = G
  len : D.now.length = 6
  tl : T.length = 6
  at' : ∀ q ∈ D.pend, T.getD q.1 false = true
structure SafE (E : Dk) (G : List Sec) : Prop where
  now : E.now = G
  down : E.down = false
  len : G.length = 6
theorem saf_sync {D : Dk} (h : Saf1 D) : D.sync.1 = 0 ∧ SafE D.sync.2 D.now ∧ Saf2 D.sync.2 D.now (List.replicate 6 false) := by
  unfold Dk.sync
  rw [if_neg (by rw [h.down]; simp)]
  exact ⟨rfl, ⟨rfl, h.down, h.len⟩, ⟨h.all, h.len, rfl, fun q hq => by cases hq⟩⟩
theorem Saf2.arm {D : Dk} {G : List Sec} {T : List Bool} (h : Saf2 D G T) (n : Int) : Saf2 (D.arm n).2 G T := by
  unfold Dk.arm
  split
  · exact h
  · split
    · exact h
    · exact ⟨h.good, h.len, h.tl, h.at'⟩
theorem Saf2.touch {D : Dk} {G : List Sec} {T : List Bool} (h : Saf2 D G T) (i : Nat) : Saf2 D G (T.set i true) := by
  refine ⟨h.good, h.len, by rw [List.length_set]; exact h.tl, fun q hq => ?_⟩
  have := h.at' q hq
  rw [List.getD_eq_getElem?_getD] at this ⊢
  rw [List.getElem?_set]
  split
  · rename_i e
    split
    · rfl
    · rename_i hlt
      rw [List.getElem?_eq_none (by omega)] at this
      cases this
  · exact this
theorem getD_set_self {T : List Bool} {i : Nat} (h : i < T.length) : (T.set i true).getD i false = true := by
  rw [List.getD_eq_getElem?_getD, List.getElem?_set, if_pos rfl, if_pos h]
  rfl
theorem Saf2.write {D : Dk} {G : List Sec} {T : List Bool} (h : Saf2 D G T) (i : Int) (l : List Int) (hi : 0 ≤ i → i < 6 → T.getD i.toNat false = true) : Saf2 (D.write i l).2 G T := by
  unfold Dk.write
  split
  · exact h
  · rename_i hr
    obtain ⟨_, h0, h1⟩ := reach_zero (by simpa using hr : D.reach i = 0)
    rw [h.len] at h1
    have ht := hi h0 (by omega)
    have hp : ∀ (s : Sec), ∀ q ∈ D.pend ++ [(i.toNat, s)], T.getD q.1 false = true := fun s q hq => by
      rcases List.mem_append.1 hq with hq | hq
      · exact h.at' q hq
      · simp at hq; subst hq; exact ht
    split
    · exact h
    · split
      · exact ⟨h.good, h.len, h.tl, hp _⟩
      · exact ⟨h.good, by simp [Dk.put, h.len], h.tl, hp _⟩
theorem settle_other (keep : Nat → Bool) (i : Nat) : ∀ (l : List Wr) (k : Nat) (g : List Sec), (∀ q ∈ l, q.1 ≠ i) → (settle keep k l g)[i]? = g[i]?
  | [], _, _, _ => rfl
  | q :: r, k, g, h => by
    show (settle keep (k + 1) r (if keep k then g.set q.1 q.2 else g))[i]? = _
    rw [settle_other keep i r (k + 1) _ (fun q' hq' => h q' (List.mem_cons_of_mem _ hq'))]
    split
    · rw [List.getElem?_set, if_neg (h q (List.mem_cons_self ..))]
    · rfl
/-- Untouched sectors read as they did. -/
theorem saf_read {D E : Dk} {G : List Sec} {T : List Bool} (h : Saf2 D G T) (e : SafE E G) (ks : List Bool) {i : Nat} (hi : i < 6) (hT : T.getD i false = false) : E.readK (i : Int) = (D.restart ks).readK (i : Int) ∧ E.readB (i : Int) = (D.restart ks).readB (i : Int) := by
  have h1 : (D.restart ks).now[i]? = G[i]? := by
    show (settle (keeps ks) 0 D.pend D.good)[i]? = _
    rw [settle_other _ i _ _ _ (fun q hq e2 => by have := h.at' q hq; rw [e2, hT] at this; cases this), h.good]
  have hs : (D.restart ks).readS (i : Int) = E.readS (i : Int) := by
    unfold Dk.readS
    rw [Int.toNat_natCast, List.getD_eq_getElem?_getD, List.getD_eq_getElem?_getD, h1, e.now]
  have hl : (D.restart ks).now.length = 6 := by
    show (settle (keeps ks) 0 D.pend D.good).length = 6
    rw [settle_len, h.good, e.len]
  have r1 : (D.restart ks).reach (i : Int) = 0 := by
    unfold Dk.reach
    rw [if_neg (by simp [Dk.restart]), if_neg (by rw [hl]; omega)]
  have r2 : E.reach (i : Int) = 0 := by
    unfold Dk.reach
    rw [if_neg (by rw [e.down]; simp), if_neg (by rw [e.now, e.len]; omega)]
  have hk : E.readK (i : Int) = (D.restart ks).readK (i : Int) := by
    unfold Dk.readK
    rw [r1, r2, hs]
  refine ⟨hk, ?_⟩
  unfold Dk.readB
  rw [hk, hs]

/-- The first loop's state. -/
def Sf1 (w wr : World) (b k : Nat) : Prop := ∃ o' D, DIs wr o' 5 b D ∧ DOk D k ∧ Saf1 D ∧ Mv [5] w (fun _ => 0) wr o'
theorem mv5_below {w w' : World} {o' : Nat → Nat} (m : Mv [5] w (fun _ => 0) w' o') : Below w.heap.size w w' := m.below (Nat.le_refl _) (fun k hk => by simp)
/-- Two disks, and the law's own bools. -/
structure SG (w wr : World) (o' : Nat → Nat) (b c tb : Nat) (D E : Dk) (T : List Bool) : Prop where
  d : DIs wr o' 5 b D
  e : DIs wr o' 6 c E
  t : Blk wr tb 46 (T.map Value.bool)
  ot : o' tb = 7
  m : Mv [5, 6, 7] w (fun _ => 0) wr o'
section
variable {w wr w' : World} {o' o2 : Nat → Nat} {b c tb : Nat} {D E D2 : Dk} {T : List Bool}
theorem SG.bel (h : SG w wr o' b c tb D E T) : Below w.heap.size w wr := h.m.below (Nat.le_refl _) (fun k hk => by simp)
theorem SG.below (h : SG w wr o' b c tb D E T) (hb : Below wr.heap.size wr w') : SG w w' (newTo o' wr 0) b c tb D E T :=
  ⟨h.d.below hb, h.e.below hb, h.t.below hb, by rw [newTo_old h.t.lt]; exact h.ot, h.m.trans (Mv.of_below 0 hb)⟩
theorem SG.drew (h : SG w wr o' b c tb D E T) : SG w wr.drew o' b c tb D E T :=
  ⟨h.d.mv (mv_drewn (I := []) _ _) (by simp), h.e.mv (mv_drewn (I := []) _ _) (by simp), h.t, h.ot, h.m.trans (mv_drewn _ _)⟩
theorem SG.disk (h : SG w wr o' b c tb D E T) (hd : DIs w' o2 5 b D2) (m : Mv [5] wr o' w' o2) : SG w w' o2 b c tb D2 E T :=
  ⟨hd, h.e.mv m (by simp), h.t.block (m.block tb h.t.lt (by rw [h.ot]; simp)), by rw [m.ext tb h.t.lt]; exact h.ot, h.m.trans (m.widen (by simp))⟩
theorem SG.touch (h : SG w wr o' b c tb D E T) (i : Nat) : SG w (wr.setCell ⟨tb, i, none⟩ (.bool true)) o' b c tb D E (T.set i true) := by
  have M : Mv [7] wr o' (wr.setCell ⟨tb, i, none⟩ (.bool true)) o' := Mv.of_set (grown_setCell _ _ _ _) (fun _ => by rw [h.ot]; simp)
  refine ⟨h.d.mv M (by simp), h.e.mv M (by simp), ?_, h.ot, h.m.trans (M.widen (by simp))⟩
  have := h.t.set i (.bool true)
  rw [← List.map_set] at this
  exact this
end
def Sf2 (w wr : World) (b c tb n : Nat) (G : List Sec) : Prop := ∃ o' D E T, SG w wr o' b c tb D E T ∧ DOk D n ∧ Saf2 D G T ∧ SafE E G ∧ ∃ M, DOk E M
def Sf3 (w wr : World) (b c tb : Nat) (D E : Dk) (T : List Bool) : Prop := ∃ o', SG w wr o' b c tb D E T
theorem safe_put {w wr : World} {o' : Nat → Nat} {b c tb n : Nat} {D E : Dk} {T : List Bool} {G : List Sec} (h : SG w wr o' b c tb D E T) (hOk : DOk D n) (hn : n ≤ 2000) (hA : Saf2 D G T) (hE : SafE E G) (hM : ∃ M, DOk E M) (qn : Int) (L : List Int) (hi : 0 ≤ qn → qn < 6 → T.getD qn.toNat false = true) (w3 : World) (v : Value) (hb : Below wr.drew.heap.size wr.drew w3) (hr : Rd w3 v L) :
    Calls Try.prog 17 #[ptr b, .int .i64 qn, v] w3 fun r w4 => ∃ kk, r = .returned (.int .i64 kk) ∧ Sf2 w w4 b c tb (n + 1) G := by
  have h3 := h.drew.below hb
  obtain ⟨gv, nv, pv, d⟩ := h3.d
  refine (write_any d hOk hn qn hr).mono ?_
  rintro r w4 ⟨rfl, o4, d4, m4⟩
  exact ⟨_, rfl, o4, _, E, T, h3.disk d4 m4, hOk.write, hA.write _ _ hi, hE, hM⟩
theorem Sf2.bel {w wr : World} {b c tb n : Nat} {G : List Sec} (h : Sf2 w wr b c tb n G) : Below w.heap.size w wr := by
  obtain ⟨o', D, E, T, h, _⟩ := h
  exact h.bel
theorem Sf3.bel {w wr : World} {b c tb : Nat} {D E : Dk} {T : List Bool} (h : Sf3 w wr b c tb D E T) : Below w.heap.size w wr := by
  obtain ⟨o', h⟩ := h
  exact h.bel
theorem Sf3.below {w wr w' : World} {b c tb : Nat} {D E : Dk} {T : List Bool} (h : Sf3 w wr b c tb D E T) (hb : Below wr.heap.size wr w') : Sf3 w w' b c tb D E T := by
  obtain ⟨o', h⟩ := h
  exact ⟨_, h.below hb⟩

theorem safe_walk (v : Value) (l : List (OpD × Value)) (v' : Value) (l' : List (OpD × Value)) (kv : Value) (ks : List Bool) (w : World) (hrd : RowF oc w v l) (hE : OpsOk w l) (hrd' : RowF oc w v' l') (hE' : OpsOk w l') (hks : RowF bc w kv ks) :
    Calls Try.prog 4 #[v, v', kv] w fun e w' => e = .returned (.bool true) ∧ Below w.heap.size w w' := by
  obtain ⟨a, cap, rfl⟩ := hrd.len
  obtain ⟨a', cap', rfl⟩ := hrd'.len
  have HKS : Hid (RowF bc w kv ks) := hks
  obtain ⟨ak, capk, hkk⟩ := hks.len
  subst hkk
  have hcap := hrd.caps.2
  have hcap' := hrd'.caps.2
  have hcapk := hks.caps.2
  have HAl : Hid (∀ w', Calls Try.prog 8 #[] w' fun r w2 => r = .returned (.bool true) ∧ Below w'.heap.size w' w2) := fun w' => alive_any w'
  have HLi : Hid (Calls Try.prog 7 #[.slice a l.length cap] w fun r w2 => r = .returned (.bool (lightB l)) ∧ w2 = w) := light_any hrd hE
  have HLi' : Hid (Calls Try.prog 7 #[.slice a' l'.length cap'] w fun r w2 => r = .returned (.bool (lightB l')) ∧ w2 = w) := light_any hrd' hE'
  cases hli : lightB l
  · rw [hli] at HLi
    clear hrd hE hrd' hE' hli hks HKS HLi'
    go_enter Try.func4, Try.ntmps4
    go_wp2_with (first
      | (go_at_call 7; go_must (refine HLi.out.mono ?_; rintro r w2 ⟨rfl, hw2⟩; replace hw2 := hw2.symm; subst hw2))
      | (go_at_call 8; go_must (refine (HAl.out w).mono ?_; rintro r w2 ⟨rfl, hb2⟩)))
    go_ret
    exact ⟨rfl, hb2⟩
  rw [hli] at HLi
  cases hli' : lightB l'
  · rw [hli'] at HLi'
    clear hrd hE hrd' hE' hli hli' hks HKS
    have t1 : Hid True := trivial
    go_enter Try.func4, Try.ntmps4
    go_wp2_with (first
      | (replace t1 := t1; go_at_call 7; go_must (refine HLi.out.mono ?_; rintro r w2 ⟨rfl, hw2⟩; replace hw2 := hw2.symm; subst hw2; clear t1))
      | (go_at_call 7; go_must (refine HLi'.out.mono ?_; rintro r w2 ⟨rfl, hw2⟩; replace hw2 := hw2.symm; subst hw2))
      | (go_at_call 8; go_must (refine (HAl.out w).mono ?_; rintro r w2 ⟨rfl, hb2⟩)))
    go_ret
    exact ⟨rfl, hb2⟩
  rw [hli'] at HLi'
  by_cases hk60 : 60 < ks.length
  · clear hrd hE hrd' hE' hli hli' hks HKS
    generalize ks.length = LK at *
    have t1 : Hid True := trivial
    go_enter Try.func4, Try.ntmps4
    go_wp2_with (first
      | (replace t1 := t1; go_at_call 7; go_must (refine HLi.out.mono ?_; rintro r w2 ⟨rfl, hw2⟩; replace hw2 := hw2.symm; subst hw2; clear t1))
      | (go_at_call 7; go_must (refine HLi'.out.mono ?_; rintro r w2 ⟨rfl, hw2⟩; replace hw2 := hw2.symm; subst hw2))
      | (go_at_call 8; go_must (refine (HAl.out w).mono ?_; rintro r w2 ⟨rfl, hb2⟩)))
    go_ret
    exact ⟨rfl, hb2⟩
  have hfew := (light_few hli).1
  have hfew' := (light_few hli').1
  have HN : Hid (Calls Try.prog 9 #[.int .i64 6] w fun r w' => r = .returned (.tuple #[ptr (w.heap.size + 2), .int .i64 0]) ∧ Sf1 w w' (w.heap.size + 2) 0) := (dnew_any w (fun _ => 0) 5 6 (by omega) (by omega) (by omega)).mono fun r w' ⟨e, d, hb⟩ => ⟨e, _, _, d, newD_ok 6 (by omega) (by omega), saf1_new, Mv.of_below 5 hb⟩
  have HV : Hid (RowF oc w (.slice a l.length cap) l) := hrd
  have HE : Hid (OpsOk w l) := hE
  have HV' : Hid (RowF oc w (.slice a' l'.length cap') l') := hrd'
  have HE' : Hid (OpsOk w l') := hE'
  obtain ⟨LK, hLK⟩ : ∃ LK, LK = ks.length := ⟨_, rfl⟩
  rw [← hLK] at hcapk hk60 HKS ⊢
  clear hrd hE hrd' hE' hli hli' hks hLK
  have t1 : Hid True := trivial
  go_enter Try.func4, Try.ntmps4
  go_wp2_with (first
    | (replace t1 := t1; go_at_call 7; go_must (refine HLi.out.mono ?_; rintro r w2 ⟨rfl, hw2⟩; replace hw2 := hw2.symm; subst hw2; clear t1))
    | (go_at_call 7; go_must (refine HLi'.out.mono ?_; rintro r w2 ⟨rfl, hw2⟩; replace hw2 := hw2.symm; subst hw2))
    | (go_at_call 9; go_must (refine HN.out.mono ?_; rintro r w1 ⟨rfl, h1⟩; have HS : Hid (Sf1 w w1 (w.heap.size + 2) 0) := h1; clear h1)))
  go_loopw [9] (fun i wr => ∃ (k : Nat), i = .int .i64 k ∧ k ≤ l.length ∧ Hid (Sf1 w wr (w.heap.size + 2) k)) (fun i _ => l.length - (intOf i).toNat)
  case atStart => exact ⟨0, rfl, by omega, HS⟩
  case round =>
    obtain ⟨k, rfl, hk, HI⟩ := hrel
    clear HLi HLi' HN HS
    by_cases hkl : k < l.length
    · obtain ⟨o', D, hD, hOk, hA, hM⟩ := HI.out
      have hbw : Below w.heap.size w wr := mv5_below hM
      obtain ⟨q, hq⟩ : ∃ q, l[k]? = some q := ⟨_, List.getElem?_eq_getElem hkl⟩
      obtain ⟨g, off, ea, hr⟩ := HV.out.at oc_len hq
      subst ea
      have hqo := HE.out q (List.mem_of_getElem? hq)
      have hr' : ∀ w' : World, Below w.heap.size w w' → w'.rangeAt g (off + k * 5) (oc q) := fun w' hb => rangeAt_blocks hr (fun hlt => hb.block g hlt)
      have x0 := hr' wr hbw 0 _ rfl
      have e1 := fun z : WIn (Below w.heap.size w) => hr' z.w z.ok 1 _ rfl
      have e2 := fun z : WIn (Below w.heap.size w) => hr' z.w z.ok 2 _ rfl
      have e3 := fun z : WIn (Below w.heap.size w) => hr' z.w z.ok 3 _ rfl
      have hqn := hqo.n
      have hqy := hqo.y
      have hk3 : (k : Int) < (l.length : Int) := by omega
      clear hr hr' hqo hq
      obtain ⟨⟨qk, qn, qy, qs, qks⟩, qv⟩ := q
      dsimp only at *
      simp only [Nat.add_zero] at x0
      by_cases hk0 : qk = 0
      · subst hk0
        have HSec : Hid (∀ w', Calls Try.prog 18 #[.int .u8 qy, .bool qs] w' fun r w2 => ∃ v, r = .returned v ∧ Own w'.heap.size 5 w2 v (secL qy qs) ∧ Below w'.heap.size w' w2) := fun w' => sector_any w' qy qs hqy
        have HBd : Hid (Below w.heap.size w wr.drew) := (show Below _ _ _ from ⟨hbw.os, hbw.tape, hbw.output, hbw.size, hbw.block⟩)
        have HBn : Hid (∀ w3, Below wr.drew.heap.size wr.drew w3 → Below w.heap.size w w3) := fun w3 h => HBd.out.trans (h.mono HBd.out.size)
        have HWr : Hid (∀ (w3 : World) (v : Value), Below wr.drew.heap.size wr.drew w3 → Rd w3 v (secL qy qs) → Calls Try.prog 17 #[ptr (w.heap.size + 2), .int .i64 qn, v] w3 fun r w4 => ∃ kk, r = .returned (.int .i64 kk) ∧ Sf1 w w4 (w.heap.size + 2) (k + 1)) := fun w3 v hb hr => by
          have m3 : Mv [5] wr o' w3 (newTo o' wr 0) := mv_undrew (Mv.of_below 0 hb)
          obtain ⟨gv, nv, pv, d⟩ := hD.mv (mv_undrew (Mv.of_below (I := []) 0 hb)) (by simp)
          refine (write_any d hOk (by omega) qn hr).mono ?_
          rintro r w4 ⟨rfl, o4, d4, m4⟩
          exact ⟨_, rfl, o4, _, d4, hOk.write, hA.write _ _, (hM.trans m3).trans m4⟩
        clear hD hOk hA hM hbw HI
        go_upto_region 10 with fail
        have ne : Nonempty (WIn (Below w.heap.size w)) := ⟨⟨w, Below.refl _ _⟩⟩
        refine wp_region_tree (C := fun w' => ∃ z : WIn (Below w.heap.size w), w' = z.w) (.still 0 (.still 1 (.still 2 (.still 3 (.still 4 (.still 5 (.still 6 (.still 7 (.still 8 (.still 9 (.still 10 (.still 11 (.still 12 (.still 13 (.still 14 (.still 15 (.one 16 (.one 17 .done)))))))))))))))))) (by kernel_rfl) (by kernel_rfl) ⟨⟨wr.drew, HBd.out⟩, rfl⟩ ?_
        generalize wr.drew = wd at *
        iterate 16 (refine tree_still rfl rfl ?_; go_big_quiet_step (fail); refine wpQuiet_nil ?_)
        refine tree_one rfl rfl ?_
        go_simp
        refine (HSec.out wd).mono ?_
        rintro r w3 ⟨v3, rfl, hO3, hb3⟩
        obtain ⟨a3, q3, hv3⟩ := hO3.rd.len
        subst hv3
        have HWr3 := HWr.out w3 _ hb3 hO3.rd
        have HB3 : Hid (Below w.heap.size w w3) := HBn.out w3 hb3
        clear hO3 hb3
        refine ⟨⟨⟨_, HB3.out⟩, rfl⟩, ?_⟩
        refine tree_one rfl rfl ?_
        go_simp
        refine HWr3.mono ?_
        rintro r w4 ⟨kk, rfl, h4⟩
        have HS4 : Hid (Sf1 w w4 (w.heap.size + 2) (k + 1)) := h4
        have HB4 : Hid (Below w.heap.size w w4) := by obtain ⟨o4, D4, _, _, _, m4⟩ := h4; exact mv5_below m4
        clear h4 HWr3
        refine ⟨⟨⟨_, HB4.out⟩, rfl⟩, ?_⟩
        refine tree_done ?_
        clear e1 e2 e3 ne
        go_wp2
        go_roundw
        case rel => exact ⟨k + 1, by go_num, by omega, HS4⟩
        case measure => simp [intOf]; omega
      · have HS2 : Hid (Sf1 w wr (w.heap.size + 2) (k + 1)) := ⟨o', D, hD, hOk.mono (by omega), hA, hM⟩
        have hkn : (qk == 0) = false := by simpa using hk0
        clear e1 e2 e3 hD hOk hA hM hbw HI hk0
        go_wp2
        go_roundw
        case rel => exact ⟨k + 1, by go_num, by omega, HS2⟩
        case measure => simp [intOf]; omega
    · obtain rfl : k = l.length := by omega
      obtain ⟨o', D, ⟨gv, nv, pv, d⟩, hOk, hA, hM⟩ := HI.out
      obtain ⟨hs0, hsE, hs2⟩ := saf_sync hA
      have HSy : Hid (Calls Try.prog 19 #[ptr (w.heap.size + 2)] wr fun r w2 => r = .returned (.int .i64 0) ∧ ∃ o', DIs w2 o' 5 (w.heap.size + 2) D.sync.2 ∧ Mv [5] w (fun _ => 0) w2 o') := (sync_any d hOk (by omega)).mono fun r w2 ⟨e, o2, d2, m2⟩ => ⟨by rw [e, hs0], o2, d2, hM.trans m2⟩
      have hOk2 := hOk.sync
      have HCp : Hid (∀ (w2 : World), (∃ o', DIs w2 o' 5 (w.heap.size + 2) D.sync.2 ∧ Mv [5] w (fun _ => 0) w2 o') → Calls Try.prog 12 #[ptr (w.heap.size + 2)] w2 fun r w3 => r = .returned (ptr w2.heap.size) ∧ ∀ w4, w4 = w3.alloc (.cells #[.bool false, .bool false, .bool false, .bool false, .bool false, .bool false] 46) → Sf2 w w4 (w.heap.size + 2) w2.heap.size w3.heap.size (l.length + 0) D.now) := fun w2 ⟨o2, hd2, m2⟩ => by
        obtain ⟨gv2, nv2, pv2, d2⟩ := id hd2
        refine (copy_any d2 hOk2 (by omega) 6).mono ?_
        rintro r w3 ⟨rfl, dc, hb3⟩
        refine ⟨rfl, fun w4 hw4 => ?_⟩
        have hb4 : Below w3.heap.size w3 w4 := by rw [hw4]; exact balloc (Below.refl _ _) _
        have M3 : Mv [] w2 o2 w3 (newTo o2 w2 6) := Mv.of_below 6 hb3
        have M4 : Mv [] w3 (newTo o2 w2 6) w4 (newTo (newTo o2 w2 6) w3 7) := Mv.of_below 7 hb4
        refine ⟨_, D.sync.2, D.sync.2, List.replicate 6 false, ⟨(hd2.mv M3 (by simp)).mv M4 (by simp), dc.mv M4 (by simp), ?_, newTo_new (Nat.le_refl _), ((m2.widen (by simp)).trans (M3.widen (by simp))).trans (M4.widen (by simp))⟩, hOk2, hs2, hsE, _, hOk2⟩
        rw [hw4]
        exact blk_new w3 _ 46
      generalize D.now = G at *
      generalize D.sync.2 = D2 at *
      clear d hOk hA hM HI HE HV hs0 hsE hs2 hOk2
      go_upto_region 14 with (first
        | (go_at_call 19; go_must (refine HSy.out.mono ?_; rintro r w2 ⟨rfl, h2⟩; have HS2 : Hid (∃ o', DIs w2 o' 5 (w.heap.size + 2) D2 ∧ Mv [5] w (fun _ => 0) w2 o') := h2; clear h2))
        | (go_at_call 12; go_must (refine (HCp.out w2 HS2.out).mono ?_; rintro r w3 ⟨rfl, h3⟩)))
      obtain ⟨w4, hw4⟩ : ∃ w4, w4 = w3.alloc (.cells #[.bool false, .bool false, .bool false, .bool false, .bool false, .bool false] 46) := ⟨_, rfl⟩
      have HS4 : Hid (Sf2 w w4 (w.heap.size + 2) w2.heap.size w3.heap.size (l.length + 0) G) := h3 w4 hw4
      have HW4 : Hid (w4 = w3.alloc (.cells #[.bool false, .bool false, .bool false, .bool false, .bool false, .bool false] 46)) := hw4
      clear h3 hw4 HSy HCp HS2
      generalize w2.heap.size = cb at *
      go_upto_region 15 with fail
      rw [← HW4.out]
      clear HW4
      generalize w3.heap.size = tb at *
      go_wp2
      go_loopw [12] (fun i wr => ∃ (k2 : Nat), i = .int .i64 k2 ∧ k2 ≤ l'.length ∧ Hid (Sf2 w wr (w.heap.size + 2) cb tb (l.length + k2) G)) (fun i _ => l'.length - (intOf i).toNat)
      case atStart => exact ⟨0, rfl, by omega, HS4⟩
      case round =>
        obtain ⟨k2, rfl, hk2, HI2⟩ := hrel
        clear HS4
        by_cases hkl2 : k2 < l'.length
        · obtain ⟨o2, D3, E3, T3, hSG, hOk3, hA3, hE3, hM3⟩ := HI2.out
          have hbw := hSG.bel
          obtain ⟨q, hq⟩ : ∃ q, l'[k2]? = some q := ⟨_, List.getElem?_eq_getElem hkl2⟩
          obtain ⟨g, off, ea, hr⟩ := HV'.out.at oc_len hq
          subst ea
          have hqo := HE'.out q (List.mem_of_getElem? hq)
          have hr' : ∀ w' : World, Below w.heap.size w w' → w'.rangeAt g (off + k2 * 5) (oc q) := fun w' hb => rangeAt_blocks hr (fun hlt => hb.block g hlt)
          have e0 := fun z : WIn (Below w.heap.size w) => hr' z.w z.ok 0 _ rfl
          have e1 := fun z : WIn (Below w.heap.size w) => hr' z.w z.ok 1 _ rfl
          have e2 := fun z : WIn (Below w.heap.size w) => hr' z.w z.ok 2 _ rfl
          have e3 := fun z : WIn (Below w.heap.size w) => hr' z.w z.ok 3 _ rfl
          have hqn := hqo.n
          have hqy := hqo.y
          have hk3 : (k2 : Int) < (l'.length : Int) := by omega
          clear hr hr' hqo hq
          obtain ⟨⟨qk, qn, qy, qs, qks⟩, qv⟩ := q
          dsimp only at *
          simp only [Nat.add_zero] at e0
          have x0 := e0 ⟨wr, hbw⟩
          have x1 := e1 ⟨wr, hbw⟩
          dsimp only at x0 x1
          by_cases hk0 : qk = 0
          · subst hk0
            have HSec : Hid (∀ w', Calls Try.prog 18 #[.int .u8 qy, .bool qs] w' fun r w2 => ∃ v, r = .returned v ∧ Own w'.heap.size 5 w2 v (secL qy qs) ∧ Below w'.heap.size w' w2) := fun w' => sector_any w' qy qs hqy
            by_cases hin : 0 ≤ qn ∧ qn < 6
            · obtain ⟨n, rfl⟩ := Int.eq_ofNat_of_zero_le hin.1
              have hn6 : n < 6 := by omega
              obtain ⟨w5, hw5⟩ : ∃ w5, w5 = wr.setCell ⟨tb, n, none⟩ (.bool true) := ⟨_, rfl⟩
              have h5 := hSG.touch n
              rw [← hw5] at h5
              have hA5 := hA3.touch n
              have hbw5 := h5.bel
              have HBd : Hid (Below w.heap.size w w5.drew) := (show Below _ _ _ from ⟨hbw5.os, hbw5.tape, hbw5.output, hbw5.size, hbw5.block⟩)
              have HBn : Hid (∀ w3, Below w5.drew.heap.size w5.drew w3 → Below w.heap.size w w3) := fun w3 h => HBd.out.trans (h.mono HBd.out.size)
              have HWr : Hid (∀ (w3 : World) (v : Value), Below w5.drew.heap.size w5.drew w3 → Rd w3 v (secL qy qs) → Calls Try.prog 17 #[ptr (w.heap.size + 2), .int .i64 (n : Int), v] w3 fun r w4 => ∃ kk, r = .returned (.int .i64 kk) ∧ Sf2 w w4 (w.heap.size + 2) cb tb (l.length + k2 + 1) G) := fun w3 v hb hr => safe_put h5 hOk3 (by omega) hA5 hE3 hM3 (n : Int) _ (fun _ _ => by rw [Int.toNat_natCast]; exact getD_set_self (by rw [hA3.tl]; exact hn6)) w3 v hb hr
              obtain ⟨tx, htx⟩ : ∃ tx, T3[n]? = some tx := ⟨_, List.getElem?_eq_getElem (by rw [hA3.tl]; exact hn6)⟩
              have xt := hSG.t.cell n (.bool tx) (by rw [List.getElem?_map, htx]; rfl)
              have ft := hSG.t.frozen n
              have HW5 : Hid (w5 = wr.setCell ⟨tb, n, none⟩ (.bool true)) := hw5
              have y0 : (0 : Int) ≤ (n : Int) := hin.1
              have y1 : (n : Int) < 6 := hin.2
              clear hSG hOk3 hA3 hE3 hM3 hbw HI2 hw5 h5 hA5 hbw5 htx hin
              go_upto_region 23 with fail
              rw [← HW5.out]
              clear HW5 x0 x1 xt ft
              have ne : Nonempty (WIn (Below w.heap.size w)) := ⟨⟨w, Below.refl _ _⟩⟩
              refine wp_region_tree (C := fun w' => ∃ z : WIn (Below w.heap.size w), w' = z.w) (.still 0 (.still 1 (.still 2 (.still 3 (.still 4 (.still 5 (.still 6 (.still 7 (.still 8 (.still 9 (.still 10 (.still 11 (.still 12 (.still 13 (.still 14 (.still 15 (.one 16 (.one 17 .done)))))))))))))))))) (by kernel_rfl) (by kernel_rfl) ⟨⟨w5.drew, HBd.out⟩, rfl⟩ ?_
              generalize w5.drew = wd at *
              iterate 16 (refine tree_still rfl rfl ?_; go_big_quiet_step (fail); refine wpQuiet_nil ?_)
              refine tree_one rfl rfl ?_
              go_simp
              refine (HSec.out wd).mono ?_
              rintro r w3 ⟨v3, rfl, hO3, hb3⟩
              obtain ⟨a3, q3, hv3⟩ := hO3.rd.len
              subst hv3
              have HWr3 := HWr.out w3 _ hb3 hO3.rd
              have HB3 : Hid (Below w.heap.size w w3) := HBn.out w3 hb3
              clear hO3 hb3
              refine ⟨⟨⟨_, HB3.out⟩, rfl⟩, ?_⟩
              refine tree_one rfl rfl ?_
              go_simp
              refine HWr3.mono ?_
              rintro r w4 ⟨kk, rfl, h4⟩
              have HS4 : Hid (Sf2 w w4 (w.heap.size + 2) cb tb (l.length + k2 + 1) G) := h4
              have HB4 : Hid (Below w.heap.size w w4) := h4.bel
              clear h4 HWr3
              refine ⟨⟨⟨_, HB4.out⟩, rfl⟩, ?_⟩
              refine tree_done ?_
              clear e1 e2 e3 ne
              go_wp2
              go_roundw
              case rel => exact ⟨k2 + 1, by go_num, by omega, HS4⟩
              case measure => simp [intOf]; omega
            · have HBd : Hid (Below w.heap.size w wr.drew) := (show Below _ _ _ from ⟨hbw.os, hbw.tape, hbw.output, hbw.size, hbw.block⟩)
              have HBn : Hid (∀ w3, Below wr.drew.heap.size wr.drew w3 → Below w.heap.size w w3) := fun w3 h => HBd.out.trans (h.mono HBd.out.size)
              have HWr : Hid (∀ (w3 : World) (v : Value), Below wr.drew.heap.size wr.drew w3 → Rd w3 v (secL qy qs) → Calls Try.prog 17 #[ptr (w.heap.size + 2), .int .i64 qn, v] w3 fun r w4 => ∃ kk, r = .returned (.int .i64 kk) ∧ Sf2 w w4 (w.heap.size + 2) cb tb (l.length + k2 + 1) G) := fun w3 v hb hr => safe_put hSG hOk3 (by omega) hA3 hE3 hM3 qn _ (fun h0 h1 => absurd ⟨h0, h1⟩ hin) w3 v hb hr
              by_cases hn0 : 0 ≤ qn
              · have hn6 : ¬ qn < 6 := fun h => hin ⟨hn0, h⟩
                clear hSG hOk3 hA3 hE3 hM3 hbw HI2 hin
                go_upto_region 23 with fail
                clear x0 x1
                have ne : Nonempty (WIn (Below w.heap.size w)) := ⟨⟨w, Below.refl _ _⟩⟩
                refine wp_region_tree (C := fun w' => ∃ z : WIn (Below w.heap.size w), w' = z.w) (.still 0 (.still 1 (.still 2 (.still 3 (.still 4 (.still 5 (.still 6 (.still 7 (.still 8 (.still 9 (.still 10 (.still 11 (.still 12 (.still 13 (.still 14 (.still 15 (.one 16 (.one 17 .done)))))))))))))))))) (by kernel_rfl) (by kernel_rfl) ⟨⟨wr.drew, HBd.out⟩, rfl⟩ ?_
                generalize wr.drew = wd at *
                iterate 16 (refine tree_still rfl rfl ?_; go_big_quiet_step (fail); refine wpQuiet_nil ?_)
                refine tree_one rfl rfl ?_
                go_simp
                refine (HSec.out wd).mono ?_
                rintro r w3 ⟨v3, rfl, hO3, hb3⟩
                obtain ⟨a3, q3, hv3⟩ := hO3.rd.len
                subst hv3
                have HWr3 := HWr.out w3 _ hb3 hO3.rd
                have HB3 : Hid (Below w.heap.size w w3) := HBn.out w3 hb3
                clear hO3 hb3
                refine ⟨⟨⟨_, HB3.out⟩, rfl⟩, ?_⟩
                refine tree_one rfl rfl ?_
                go_simp
                refine HWr3.mono ?_
                rintro r w4 ⟨kk, rfl, h4⟩
                have HS4 : Hid (Sf2 w w4 (w.heap.size + 2) cb tb (l.length + k2 + 1) G) := h4
                have HB4 : Hid (Below w.heap.size w w4) := h4.bel
                clear h4 HWr3
                refine ⟨⟨⟨_, HB4.out⟩, rfl⟩, ?_⟩
                refine tree_done ?_
                clear e0 e1 e2 e3 ne
                go_wp2
                go_roundw
                case rel => exact ⟨k2 + 1, by go_num, by omega, HS4⟩
                case measure => simp [intOf]; omega
              · clear hSG hOk3 hA3 hE3 hM3 hbw HI2 hin
                go_upto_region 23 with fail
                clear x0 x1
                have ne : Nonempty (WIn (Below w.heap.size w)) := ⟨⟨w, Below.refl _ _⟩⟩
                refine wp_region_tree (C := fun w' => ∃ z : WIn (Below w.heap.size w), w' = z.w) (.still 0 (.still 1 (.still 2 (.still 3 (.still 4 (.still 5 (.still 6 (.still 7 (.still 8 (.still 9 (.still 10 (.still 11 (.still 12 (.still 13 (.still 14 (.still 15 (.one 16 (.one 17 .done)))))))))))))))))) (by kernel_rfl) (by kernel_rfl) ⟨⟨wr.drew, HBd.out⟩, rfl⟩ ?_
                generalize wr.drew = wd at *
                iterate 16 (refine tree_still rfl rfl ?_; go_big_quiet_step (fail); refine wpQuiet_nil ?_)
                refine tree_one rfl rfl ?_
                go_simp
                refine (HSec.out wd).mono ?_
                rintro r w3 ⟨v3, rfl, hO3, hb3⟩
                obtain ⟨a3, q3, hv3⟩ := hO3.rd.len
                subst hv3
                have HWr3 := HWr.out w3 _ hb3 hO3.rd
                have HB3 : Hid (Below w.heap.size w w3) := HBn.out w3 hb3
                clear hO3 hb3
                refine ⟨⟨⟨_, HB3.out⟩, rfl⟩, ?_⟩
                refine tree_one rfl rfl ?_
                go_simp
                refine HWr3.mono ?_
                rintro r w4 ⟨kk, rfl, h4⟩
                have HS4 : Hid (Sf2 w w4 (w.heap.size + 2) cb tb (l.length + k2 + 1) G) := h4
                have HB4 : Hid (Below w.heap.size w w4) := h4.bel
                clear h4 HWr3
                refine ⟨⟨⟨_, HB4.out⟩, rfl⟩, ?_⟩
                refine tree_done ?_
                clear e0 e1 e2 e3 ne
                go_wp2
                go_roundw
                case rel => exact ⟨k2 + 1, by go_num, by omega, HS4⟩
                case measure => simp [intOf]; omega
          · by_cases hk33 : qk = 3
            · subst hk33
              have HAr : Hid (Calls Try.prog 20 #[ptr (w.heap.size + 2), .int .i64 qn] wr fun r w4 => ∃ kk, r = .returned (.int .i64 kk) ∧ Sf2 w w4 (w.heap.size + 2) cb tb (l.length + k2 + 1) G) := by
                obtain ⟨gv3, nv3, pv3, d3⟩ := hSG.d
                refine (arm_any d3 qn).mono ?_
                rintro r w4 ⟨rfl, o4, d4, m4⟩
                exact ⟨_, rfl, o4, _, E3, T3, hSG.disk d4 m4, (hOk3.arm hqn.2).mono (by omega), hA3.arm _, hE3, hM3⟩
              clear hSG hOk3 hA3 hE3 hM3 hbw HI2 hk0
              go_upto_region 20 with (go_at_call 20; go_must (refine HAr.out.mono ?_; rintro r w5 ⟨kk, rfl, h5⟩; have HS5 : Hid (Sf2 w w5 (w.heap.size + 2) cb tb (l.length + k2 + 1) G) := h5; clear h5))
              have z0 := e0 ⟨w5, HS5.out.bel⟩
              dsimp only at z0
              clear e0 e1 e2 e3 x0 x1
              go_wp2
              go_roundw
              case rel => exact ⟨k2 + 1, by go_num, by omega, HS5⟩
              case measure => simp [intOf]; omega
            · have HS5 : Hid (Sf2 w wr (w.heap.size + 2) cb tb (l.length + k2 + 1) G) := ⟨o2, D3, E3, T3, hSG, hOk3.mono (by omega), hA3, hE3, hM3⟩
              have hkn : (qk == 0) = false := by simpa using hk0
              have hkn3 : (qk == 3) = false := by simpa using hk33
              clear e0 e1 e2 e3 hSG hOk3 hA3 hE3 hM3 hbw HI2 hk0 hk33
              go_wp2
              go_roundw
              case rel => exact ⟨k2 + 1, by go_num, by omega, HS5⟩
              case measure => simp [intOf]; omega
        · obtain rfl : k2 = l'.length := by omega
          obtain ⟨o2, D3, E3, T3, hSG, hOk3, hA3, hE3, M, hM3⟩ := HI2.out
          have HRs : Hid (Calls Try.prog 21 #[ptr (w.heap.size + 2), .slice ak LK capk] wr fun r w4 => r = .returned (.int .i64 0) ∧ Sf3 w w4 (w.heap.size + 2) cb tb (D3.restart ks) E3 T3) := by
            obtain ⟨gv3, nv3, pv3, d3⟩ := hSG.d
            refine (restart_any (ks := ks) d3 hOk3 (by omega) (fun w' o'' m => ?_)).mono ?_
            · refine HKS.out.blocks (fun j hj hlt => ?_)
              have hb' : Below w.heap.size w w' := (hSG.m.trans (m.widen (by simp))).below (Nat.le_refl _) (fun k hk => by simp)
              exact hb'.block j hlt
            · rintro r w4 ⟨rfl, o4, d4, m4⟩
              exact ⟨rfl, o4, hSG.disk d4 m4⟩
          have HEq : Hid (∀ i : Nat, i < 6 → T3.getD i false = false → E3.readK (i : Int) = (D3.restart ks).readK (i : Int) ∧ E3.readB (i : Int) = (D3.restart ks).readB (i : Int)) := fun i hi ht => saf_read hA3 hE3 ks hi ht
          have hTl := hA3.tl
          have HDn : Hid ((D3.restart ks).down = false ∧ (D3.restart ks).pend = []) := ⟨rfl, rfl⟩
          generalize D3.restart ks = D4 at *
          clear hSG hOk3 hA3 hE3 hM3 HI2 HE' HV' HKS
          go_upto_region 25 with (go_at_call 21; go_must (refine HRs.out.mono ?_; rintro r w5 ⟨rfl, h5⟩; have HS5 : Hid (Sf3 w w5 (w.heap.size + 2) cb tb D4 E3 T3) := h5; clear h5))
          go_wp2
          go_loopw [13] (fun i wr => ∃ (k3 : Nat), i = .int .i64 k3 ∧ k3 ≤ 6 ∧ Hid (Sf3 w wr (w.heap.size + 2) cb tb D4 E3 T3)) (fun i _ => 6 - (intOf i).toNat)
          case atStart => exact ⟨0, rfl, by omega, HS5⟩
          case round =>
            obtain ⟨k3, rfl, hk3, HI3⟩ := hrel
            clear HS5 HRs
            by_cases hkl3 : k3 < 6
            · have HRd1 : Hid (Calls Try.prog 22 #[ptr cb, .int .i64 (k3 : Int)] wr fun r w6 => ∃ v6, r = .returned (.tuple #[v6, .int .i64 (E3.readK (k3 : Int))]) ∧ Rd w6 v6 (E3.readB (k3 : Int)) ∧ Below wr.heap.size wr w6) := by
                obtain ⟨o3, h3⟩ := HI3.out
                obtain ⟨gv3, nv3, pv3, d3⟩ := h3.e
                refine (read_any d3 _).mono ?_
                rintro r w6 ⟨v6, rfl, h6, b6⟩
                exact ⟨v6, rfl, h6.rd, b6⟩
              have HRd2 : Hid (∀ w6 : World, Below wr.heap.size wr w6 → Calls Try.prog 22 #[ptr (w.heap.size + 2), .int .i64 (k3 : Int)] w6 fun r w7 => ∃ v7, r = .returned (.tuple #[v7, .int .i64 (D4.readK (k3 : Int))]) ∧ Rd w7 v7 (D4.readB (k3 : Int)) ∧ Below w6.heap.size w6 w7) := fun w6 hb6 => by
                obtain ⟨o3, h3⟩ := HI3.out.below hb6
                obtain ⟨gv3, nv3, pv3, d3⟩ := h3.d
                refine (read_any d3 _).mono ?_
                rintro r w7 ⟨v7, rfl, h7, b7⟩
                exact ⟨v7, rfl, h7.rd, b7⟩
              obtain ⟨tx, htx⟩ : ∃ tx, T3[k3]? = some tx := ⟨_, List.getElem?_eq_getElem (by rw [hTl]; exact hkl3)⟩
              have HT : Hid (∀ w7 : World, Below wr.heap.size wr w7 → w7.cell? ⟨tb, k3, none⟩ = some (.bool tx)) := fun w7 hb7 => by
                obtain ⟨o3, h3⟩ := HI3.out.below hb7
                exact h3.t.cell k3 (.bool tx) (by rw [List.getElem?_map, htx]; rfl)
              have hEk := HEq.out k3 hkl3
              rw [List.getD_eq_getElem?_getD, htx] at hEk
              have hk33 : (k3 : Int) < 6 := by omega
              clear htx
              cases tx
              · obtain ⟨hEk1, hEk2⟩ := hEk rfl
                rw [hEk1, hEk2] at HRd1
                have HSm : Hid (∀ (v6 v7 : Value) (w7 : World), Rd w7 v6 (D4.readB (k3 : Int)) → Rd w7 v7 (D4.readB (k3 : Int)) → Calls Try.prog 23 #[v6, v7] w7 fun e w8 => e = .returned (.bool true) ∧ Below w7.heap.size w7 w8) := fun v6 v7 w7 h6 h7 => (same_any v6 v7 _ _ w7 h6 h7).mono fun e w8 ⟨he, hb⟩ => ⟨by rw [he, decide_eq_true rfl], hb⟩
                clear hEk hEk1 hEk2
                generalize D4.readK (k3 : Int) = KK at *
                generalize D4.readB (k3 : Int) = BB at *
                go_upto_region 30 with (first
                  | (replace HRd1 := HRd1; go_at_call 22; go_must (refine HRd1.out.mono ?_; rintro r w6 ⟨v6, rfl, r6, b6⟩; have Hr6 : Hid (Rd w6 v6 BB) := r6; have Hb6 : Hid (Below wr.heap.size wr w6) := b6; clear r6 b6 HRd1))
                  | (go_at_call 22; go_must (refine (HRd2.out w6 Hb6.out).mono ?_; rintro r w7 ⟨v7, rfl, r7, b7⟩; have Hr7 : Hid (Rd w7 v7 BB) := r7; have Hr67 : Hid (Rd w7 v6 BB) := Hr6.out.below b7; have Hb7 : Hid (Below wr.heap.size wr w7) := bnext Hb6.out b7; clear r7 b7)))
                have xt := HT.out w7 Hb7.out
                go_wp2_with (go_at_call 23; go_must (refine (HSm.out v6 v7 w7 Hr67.out Hr7.out).mono ?_; rintro r w8 ⟨rfl, b8⟩; have HS8 : Hid (Sf3 w w8 (w.heap.size + 2) cb tb D4 E3 T3) := HI3.out.below (bnext Hb7.out b8); clear b8))
                go_roundw
                case rel => exact ⟨k3 + 1, by go_num, by omega, HS8⟩
                case measure => simp [intOf]; omega
              · clear hEk
                generalize D4.readK (k3 : Int) = KK at *
                generalize E3.readK (k3 : Int) = KE at *
                go_upto_region 30 with (first
                  | (replace HRd1 := HRd1; go_at_call 22; go_must (refine HRd1.out.mono ?_; rintro r w6 ⟨v6, rfl, r6, b6⟩; have Hb6 : Hid (Below wr.heap.size wr w6) := b6; clear r6 b6 HRd1))
                  | (go_at_call 22; go_must (refine (HRd2.out w6 Hb6.out).mono ?_; rintro r w7 ⟨v7, rfl, r7, b7⟩; have Hb7 : Hid (Below wr.heap.size wr w7) := bnext Hb6.out b7; clear r7 b7)))
                have xt := HT.out w7 Hb7.out
                have HS8 : Hid (Sf3 w w7 (w.heap.size + 2) cb tb D4 E3 T3) := HI3.out.below Hb7.out
                go_wp2
                go_roundw
                case rel => exact ⟨k3 + 1, by go_num, by omega, HS8⟩
                case measure => simp [intOf]; omega
            · obtain rfl : k3 = 6 := by omega
              have HBw : Hid (Below w.heap.size w wr) := HI3.out.bel
              have HDw : Hid (Calls Try.prog 14 #[ptr (w.heap.size + 2)] wr fun r w2 => r = .returned (.bool false) ∧ w2 = wr) := by
                obtain ⟨o3, h3⟩ := HI3.out
                obtain ⟨gv3, nv3, pv3, d3⟩ := h3.d
                have := down_any d3
                rw [HDn.out.1] at this
                exact this
              have HPw : Hid (Calls Try.prog 15 #[ptr (w.heap.size + 2)] wr fun r w2 => r = .returned (.int .i64 0) ∧ w2 = wr) := by
                obtain ⟨o3, h3⟩ := HI3.out
                obtain ⟨gv3, nv3, pv3, d3⟩ := h3.d
                have := pending_any d3
                rw [HDn.out.2] at this
                exact this
              clear HI3 HDn HEq
              go_wp2_with (first
                | (go_at_call 14; go_must (refine HDw.out.mono ?_; rintro r w6 ⟨rfl, hw6⟩; replace hw6 := hw6.symm; subst hw6))
                | (go_at_call 15; go_must (refine HPw.out.mono ?_; rintro r w6 ⟨rfl, hw6⟩; replace hw6 := hw6.symm; subst hw6))
                | (go_at_call 8; go_must (refine (HAl.out _).mono ?_; rintro r w7 ⟨rfl, hb7⟩)))
              go_ret
              exact ⟨rfl, bnext HBw.out hb7⟩
end Go.Proofs.Ytfkkbloapnlbgaa
