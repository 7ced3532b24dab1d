/-
  The disk's settle (over 'each', and over a choice's method value), Write, Sync, Arm, Restart.
-/
import Derived.Test.YtkcighejmjgalaaDoorDsk3
namespace Go.Proofs.YtkcighejmjgalaaDoor
set_option linter.unusedVariables false
set_option linter.unusedSimpArgs false
set_option synthInstance.maxSize 20000
set_option maxHeartbeats 2000000
set_option maxRecDepth 20000
open Go.RowKit Go.Maps

theorem settle_step {keep : Nat → Bool} {l : List Wr} {k : Nat} {q : Wr} (h : l[k]? = some q) (g : List Sec) : settle keep 0 (l.take (k + 1)) g = if keep k then (settle keep 0 (l.take k) g).set q.1 q.2 else settle keep 0 (l.take k) g := by
  have hk : k < l.length := (List.getElem?_eq_some_iff.1 h).1
  have e : l.take (k + 1) = l.take k ++ [q] := by
    rw [List.take_add_one, h]
    rfl
  have e2 : (l.take k).length = k := by rw [List.length_take]; omega
  rw [e, settle_append, e2, Nat.zero_add]
  rfl
def Dk.part (D : Dk) (keep : Nat → Bool) (k : Nat) : Dk := { D with good := settle keep 0 (D.pend.take k) D.good }
theorem part_zero (D : Dk) (keep : Nat → Bool) : D.part keep 0 = D := by
  unfold Dk.part
  rw [List.take_zero]
  rfl
theorem part_step {D : Dk} {keep : Nat → Bool} {k : Nat} {q : Wr} (h : D.pend[k]? = some q) : D.part keep (k + 1) = if keep k then { D.part keep k with good := (D.part keep k).good.set q.1 q.2 } else D.part keep k := by
  unfold Dk.part
  rw [settle_step h]
  split <;> rfl
theorem part_end (D : Dk) (keep : Nat → Bool) : { D.part keep D.pend.length with pend := [] } = D.settled keep := by
  unfold Dk.part Dk.settled
  rw [List.take_length]

section
variable {w : World} {o : Nat → Nat} {j b : Nat} {gv nv pv : Value} {D : Dk}

set_option maxHeartbeats 4000000 in
theorem settle_each (h : DAt w o j b gv nv pv D) (hat : ∀ q ∈ D.pend, q.1 < D.good.length) {keep : Nat → Bool}
    (hC : ∀ (k : Nat) (w' : World) (o' : Nat → Nat), k < D.pend.length → Mv [j] w o w' o' → Calls Tryd.prog 68 #[.int .i64 (k : Int)] w' fun r w'' => r = .returned (.bool (keep k)) ∧ w'' = w') (hp : D.pend.length ≤ 2000) (hgl : D.good.length ≤ 400) :
    Calls Tryd.prog 39 #[ptr b, .func (.func 68) #[] #[]] w fun r w' => r = .returned (.tuple #[]) ∧ ∃ o', DIs w' o' j b (D.settled keep) ∧ Mv [j] w o w' o' := by
  have HC : Hid (∀ (k : Nat) (w' : World) (o' : Nat → Nat), k < D.pend.length → Mv [j] w o w' o' → Calls Tryd.prog 68 #[.int .i64 (k : Int)] w' fun r w'' => r = .returned (.bool (keep k)) ∧ w'' = w') := hC
  have HAt : Hid (∀ q ∈ D.pend, q.1 < D.good.length) := hat
  have HI0 : Hid (∃ o', DAt w o' j b gv nv pv (D.part keep 0) ∧ Mv [j] w o w o') := ⟨o, by rw [part_zero]; exact h, Mv.refl _ _ _⟩
  have c2 := h.c2
  obtain ⟨av, cv, hvv, hcv⟩ := slice_of_own h.p
  subst hvv
  clear h hC hat
  obtain ⟨NP, hNP⟩ : ∃ NP, NP = D.pend.length := ⟨_, rfl⟩
  have HNP : Hid (NP = D.pend.length) := hNP
  rw [← hNP] at c2 hcv hp
  clear hNP
  go_enter Tryd.func39, Tryd.ntmps39
  go_wp2
  go_loopw [11] (fun i wr => ∃ k : Nat, i = .int .i64 k ∧ k ≤ NP ∧ Hid (∃ o', DAt wr o' j b gv nv (.slice av D.pend.length cv) (D.part keep k) ∧ Mv [j] w o wr o')) (fun i _ => NP - (intOf i).toNat)
  case atStart => exact ⟨0, rfl, by omega, HI0⟩
  case round =>
    obtain ⟨k, rfl, hk, HI⟩ := hrel
    obtain ⟨o', d, m⟩ := HI.out
    by_cases hkl : k < NP
    · have hkl2 : k < D.pend.length := by rw [← HNP.out]; exact hkl
      obtain ⟨q, hq⟩ : ∃ q, D.pend[k]? = some q := ⟨_, List.getElem?_eq_getElem hkl2⟩
      have hqg : q.1 < (D.part keep k).good.length := by
        have := HAt.out q (List.mem_of_getElem? hq)
        unfold Dk.part
        rw [settle_len]
        exact this
      obtain ⟨gp, cp, hvv, hcp, hcp2, hgpw⟩ := own_of_slice d.p (by show 0 < D.pend.length; omega)
      obtain ⟨rfl, rfl⟩ : av = some ⟨gp, 0, none⟩ ∧ cv = cp := by
        injection hvv with e1 _ e3
        exact ⟨e1, e3⟩
      obtain ⟨gg, cg, hvv2, hcg, hcg2, hggw⟩ := own_of_slice d.g (by omega)
      have HRng : Hid (wr.rangeAt gp (k * 66) (wc q)) := row_range wc_len d.p hq
      obtain ⟨w1, hw1⟩ : ∃ w1, w1 = wr.alloc (.cells (wc zw).toArray 79) := ⟨_, rfl⟩
      have B1 : Blk w1 wr.heap.size 79 (wc zw) := by rw [hw1]; exact blk_new wr _ 79
      obtain ⟨w2, hw2⟩ : ∃ w2, w2 = w1.setCells wr.heap.size 0 (wc q) := ⟨_, rfl⟩
      have B2 : Blk w2 wr.heap.size 79 (wc q) := by
        have := B1.setCells 0 (wc q) (by rw [wc_len, wc_len]; omega)
        rw [splice_all _ _ (by rw [wc_len, wc_len]), ← hw2] at this
        exact this
      have HT : Hid (w1.there wr.heap.size 0 66) := B1.there 0 66 (by rw [wc_len]; omega)
      have hb2 : Below wr.heap.size wr w2 := by
        rw [hw2]
        exact bgrown (by rw [hw1]; exact balloc (Below.refl _ _) _) (Nat.le_refl _) (grown_setCells _ _ _ _)
      have d2 := d.below hb2
      have m2 : Mv [j] w o w2 (newTo o' wr 0) := m.trans (Mv.of_below 0 hb2)
      have HCk := HC.out k w2 _ hkl2 m2
      have hps := part_step (keep := keep) hq
      have HW1 : Hid (w1 = wr.alloc (.cells (wc zw).toArray 79)) := hw1
      have HW2 : Hid (w2 = w1.setCells wr.heap.size 0 (wc q)) := hw2
      have hkl3 : (k : Int) < (NP : Int) := by omega
      have hNPeq := HNP.out
      have hcp3 : NP ≤ cv := by omega
      cases hkk : keep k
      · rw [hkk] at HCk
        have HCK : Hid (Calls Tryd.prog 68 #[.int .i64 (k : Int)] w2 fun r w'' => r = .returned (.bool false) ∧ w'' = w2) := HCk
        have HEnd : Hid (∃ o', DAt w2 o' j b gv nv (.slice (some ⟨gp, 0, none⟩) D.pend.length cv) (D.part keep (k + 1)) ∧ Mv [j] w o w2 o') := ⟨_, by rw [hps, hkk]; exact d2, m2⟩
        clear hw1 hw2 B1 B2 hb2 d d2 m m2 HCk hps hq hqg hvv hkk HI HI0 hcp hvv2 hNPeq hkl2
        go_wp2_with (first
          | (go_at_call 68; go_must (refine HCK.out.mono ?_; rintro r w3 ⟨rfl, hw3⟩; replace hw3 := hw3.symm; subst hw3))
          | (refine wpList_ok rfl (exec_load65 (q := q) (.tmp 14) rfl rfl HRng.out) ?_)
          | (refine wpList_ok rfl (exec_alloc65 rfl) ?_; rw [← HW1.out])
          | (refine wpList_skip rfl (exec_store65 (q := q) (.tmp 5) (.tmp 15) rfl rfl rfl HT.out) ?_; rw [← HW2.out]))
        go_roundw
        case rel => exact ⟨k + 1, by go_num, by omega, HEnd⟩
        case measure => simp [intOf]; omega
      · rw [hkk] at HCk
        have HCK : Hid (Calls Tryd.prog 68 #[.int .i64 (k : Int)] w2 fun r w'' => r = .returned (.bool true) ∧ w'' = w2) := HCk
        subst hvv2
        have d3 := (d2.mv (mv_drewn (I := []) w2 _) (by simp)).setGood hqg q.2
        obtain ⟨w3, hw3⟩ : ∃ w3, w3 = w2.drew.setCells gg (q.1 * 65) (kc q.2) := ⟨_, rfl⟩
        rw [← hw3] at d3
        have HT3 : Hid (w2.drew.there gg (q.1 * 65) 65) := row_there (w := w2.drew) kc_len (show w2.drew.ownsRow 0 76 65 _ _ _ from d2.g) hqg
        have HEnd : Hid (∃ o', DAt w3 o' j b (.slice (some ⟨gg, 0, none⟩) (D.part keep k).good.length cg) nv (.slice (some ⟨gp, 0, none⟩) D.pend.length cv) (D.part keep (k + 1)) ∧ Mv [j] w o w3 o') := ⟨_, by rw [hps, hkk]; exact d3.1, m2.trans (mv_undrew d3.2)⟩
        have c0 := fun z : WIn (Same2 w2 b wr.heap.size) => (d2.blk.block z.ok.b).cell 0 _ rfl
        have x0 := fun z : WIn (Same2 w2 b wr.heap.size) => (B2.block z.ok.c).cell 0 _ rfl
        have R2 : Hid (∀ z : WIn (Same2 w2 b wr.heap.size), z.w.rangeAt wr.heap.size 1 (kc q.2)) := fun z => (B2.block z.ok.c).range 1 (fun i u hu => by rw [Nat.add_comm]; exact hu)
        have HW3 : Hid (w3 = w2.drew.setCells gg (q.1 * 65) (kc q.2)) := hw3
        have hqg2 : (q.1 : Int) < ((D.part keep k).good.length : Int) := by omega
        clear hw1 hw2 hw3 B1 B2 hb2 d d2 d3 m m2 HCk hps hq hvv hkk HI HI0 hcp hNPeq hkl2
        generalize (D.part keep k).good.length = NG at *
        go_upto_region 4 with (first
          | (go_at_call 68; go_must (refine HCK.out.mono ?_; rintro r w3' ⟨rfl, hw3'⟩; replace hw3' := hw3'.symm; subst hw3'))
          | (refine wpList_ok rfl (exec_load65 (q := q) (.tmp 14) rfl rfl HRng.out) ?_)
          | (refine wpList_ok rfl (exec_alloc65 rfl) ?_; rw [← HW1.out])
          | (refine wpList_skip rfl (exec_store65 (q := q) (.tmp 5) (.tmp 15) rfl rfl rfl HT.out) ?_; rw [← HW2.out]))
        have ne : Nonempty (WIn (Same2 w2 b wr.heap.size)) := ⟨⟨w2, Same2.refl _ _ _⟩⟩
        refine wp_region_treeZ (C := fun w' => ∃ z : WIn (Same2 w2 b wr.heap.size), w' = z.w) 9 (.still 0 (.still 1 (.still 2 (.still 3 (.still 4 (.still 5 (.still 6 (.still 7 (.still 8 .done))))))))) rfl (by kernel_rfl) (by kernel_rfl) ⟨⟨w2.drew, ⟨rfl, rfl⟩⟩, rfl⟩ ?_
        generalize w2.drew = wd at *
        iterate 7 (refine tree_still rfl rfl ?_; go_big_quiet_step (fail); refine wpQuiet_nil ?_)
        refine tree_still rfl rfl ?_
        refine quiet_ok rfl (fun w' hw' => by obtain ⟨z, rfl⟩ := hw'; exact exec_load62 (s := q.2) (.tmp 25) rfl rfl (R2.out z)) ?_
        go_simp
        refine tree_still rfl rfl ?_
        go_big_quiet_step (fail)
        refine wpQuiet_nil ?_
        refine tree_done ?_
        refine ⟨rfl, ?_⟩
        refine wp_skip (exec_store62 (s := q.2) (.tmp 27) (.tmp 26) rfl rfl rfl HT3.out) ?_
        rw [← HW3.out]
        clear c0 x0 ne R2 HT3 HW3
        go_simp
        go_wp2
        go_roundw
        case rel => exact ⟨k + 1, by go_num, by omega, HEnd⟩
        case measure => simp [intOf]; omega
    · obtain rfl : k = NP := by omega
      have d3 := d.noPend
      have HEnd : Hid (∃ o', DIs (wr.setCell ⟨b, 2, none⟩ (.slice none 0 0)) o' j b (D.settled keep) ∧ Mv [j] w o (wr.setCell ⟨b, 2, none⟩ (.slice none 0 0)) o') := ⟨_, ⟨_, _, _, by rw [← part_end, ← HNP.out]; exact d3.1⟩, m.trans d3.2⟩
      have e2 := d.c2
      have f2 := d.blk.frozen 2
      clear d3 d m HI HI0
      go_wp2
      refine bodyPost_end (results_none rfl _ _ _) rfl ⟨rfl, HEnd.out⟩

set_option maxHeartbeats 4000000 in
theorem settle_kept {kv : Value} (h : DAt w o j b gv nv pv D) (hat : ∀ q ∈ D.pend, q.1 < D.good.length) {keep : Nat → Bool}
    (hC : ∀ (k : Nat) (w' : World) (o' : Nat → Nat), k < D.pend.length → Mv [j] w o w' o' → Calls Tryd.prog 40 #[kv, .int .i64 (k : Int)] w' fun r w'' => r = .returned (.bool (keep k)) ∧ w'' = w') (hp : D.pend.length ≤ 2000) (hgl : D.good.length ≤ 400) :
    Calls Tryd.prog 39 #[ptr b, .func (.func 40) #[kv] #[]] w fun r w' => r = .returned (.tuple #[]) ∧ ∃ o', DIs w' o' j b (D.settled keep) ∧ Mv [j] w o w' o' := by
  have HC : Hid (∀ (k : Nat) (w' : World) (o' : Nat → Nat), k < D.pend.length → Mv [j] w o w' o' → Calls Tryd.prog 40 #[kv, .int .i64 (k : Int)] w' fun r w'' => r = .returned (.bool (keep k)) ∧ w'' = w') := hC
  have HAt : Hid (∀ q ∈ D.pend, q.1 < D.good.length) := hat
  have HI0 : Hid (∃ o', DAt w o' j b gv nv pv (D.part keep 0) ∧ Mv [j] w o w o') := ⟨o, by rw [part_zero]; exact h, Mv.refl _ _ _⟩
  have c2 := h.c2
  obtain ⟨av, cv, hvv, hcv⟩ := slice_of_own h.p
  subst hvv
  clear h hC hat
  obtain ⟨NP, hNP⟩ : ∃ NP, NP = D.pend.length := ⟨_, rfl⟩
  have HNP : Hid (NP = D.pend.length) := hNP
  rw [← hNP] at c2 hcv hp
  clear hNP
  go_enter Tryd.func39, Tryd.ntmps39
  go_wp2
  go_loopw [11] (fun i wr => ∃ k : Nat, i = .int .i64 k ∧ k ≤ NP ∧ Hid (∃ o', DAt wr o' j b gv nv (.slice av D.pend.length cv) (D.part keep k) ∧ Mv [j] w o wr o')) (fun i _ => NP - (intOf i).toNat)
  case atStart => exact ⟨0, rfl, by omega, HI0⟩
  case round =>
    obtain ⟨k, rfl, hk, HI⟩ := hrel
    obtain ⟨o', d, m⟩ := HI.out
    by_cases hkl : k < NP
    · have hkl2 : k < D.pend.length := by rw [← HNP.out]; exact hkl
      obtain ⟨q, hq⟩ : ∃ q, D.pend[k]? = some q := ⟨_, List.getElem?_eq_getElem hkl2⟩
      have hqg : q.1 < (D.part keep k).good.length := by
        have := HAt.out q (List.mem_of_getElem? hq)
        unfold Dk.part
        rw [settle_len]
        exact this
      obtain ⟨gp, cp, hvv, hcp, hcp2, hgpw⟩ := own_of_slice d.p (by show 0 < D.pend.length; omega)
      obtain ⟨rfl, rfl⟩ : av = some ⟨gp, 0, none⟩ ∧ cv = cp := by
        injection hvv with e1 _ e3
        exact ⟨e1, e3⟩
      obtain ⟨gg, cg, hvv2, hcg, hcg2, hggw⟩ := own_of_slice d.g (by omega)
      have HRng : Hid (wr.rangeAt gp (k * 66) (wc q)) := row_range wc_len d.p hq
      obtain ⟨w1, hw1⟩ : ∃ w1, w1 = wr.alloc (.cells (wc zw).toArray 79) := ⟨_, rfl⟩
      have B1 : Blk w1 wr.heap.size 79 (wc zw) := by rw [hw1]; exact blk_new wr _ 79
      obtain ⟨w2, hw2⟩ : ∃ w2, w2 = w1.setCells wr.heap.size 0 (wc q) := ⟨_, rfl⟩
      have B2 : Blk w2 wr.heap.size 79 (wc q) := by
        have := B1.setCells 0 (wc q) (by rw [wc_len, wc_len]; omega)
        rw [splice_all _ _ (by rw [wc_len, wc_len]), ← hw2] at this
        exact this
      have HT : Hid (w1.there wr.heap.size 0 66) := B1.there 0 66 (by rw [wc_len]; omega)
      have hb2 : Below wr.heap.size wr w2 := by
        rw [hw2]
        exact bgrown (by rw [hw1]; exact balloc (Below.refl _ _) _) (Nat.le_refl _) (grown_setCells _ _ _ _)
      have d2 := d.below hb2
      have m2 : Mv [j] w o w2 (newTo o' wr 0) := m.trans (Mv.of_below 0 hb2)
      have HCk := HC.out k w2 _ hkl2 m2
      have hps := part_step (keep := keep) hq
      have HW1 : Hid (w1 = wr.alloc (.cells (wc zw).toArray 79)) := hw1
      have HW2 : Hid (w2 = w1.setCells wr.heap.size 0 (wc q)) := hw2
      have hkl3 : (k : Int) < (NP : Int) := by omega
      have hNPeq := HNP.out
      have hcp3 : NP ≤ cv := by omega
      cases hkk : keep k
      · rw [hkk] at HCk
        have HCK : Hid (Calls Tryd.prog 40 #[kv, .int .i64 (k : Int)] w2 fun r w'' => r = .returned (.bool false) ∧ w'' = w2) := HCk
        have HEnd : Hid (∃ o', DAt w2 o' j b gv nv (.slice (some ⟨gp, 0, none⟩) D.pend.length cv) (D.part keep (k + 1)) ∧ Mv [j] w o w2 o') := ⟨_, by rw [hps, hkk]; exact d2, m2⟩
        clear hw1 hw2 B1 B2 hb2 d d2 m m2 HCk hps hq hqg hvv hkk HI HI0 hcp hvv2 hNPeq hkl2
        go_wp2_with (first
          | (go_at_call 40; go_must (refine HCK.out.mono ?_; rintro r w3 ⟨rfl, hw3⟩; replace hw3 := hw3.symm; subst hw3))
          | (refine wpList_ok rfl (exec_load65 (q := q) (.tmp 14) rfl rfl HRng.out) ?_)
          | (refine wpList_ok rfl (exec_alloc65 rfl) ?_; rw [← HW1.out])
          | (refine wpList_skip rfl (exec_store65 (q := q) (.tmp 5) (.tmp 15) rfl rfl rfl HT.out) ?_; rw [← HW2.out]))
        go_roundw
        case rel => exact ⟨k + 1, by go_num, by omega, HEnd⟩
        case measure => simp [intOf]; omega
      · rw [hkk] at HCk
        have HCK : Hid (Calls Tryd.prog 40 #[kv, .int .i64 (k : Int)] w2 fun r w'' => r = .returned (.bool true) ∧ w'' = w2) := HCk
        subst hvv2
        have d3 := (d2.mv (mv_drewn (I := []) w2 _) (by simp)).setGood hqg q.2
        obtain ⟨w3, hw3⟩ : ∃ w3, w3 = w2.drew.setCells gg (q.1 * 65) (kc q.2) := ⟨_, rfl⟩
        rw [← hw3] at d3
        have HT3 : Hid (w2.drew.there gg (q.1 * 65) 65) := row_there (w := w2.drew) kc_len (show w2.drew.ownsRow 0 76 65 _ _ _ from d2.g) hqg
        have HEnd : Hid (∃ o', DAt w3 o' j b (.slice (some ⟨gg, 0, none⟩) (D.part keep k).good.length cg) nv (.slice (some ⟨gp, 0, none⟩) D.pend.length cv) (D.part keep (k + 1)) ∧ Mv [j] w o w3 o') := ⟨_, by rw [hps, hkk]; exact d3.1, m2.trans (mv_undrew d3.2)⟩
        have c0 := fun z : WIn (Same2 w2 b wr.heap.size) => (d2.blk.block z.ok.b).cell 0 _ rfl
        have x0 := fun z : WIn (Same2 w2 b wr.heap.size) => (B2.block z.ok.c).cell 0 _ rfl
        have R2 : Hid (∀ z : WIn (Same2 w2 b wr.heap.size), z.w.rangeAt wr.heap.size 1 (kc q.2)) := fun z => (B2.block z.ok.c).range 1 (fun i u hu => by rw [Nat.add_comm]; exact hu)
        have HW3 : Hid (w3 = w2.drew.setCells gg (q.1 * 65) (kc q.2)) := hw3
        have hqg2 : (q.1 : Int) < ((D.part keep k).good.length : Int) := by omega
        clear hw1 hw2 hw3 B1 B2 hb2 d d2 d3 m m2 HCk hps hq hvv hkk HI HI0 hcp hNPeq hkl2
        generalize (D.part keep k).good.length = NG at *
        go_upto_region 4 with (first
          | (go_at_call 40; go_must (refine HCK.out.mono ?_; rintro r w3' ⟨rfl, hw3'⟩; replace hw3' := hw3'.symm; subst hw3'))
          | (refine wpList_ok rfl (exec_load65 (q := q) (.tmp 14) rfl rfl HRng.out) ?_)
          | (refine wpList_ok rfl (exec_alloc65 rfl) ?_; rw [← HW1.out])
          | (refine wpList_skip rfl (exec_store65 (q := q) (.tmp 5) (.tmp 15) rfl rfl rfl HT.out) ?_; rw [← HW2.out]))
        have ne : Nonempty (WIn (Same2 w2 b wr.heap.size)) := ⟨⟨w2, Same2.refl _ _ _⟩⟩
        refine wp_region_treeZ (C := fun w' => ∃ z : WIn (Same2 w2 b wr.heap.size), w' = z.w) 9 (.still 0 (.still 1 (.still 2 (.still 3 (.still 4 (.still 5 (.still 6 (.still 7 (.still 8 .done))))))))) rfl (by kernel_rfl) (by kernel_rfl) ⟨⟨w2.drew, ⟨rfl, rfl⟩⟩, rfl⟩ ?_
        generalize w2.drew = wd at *
        iterate 7 (refine tree_still rfl rfl ?_; go_big_quiet_step (fail); refine wpQuiet_nil ?_)
        refine tree_still rfl rfl ?_
        refine quiet_ok rfl (fun w' hw' => by obtain ⟨z, rfl⟩ := hw'; exact exec_load62 (s := q.2) (.tmp 25) rfl rfl (R2.out z)) ?_
        go_simp
        refine tree_still rfl rfl ?_
        go_big_quiet_step (fail)
        refine wpQuiet_nil ?_
        refine tree_done ?_
        refine ⟨rfl, ?_⟩
        refine wp_skip (exec_store62 (s := q.2) (.tmp 27) (.tmp 26) rfl rfl rfl HT3.out) ?_
        rw [← HW3.out]
        clear c0 x0 ne R2 HT3 HW3
        go_simp
        go_wp2
        go_roundw
        case rel => exact ⟨k + 1, by go_num, by omega, HEnd⟩
        case measure => simp [intOf]; omega
    · obtain rfl : k = NP := by omega
      have d3 := d.noPend
      have HEnd : Hid (∃ o', DIs (wr.setCell ⟨b, 2, none⟩ (.slice none 0 0)) o' j b (D.settled keep) ∧ Mv [j] w o (wr.setCell ⟨b, 2, none⟩ (.slice none 0 0)) o') := ⟨_, ⟨_, _, _, by rw [← part_end, ← HNP.out]; exact d3.1⟩, m.trans d3.2⟩
      have e2 := d.c2
      have f2 := d.blk.frozen 2
      clear d3 d m HI HI0
      go_wp2
      refine bodyPost_end (results_none rfl _ _ _) rfl ⟨rfl, HEnd.out⟩
end
end Go.Proofs.YtkcighejmjgalaaDoor
