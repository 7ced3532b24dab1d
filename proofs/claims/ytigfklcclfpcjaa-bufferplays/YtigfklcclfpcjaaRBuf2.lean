/-
  The reference's Hold.
-/
import Derived.Test.YtigfklcclfpcjaaRBuf1
import Derived.Test.YtigfklcclfpcjaaSameE
namespace Go.Proofs.Ytigfklcclfpcjaa
set_option linter.unusedVariables false
set_option linter.unusedSimpArgs false
set_option synthInstance.maxSize 20000
set_option maxHeartbeats 400000
set_option maxRecDepth 20000
open Go.RowKit Go.Maps

/-- The first k of a row. -/
theorem RowE.take {w : World} {a : Option Addr} {n cap : Nat} {ps : List (Ent × Value)} (h : RowE w (.slice a n cap) ps) {k : Nat} (hk : k ≤ ps.length) : RowE w (.slice a k cap) (ps.take k) := by
  obtain ⟨a', cap', e, h1, h2, h3, h4⟩ := h
  simp only [Value.slice.injEq] at e
  obtain ⟨rfl, rfl, rfl⟩ := e
  have hl : (ps.take k).length = k := by rw [List.length_take]; omega
  refine ⟨a, cap, by rw [hl], by omega, h2, h3, fun hp => ?_⟩
  obtain ⟨b, off, rfl, hc⟩ := h4 (by omega)
  refine ⟨b, off, rfl, fun j u hj => hc j u ?_⟩
  rw [← flatE_take] at hj
  rw [List.getElem?_take] at hj
  split at hj
  · exact hj
  · cases hj
/-- A row without its first k. -/
theorem RowE.drop {w : World} {a : Option Addr} {n cap : Nat} {ps : List (Ent × Value)} (h : RowE w (.slice a n cap) ps) {k : Nat} (hk : k ≤ ps.length) (hne : ¬ cap = k) : RowE w (.slice (Option.map (fun x => x.add (k * 8)) a) (n - k) (cap - k)) (ps.drop k) := by
  obtain ⟨a', cap', e, h1, h2, h3, h4⟩ := h
  simp only [Value.slice.injEq] at e
  obtain ⟨rfl, rfl, rfl⟩ := e
  have hl : (ps.drop k).length = ps.length - k := by rw [List.length_drop]
  refine ⟨_, cap - k, by rw [hl], by omega, by omega, fun e => ?_, fun hp => ?_⟩
  · cases a with
    | none => have := h3 rfl; omega
    | some a => cases e
  · obtain ⟨b, off, rfl, hc⟩ := h4 (by omega)
    refine ⟨b, off + k * 8, by rw [Option.map_some, Addr.add_lit], fun j u hj => ?_⟩
    rw [← flatE_drop, List.getElem?_drop] at hj
    have := hc _ _ hj
    rw [Nat.add_assoc]
    exact this
theorem RowE.drop0 {w : World} {a : Option Addr} {n : Nat} {ps : List (Ent × Value)} {k : Nat} (h : RowE w (.slice a n k) ps) (hk : k ≤ ps.length) : RowE w (.slice a (n - k) 0) (ps.drop k) := by
  obtain ⟨a', cap', e, h1, h2, h3, h4⟩ := h
  simp only [Value.slice.injEq] at e
  obtain ⟨rfl, rfl, rfl⟩ := e
  have hd : ps.drop k = [] := List.drop_of_length_le (by omega)
  rw [hd]
  exact ⟨a, 0, by simp; omega, Nat.le_refl _, Nat.zero_le _, fun _ => rfl, fun h => by simp at h⟩

/-- Where one stands. -/
theorem ins_at {M : List Ent} {e : Ent} {k : Nat} (hk : k ≤ M.length) (hb : ∀ m f, m < k → M[m]? = some f → keyB f e = true) (hn : ∀ f, M[k]? = some f → keyB f e = false) : insM e M = M.take k ++ e :: M.drop k := by
  induction M generalizing k with
  | nil => simp at hk; subst hk; rfl
  | cons f M ih =>
    cases k with
    | zero =>
      unfold insM
      rw [hn f rfl]
      rfl
    | succ k =>
      unfold insM
      rw [hb 0 f (by omega) rfl, if_pos rfl, ih (by simpa using hk) (fun m g hm hg => hb (m + 1) g (by omega) (by simpa using hg)) (fun g hg => hn g (by simpa using hg))]
      rfl

theorem rhold_bad {w : World} {b : Nat} {e : Ent} {x : Value} (hx : Rd w x e.b) (hr : rightB e = false) : Calls Try.prog 11 #[ptr b, ev e x] w fun r w' => r = .returned (.int .i64 1) ∧ Below w.heap.size w w' := by
  have RT := fun w' (h : Rd w' x e.b) => refrightE_any e x w' h
  rw [hr] at RT
  have HX : Hid (Rd w x e.b) := hx
  obtain ⟨ax, cx, hxx⟩ := hx.len
  subst hxx
  obtain ⟨ew, ei, ep, et, eu, en, eb, eg⟩ := e
  unfold ev at *
  dsimp only at *
  have HRT : Hid (_) := RT
  clear RT hx hr
  go_enter Try.func11, Try.ntmps11
  go_wp2_with (go_at_call 30; go_must (refine (HRT.out _ (HX.out.below (balloc (Below.refl _ _) _))).mono ?_; rintro r w2 ⟨rfl, hb2⟩))
  go_ret
  exact ⟨rfl, bnext (balloc (Below.refl _ _) _) hb2⟩

theorem rhold_met {w : World} {o : Nat → Nat} {j b : Nat} {most : Int} {v : Value} {ps : List (Ent × Value)} {M : List Ent} {e f : Ent} {x : Value} (h : RBufAt w o j b most v ps M) (hs : Srt M) (hx : Rd w x e.b) (hr : rightB e = true) (hf : findM M e.w e.i = some f) :
    Calls Try.prog 11 #[ptr b, ev e x] w fun r w' => r = .returned (.int .i64 (if sameB f e = true then 8 else 9)) ∧ Below w.heap.size w w' := by
  have RT := fun w' (h : Rd w' x e.b) => refrightE_any e x w' h
  rw [hr] at RT
  obtain ⟨k, y, hk, hbf⟩ := h.some hs hf
  have hat : atB e.w e.i (f, y).1 = true := (atB_iff _ _ _).2 (findM_some hf).2
  have FD := fun (w' : World) (hb : Below w.heap.size w w') => rfind_hit (h.below hb).blk (h.below hb).out.rowE e.w e.i hk hat hbf
  have hY := (h.out.ents _ (List.mem_of_getElem? hk)).2.1
  have SM := fun w' (h : Rd w' y f.b) (h' : Rd w' x e.b) => refsameE_any w' f e y x h h'
  have hkl : k < ps.length := (List.getElem?_eq_some_iff.1 hk).1
  have HRw : Hid (∀ w', Below w.heap.size w w' → Blk w' b 32 [.int .i64 most, v] ∧ RowE w' v ps) := fun w' hb => ⟨(h.below hb).blk, (h.below hb).out.rowE⟩
  have HKq : Hid (ps[k]? = some (f, y)) := hk
  obtain ⟨av, cv, hvv⟩ := h.out.rowE.len
  have hcv := h.out.rowE
  rw [hvv] at hcv
  have hcap := hcv.cap.2
  subst hvv
  generalize sameB f e = sb at *
  have HX : Hid (Rd w x e.b) := hx
  have HY : Hid (Rd w y f.b) := hY
  dsimp only at hY HY
  obtain ⟨ax, cx, hxx⟩ := hx.len
  subst hxx
  obtain ⟨ay, cy, hyy⟩ := hY.len
  subst hyy
  obtain ⟨ew, ei, ep, et, eu, en, eb, eg⟩ := e
  obtain ⟨fw, fi, fp, ft, fu, fn, fb, fg⟩ := f
  unfold ev at *
  dsimp only at *
  have HRT : Hid (_) := RT
  have HFD : Hid (_) := FD
  have HSM : Hid (_) := SM
  obtain ⟨w1, hw1⟩ : ∃ w1, w1 = w.alloc (.cells #[.int .i64 ew, .int .i64 ei, .int .u64 ep, .int .i64 et, .int .i64 eu, .int .i64 en, .slice ax eb.length cx, .int .u64 eg] 38) := ⟨_, rfl⟩
  have HB1 : Hid (Below w.heap.size w w1) := by show Below _ _ _; rw [hw1]; exact balloc (Below.refl _ _) _
  have HX1 : Hid (Blk w1 w.heap.size 38 [.int .i64 ew, .int .i64 ei, .int .u64 ep, .int .i64 et, .int .i64 eu, .int .i64 en, .slice ax eb.length cx, .int .u64 eg]) := by show Blk _ _ _ _; rw [hw1]; exact blk_new w _ 38
  clear RT FD SM hx hr h hf hbf hat hY hk hcv
  go_enter Try.func11, Try.ntmps11
  go_upto_region 1 with fail
  rw [← hw1]
  obtain ⟨n, hn⟩ : ∃ n, n = w.heap.size := ⟨_, rfl⟩
  rw [← hn] at HX1 ⊢
  clear hw1 hn
  have c0 := HX1.out.cell 0 _ rfl; have c1 := HX1.out.cell 1 _ rfl; have c2 := HX1.out.cell 2 _ rfl; have c3 := HX1.out.cell 3 _ rfl; have c4 := HX1.out.cell 4 _ rfl; have c5 := HX1.out.cell 5 _ rfl; have c6 := HX1.out.cell 6 _ rfl; have c7 := HX1.out.cell 7 _ rfl
  go_upto_region 5 with (first
    | (go_at_call 30; go_must (refine (HRT.out w1 (HX.out.below HB1.out)).mono ?_; rintro r w2 ⟨rfl, hb2⟩; have HB2 : Hid (Below w.heap.size w w2) := bnext HB1.out hb2; have HX2 : Hid (Blk w2 n 38 [.int .i64 ew, .int .i64 ei, .int .u64 ep, .int .i64 et, .int .i64 eu, .int .i64 en, .slice ax eb.length cx, .int .u64 eg]) := HX1.out.below hb2; have d0 := HX2.out.cell 0 _ rfl; have d1 := HX2.out.cell 1 _ rfl; have d2 := HX2.out.cell 2 _ rfl; have d3 := HX2.out.cell 3 _ rfl; have d4 := HX2.out.cell 4 _ rfl; have d5 := HX2.out.cell 5 _ rfl; have d6 := HX2.out.cell 6 _ rfl; have d7 := HX2.out.cell 7 _ rfl; clear hb2))
    | (go_at_call 31; go_must (refine (HFD.out w2 HB2.out).mono ?_; rintro r w3 ⟨rfl, hw3⟩; replace hw3 := hw3.symm; subst hw3)))
  clear c0 c1 c2 c3 c4 c5 c6 c7 d0 d1 d2 d3 d4 d5 d6 d7
  obtain ⟨g, off, ea, _⟩ := (HRw.out w2 HB2.out).2.at HKq.out
  subst ea
  have HC : Hid (∀ w', Below w2.heap.size w2 w' → ∀ k' u, [.int .i64 fw, .int .i64 fi, .int .u64 fp, .int .i64 ft, .int .i64 fu, .int .i64 fn, .slice ay fb.length cy, .int .u64 fg][k']? = some u → w'.cell? ⟨g, off + k * 8 + k', none⟩ = some u) := fun w' hb' k' u hu => by
    obtain ⟨g', off', ea', hc⟩ := (HRw.out w' (bnext HB2.out hb')).2.at HKq.out
    cases ea'
    exact hc k' u hu
  have d0 := fun z : WIn (fun w' => Below w2.heap.size w2 w') => HC.out z.w z.ok 0 _ rfl
  have d1 := fun z : WIn (fun w' => Below w2.heap.size w2 w') => HC.out z.w z.ok 1 _ rfl
  have d2 := fun z : WIn (fun w' => Below w2.heap.size w2 w') => HC.out z.w z.ok 2 _ rfl
  have d3 := fun z : WIn (fun w' => Below w2.heap.size w2 w') => HC.out z.w z.ok 3 _ rfl
  have d4 := fun z : WIn (fun w' => Below w2.heap.size w2 w') => HC.out z.w z.ok 4 _ rfl
  have d5 := fun z : WIn (fun w' => Below w2.heap.size w2 w') => HC.out z.w z.ok 5 _ rfl
  have d6 := fun z : WIn (fun w' => Below w2.heap.size w2 w') => HC.out z.w z.ok 6 _ rfl
  have d7 := fun z : WIn (fun w' => Below w2.heap.size w2 w') => HC.out z.w z.ok 7 _ rfl
  simp only [Nat.add_zero] at d0
  have c0 := fun z : WIn (fun w' => Below w2.heap.size w2 w') => (HX2.out.below z.ok).cell 0 _ rfl
  have c1 := fun z : WIn (fun w' => Below w2.heap.size w2 w') => (HX2.out.below z.ok).cell 1 _ rfl
  have c2 := fun z : WIn (fun w' => Below w2.heap.size w2 w') => (HX2.out.below z.ok).cell 2 _ rfl
  have c3 := fun z : WIn (fun w' => Below w2.heap.size w2 w') => (HX2.out.below z.ok).cell 3 _ rfl
  have c4 := fun z : WIn (fun w' => Below w2.heap.size w2 w') => (HX2.out.below z.ok).cell 4 _ rfl
  have c5 := fun z : WIn (fun w' => Below w2.heap.size w2 w') => (HX2.out.below z.ok).cell 5 _ rfl
  have c6 := fun z : WIn (fun w' => Below w2.heap.size w2 w') => (HX2.out.below z.ok).cell 6 _ rfl
  have c7 := fun z : WIn (fun w' => Below w2.heap.size w2 w') => (HX2.out.below z.ok).cell 7 _ rfl
  have l1 := fun z : WIn (fun w' => Below w2.heap.size w2 w') => (HRw.out z.w (bnext HB2.out z.ok)).1.cell 1 _ rfl
  have ne : Nonempty (WIn (fun w' => Below w2.heap.size w2 w')) := ⟨⟨w2, Below.refl _ _⟩⟩
  refine wp_region_ord (C := fun w' => ∃ z : WIn (fun w' => Below w2.heap.size w2 w'), w' = z.w) [(false, 0), (false, 1), (false, 2), (false, 3), (false, 4), (false, 5), (false, 6), (false, 7), (true, 8)] (by kernel_rfl) (by kernel_rfl) ⟨⟨w2.drew, (Below.refl _ _).drew⟩, rfl⟩ ?_
  iterate 8 (refine ord_still rfl rfl ?_; go_big_quiet_step (fail); refine wpQuiet_nil ?_)
  refine ord_mem rfl rfl ?_
  go_simp
  refine (HSM.out w2.drew (HY.out.below HB2.out).drew (HX.out.below HB2.out).drew).mono ?_
  rintro r w4 ⟨rfl, hb4⟩
  have HB4 : Hid (Below w2.heap.size w2 w4) := below_undrew hb4
  clear hb4
  refine ⟨⟨⟨w4, HB4.out⟩, rfl⟩, ?_⟩
  refine ord_end ?_
  clear c0 c1 c2 c3 c4 c5 c6 c7 d0 d1 d2 d3 d4 d5 d6 d7 l1 ne
  cases sb
  · go_wp2
    go_ret
    exact ⟨rfl, bnext HB2.out HB4.out⟩
  · go_wp2
    go_ret
    exact ⟨rfl, bnext HB2.out HB4.out⟩

theorem rhold_full {w : World} {o : Nat → Nat} {j b : Nat} {most : Int} {v : Value} {ps : List (Ent × Value)} {M : List Ent} {e : Ent} {x : Value} (h : RBufAt w o j b most v ps M) (hx : Rd w x e.b) (hr : rightB e = true) (hf : findM M e.w e.i = none) (hl : most ≤ M.length) :
    Calls Try.prog 11 #[ptr b, ev e x] w fun r w' => r = .returned (.int .i64 3) ∧ Below w.heap.size w w' := by
  have RT := fun w' (h : Rd w' x e.b) => refrightE_any e x w' h
  rw [hr] at RT
  have FD := fun (w' : World) (hb : Below w.heap.size w w') => rfind_none (h.below hb).blk (h.below hb).out.rowE e.w e.i ((h.below hb).none hf)
  have HRw : Hid (∀ w', Below w.heap.size w w' → Blk w' b 32 [.int .i64 most, v] ∧ RowE w' v ps) := fun w' hb => ⟨(h.below hb).blk, (h.below hb).out.rowE⟩
  have hlen := h.len
  obtain ⟨av, cv, hvv⟩ := h.out.rowE.len
  rw [hlen] at hvv
  subst hvv
  have HX : Hid (Rd w x e.b) := hx
  obtain ⟨ax, cx, hxx⟩ := hx.len
  subst hxx
  obtain ⟨ew, ei, ep, et, eu, en, eb, eg⟩ := e
  unfold ev at *
  dsimp only at *
  have HRT : Hid (_) := RT
  have HFD : Hid (_) := FD
  obtain ⟨w1, hw1⟩ : ∃ w1, w1 = w.alloc (.cells #[.int .i64 ew, .int .i64 ei, .int .u64 ep, .int .i64 et, .int .i64 eu, .int .i64 en, .slice ax eb.length cx, .int .u64 eg] 38) := ⟨_, rfl⟩
  have HB1 : Hid (Below w.heap.size w w1) := by show Below _ _ _; rw [hw1]; exact balloc (Below.refl _ _) _
  have HX1 : Hid (Blk w1 w.heap.size 38 [.int .i64 ew, .int .i64 ei, .int .u64 ep, .int .i64 et, .int .i64 eu, .int .i64 en, .slice ax eb.length cx, .int .u64 eg]) := by show Blk _ _ _ _; rw [hw1]; exact blk_new w _ 38
  clear RT FD hx hr h hf hlen
  go_enter Try.func11, Try.ntmps11
  go_upto_region 1 with fail
  rw [← hw1]
  obtain ⟨n, hn⟩ : ∃ n, n = w.heap.size := ⟨_, rfl⟩
  rw [← hn] at HX1 ⊢
  clear hw1 hn
  have c0 := HX1.out.cell 0 _ rfl; have c1 := HX1.out.cell 1 _ rfl; have c2 := HX1.out.cell 2 _ rfl; have c3 := HX1.out.cell 3 _ rfl; have c4 := HX1.out.cell 4 _ rfl; have c5 := HX1.out.cell 5 _ rfl; have c6 := HX1.out.cell 6 _ rfl; have c7 := HX1.out.cell 7 _ rfl
  go_upto_region 8 with (first
    | (go_at_call 30; go_must (refine (HRT.out w1 (HX.out.below HB1.out)).mono ?_; rintro r w2 ⟨rfl, hb2⟩; have HB2 : Hid (Below w.heap.size w w2) := bnext HB1.out hb2; have HX2 : Hid (Blk w2 n 38 [.int .i64 ew, .int .i64 ei, .int .u64 ep, .int .i64 et, .int .i64 eu, .int .i64 en, .slice ax eb.length cx, .int .u64 eg]) := HX1.out.below hb2; have d0 := HX2.out.cell 0 _ rfl; have d1 := HX2.out.cell 1 _ rfl; have d2 := HX2.out.cell 2 _ rfl; have d3 := HX2.out.cell 3 _ rfl; have d4 := HX2.out.cell 4 _ rfl; have d5 := HX2.out.cell 5 _ rfl; have d6 := HX2.out.cell 6 _ rfl; have d7 := HX2.out.cell 7 _ rfl; clear hb2))
    | (go_at_call 31; go_must (refine (HFD.out w2 HB2.out).mono ?_; rintro r w3 ⟨rfl, hw3⟩; replace hw3 := hw3.symm; subst hw3)))
  clear c0 c1 c2 c3 c4 c5 c6 c7 d0 d1 d2 d3 d4 d5 d6 d7
  have l0 := fun z : WIn (fun w' => Below w2.heap.size w2 w') => (HRw.out z.w (bnext HB2.out z.ok)).1.cell 0 _ rfl
  have l1 := fun z : WIn (fun w' => Below w2.heap.size w2 w') => (HRw.out z.w (bnext HB2.out z.ok)).1.cell 1 _ rfl
  have ne : Nonempty (WIn (fun w' => Below w2.heap.size w2 w')) := ⟨⟨w2, Below.refl _ _⟩⟩
  refine wp_region_ord (C := fun w' => ∃ z : WIn (fun w' => Below w2.heap.size w2 w'), w' = z.w) [(false, 0), (false, 1), (false, 2), (false, 3), (false, 4), (false, 5), (false, 6), (false, 7), (false, 8), (false, 9)] (by kernel_rfl) (by kernel_rfl) ⟨⟨w2.drew, (Below.refl _ _).drew⟩, rfl⟩ ?_
  iterate 10 (refine ord_still rfl rfl ?_; go_big_quiet_step (fail); refine wpQuiet_nil ?_)
  refine ord_end ?_
  clear l0 l1 ne
  go_wp2
  go_ret
  exact ⟨rfl, HB2.out.drew⟩

/-- What Hold leaves of the reference's buffer. -/
theorem rput_end {w w5 w6 : World} {o : Nat → Nat} {j b : Nat} {most : Int} {v v' : Value} {ps : List (Ent × Value)} {M : List Ent} {e : Ent} {x : Value} {k : Nat} (h : RBufAt w o j b most v ps M) (hj0 : j ≠ 0) (he : EOk e) (hx : Kp0 w o x e.b) (hb : Below w.heap.size w w5)
    (hrow : w5.ownsRow 0 38 8 v' (ps.take k ++ [(e, x)] ++ ps.drop k).length (flatE (ps.take k ++ [(e, x)] ++ ps.drop k))) (hnew : ∀ i, v'.ownBlock = some i → w.heap.size ≤ i) (hi : insM e M = M.take k ++ e :: M.drop k) :
    ∃ o', RBufIs (w5.setCell ⟨b, 1, none⟩ v') o' j b most (insM e M) ∧ Mv [j] w o (w5.setCell ⟨b, 1, none⟩ v') o' := by
  have h5 := h.below hb
  have G := grown_setCell w5 b 1 v'
  have M1 : Mv [j] w5 (newTo o w 0) (w5.setCell ⟨b, 1, none⟩ v') (newTo (newTo o w 0) w5 0) := Mv.of_grown G (fun i hi _ => by cases hi; rw [h5.ob]; simp)
  have hblt := h.blk.lt
  refine ⟨_, ⟨v', ps.take k ++ [(e, x)] ++ ps.drop k, h5.blk.set 1 v', ?_, ⟨?_, fun i hi' => ⟨?_, Nat.zero_le _⟩, ?_⟩, ?_⟩, (Mv.of_below 0 hb).trans M1⟩
  · rw [newTo_old h5.blk.lt]; exact h5.ob
  · exact ownsRow_block hrow (fun i hi' => G.block i (hrow.lt i hi').2 (fun e' => by have := Option.some.inj e'; have := hnew i hi'; omega))
  · rw [newTo_old (hrow.lt i hi').2]
    exact newTo_new (hnew i hi')
  · have hE := h.out.ents.mv ((Mv.of_below (I := [j]) 0 hb).trans M1) (by simp; omega)
    have hX := hx.mv ((Mv.of_below (I := [j]) 0 hb).trans M1) (by simp; omega)
    exact ((hE.take k).append (ents_one he hX)).append (hE.drop k)
  · rw [List.map_append, List.map_append, List.map_take, List.map_drop, h.map, hi]
    simp

theorem rhold_put {w : World} {o : Nat → Nat} {j b : Nat} {most : Int} {v : Value} {ps : List (Ent × Value)} {M : List Ent} {e : Ent} {x : Value} (h : RBufAt w o j b most v ps M) (hj0 : j ≠ 0) (he : EOk e) (hx : Kp0 w o x e.b) (hr : rightB e = true) (hf : findM M e.w e.i = none) (hl : ¬ most ≤ M.length) (hfew : M.length ≤ 16) :
    Calls Try.prog 11 #[ptr b, ev e x] w fun r w' => r = .returned (.int .i64 0) ∧ ∃ o', RBufIs w' o' j b most (insM e M) ∧ Mv [j] w o w' o' := by
  have RT := fun w' (h : Rd w' x e.b) => refrightE_any e x w' h
  rw [hr] at RT
  have FD := fun (w' : World) (hb : Below w.heap.size w w') => rfind_none (h.below hb).blk (h.below hb).out.rowE e.w e.i ((h.below hb).none hf)
  have HRw : Hid (∀ w', Below w.heap.size w w' → Blk w' b 32 [.int .i64 most, v] ∧ RowE w' v ps) := fun w' hb => ⟨(h.below hb).blk, (h.below hb).out.rowE⟩
  have hlen := h.len
  have LS := fun (w' : World) (q : Ent × Value) (hq : Rd w' q.2 q.1.b) (hx : Rd w' x e.b) => rless_any w' q.1 e q.2 x hq hx
  have HEq : Hid (∀ w' q, Below w.heap.size w w' → q ∈ ps → Rd w' q.2 q.1.b) := fun w' q hb hq => ((h.below hb).out.ents q hq).2.1
  have HPE : Hid (∀ (w5 : World) (v' : Value) (k : Nat), Below w.heap.size w w5 → w5.ownsRow 0 38 8 v' (ps.take k ++ [(e, x)] ++ ps.drop k).length (flatE (ps.take k ++ [(e, x)] ++ ps.drop k)) → (∀ i, v'.ownBlock = some i → w.heap.size ≤ i) → insM e M = M.take k ++ e :: M.drop k → ∃ o', RBufIs (w5.setCell ⟨b, 1, none⟩ v') o' j b most (insM e M) ∧ Mv [j] w o (w5.setCell ⟨b, 1, none⟩ v') o') := fun w5 v' k hb h1 h2 h3 => rput_end (w6 := w5) h hj0 he hx hb h1 h2 h3
  have HMp : Hid (ps.map (·.1) = M) := h.map
  have HOne : Hid (∀ u ∈ flatE ps, u.oneCell' = true) := h.out.ents.one
  have HOx : Hid (∀ u ∈ flatE [(e, x)], u.oneCell' = true) := (ents_one he hx).one
  have HR1 : Hid (∀ w' : World, RowE (w'.alloc (.cells #[.int .i64 e.w, .int .i64 e.i, .int .u64 e.p, .int .i64 e.t, .int .i64 e.u, .int .i64 e.n, x, .int .u64 e.g] 38)) (.slice (some ⟨w'.heap.size, 0, none⟩) 1 1) [(e, x)]) := fun w' => rowE_one w' e x
  obtain ⟨av, cv, hvv⟩ := h.out.rowE.len
  have hcv := h.out.rowE
  rw [hvv] at hcv
  have hcap := hcv.cap.2
  subst hvv
  have HX : Hid (Rd w x e.b) := hx.1
  obtain ⟨ax, cx, hxx⟩ := hx.1.len
  subst hxx
  obtain ⟨ew, ei, ep, et, eu, en, eb, eg⟩ := e
  unfold ev at *
  dsimp only at *
  have HRT : Hid (_) := RT
  have HFD : Hid (_) := FD
  have HLS : Hid (_) := LS
  obtain ⟨w1, hw1⟩ : ∃ w1, w1 = w.alloc (.cells #[.int .i64 ew, .int .i64 ei, .int .u64 ep, .int .i64 et, .int .i64 eu, .int .i64 en, .slice ax eb.length cx, .int .u64 eg] 38) := ⟨_, rfl⟩
  have HB1 : Hid (Below w.heap.size w w1) := by show Below _ _ _; rw [hw1]; exact balloc (Below.refl _ _) _
  have HX1 : Hid (Blk w1 w.heap.size 38 [.int .i64 ew, .int .i64 ei, .int .u64 ep, .int .i64 et, .int .i64 eu, .int .i64 en, .slice ax eb.length cx, .int .u64 eg]) := by show Blk _ _ _ _; rw [hw1]; exact blk_new w _ 38
  have HPL : Hid (ps.length = M.length) := hlen
  have hps : ps.length ≤ 16 := by omega
  have hmost : (ps.length : Int) < most := by omega
  clear RT FD LS hx hr h hf hlen hcv he hl
  go_enter Try.func11, Try.ntmps11
  go_upto_region 1 with fail
  rw [← hw1]
  obtain ⟨n, hn⟩ : ∃ n, n = w.heap.size := ⟨_, rfl⟩
  rw [← hn] at HX1 ⊢
  clear hw1 hn
  have c0 := HX1.out.cell 0 _ rfl; have c1 := HX1.out.cell 1 _ rfl; have c2 := HX1.out.cell 2 _ rfl; have c3 := HX1.out.cell 3 _ rfl; have c4 := HX1.out.cell 4 _ rfl; have c5 := HX1.out.cell 5 _ rfl; have c6 := HX1.out.cell 6 _ rfl; have c7 := HX1.out.cell 7 _ rfl
  go_upto_region 8 with (first
    | (go_at_call 30; go_must (refine (HRT.out w1 (HX.out.below HB1.out)).mono ?_; rintro r w2 ⟨rfl, hb2⟩; have HB2 : Hid (Below w.heap.size w w2) := bnext HB1.out hb2; have HX2 : Hid (Blk w2 n 38 [.int .i64 ew, .int .i64 ei, .int .u64 ep, .int .i64 et, .int .i64 eu, .int .i64 en, .slice ax eb.length cx, .int .u64 eg]) := HX1.out.below hb2; have d0 := HX2.out.cell 0 _ rfl; have d1 := HX2.out.cell 1 _ rfl; have d2 := HX2.out.cell 2 _ rfl; have d3 := HX2.out.cell 3 _ rfl; have d4 := HX2.out.cell 4 _ rfl; have d5 := HX2.out.cell 5 _ rfl; have d6 := HX2.out.cell 6 _ rfl; have d7 := HX2.out.cell 7 _ rfl; clear hb2))
    | (go_at_call 31; go_must (refine (HFD.out w2 HB2.out).mono ?_; rintro r w3 ⟨rfl, hw3⟩; replace hw3 := hw3.symm; subst hw3)))
  clear c0 c1 c2 c3 c4 c5 c6 c7 d0 d1 d2 d3 d4 d5 d6 d7
  have l0 := fun z : WIn (fun w' => Below w2.heap.size w2 w') => (HRw.out z.w (bnext HB2.out z.ok)).1.cell 0 _ rfl
  have l1 := fun z : WIn (fun w' => Below w2.heap.size w2 w') => (HRw.out z.w (bnext HB2.out z.ok)).1.cell 1 _ rfl
  have ne : Nonempty (WIn (fun w' => Below w2.heap.size w2 w')) := ⟨⟨w2, Below.refl _ _⟩⟩
  refine wp_region_ord (C := fun w' => ∃ z : WIn (fun w' => Below w2.heap.size w2 w'), w' = z.w) [(false, 0), (false, 1), (false, 2), (false, 3), (false, 4), (false, 5), (false, 6), (false, 7), (false, 8), (false, 9)] (by kernel_rfl) (by kernel_rfl) ⟨⟨w2.drew, (Below.refl _ _).drew⟩, rfl⟩ ?_
  iterate 10 (refine ord_still rfl rfl ?_; go_big_quiet_step (fail); refine wpQuiet_nil ?_)
  refine ord_end ?_
  clear l0 l1 ne
  have HB3 : Hid (Below w2.heap.size w2 w2.drew) := (show Below _ _ _ from (Below.refl _ _).drew)
  generalize w2.drew = w3 at HB3 ⊢
  have HS3 : Hid (Below w.heap.size w w3) := bnext HB2.out HB3.out
  have HX3 : Hid (Blk w3 n 38 [.int .i64 ew, .int .i64 ei, .int .u64 ep, .int .i64 et, .int .i64 eu, .int .i64 en, .slice ax eb.length cx, .int .u64 eg]) := HX2.out.below HB3.out
  clear HB3
  go_wp2
  go_loopw [6] (fun v6 wr => ∃ k : Nat, v6 = .int .i64 k ∧ k ≤ ps.length ∧ Hid (Below w3.heap.size w3 wr) ∧ Hid (∀ m f, m < k → M[m]? = some f → keyB f ⟨ew, ei, ep, et, eu, en, eb, eg⟩ = true)) (fun v6 _ => ps.length - (intOf v6).toNat)
  case atStart => exact ⟨0, rfl, by omega, (show Below _ _ _ from Below.refl _ _), fun m f h => by omega⟩
  case round =>
    obtain ⟨k, rfl, hk, HBr, HF⟩ := hrel
    have HSr : Hid (Below w.heap.size w wr) := bnext HS3.out HBr.out
    have HXr : Hid (Blk wr n 38 [.int .i64 ew, .int .i64 ei, .int .u64 ep, .int .i64 et, .int .i64 eu, .int .i64 en, .slice ax eb.length cx, .int .u64 eg]) := HX3.out.below HBr.out
    have l1 := fun z : WIn (fun w' => Below wr.heap.size wr w') => (HRw.out z.w (bnext HSr.out z.ok)).1.cell 1 _ rfl
    have ne : Nonempty (WIn (fun w' => Below wr.heap.size wr w')) := ⟨⟨wr, Below.refl _ _⟩⟩
    by_cases hkl : k < ps.length
    · obtain ⟨q, hq⟩ : ∃ q, ps[k]? = some q := ⟨_, List.getElem?_eq_getElem hkl⟩
      have HMk : Hid (M[k]? = some q.1) := (show M[k]? = some q.1 from by rw [← HMp.out, List.getElem?_map, hq]; rfl)
      have LQ := HLS.out wr.drew q (HEq.out wr q HSr.out (List.mem_of_getElem? hq)).drew (HX.out.below HSr.out).drew
      have hqx := (HEq.out wr q HSr.out (List.mem_of_getElem? hq)).len
      obtain ⟨g, off, ea, _⟩ := (HRw.out wr HSr.out).2.at hq
      subst ea
      have HC : Hid (∀ w', Below wr.heap.size wr w' → ∀ k' u, (ec q.1 q.2)[k']? = some u → w'.cell? ⟨g, off + k * 8 + k', none⟩ = some u) := fun w' hb' k' u hu => by
        obtain ⟨g', off', ea', hc⟩ := (HRw.out w' (bnext HSr.out hb')).2.at hq
        cases ea'
        exact hc k' u hu
      have HKk : Hid (keyB q.1 ⟨ew, ei, ep, et, eu, en, eb, eg⟩ = keyB q.1 ⟨ew, ei, ep, et, eu, en, eb, eg⟩) := (show _ = _ from rfl)
      generalize hkb : keyB q.1 ⟨ew, ei, ep, et, eu, en, eb, eg⟩ = kb at *
      have HKB : Hid (keyB q.1 ⟨ew, ei, ep, et, eu, en, eb, eg⟩ = kb) := hkb
      obtain ⟨f, y⟩ := q
      obtain ⟨ay, cy, hyy⟩ := hqx
      dsimp only at *
      subst hyy
      obtain ⟨fw, fi, fp, ft, fu, fn, fb, fg⟩ := f
      unfold ec at HC
      dsimp only at *
      have HLQ : Hid (Calls _ _ _ _ _) := LQ
      clear LQ hq hkb HKk
      go_upto_region 11 with fail
      have d0 := fun z : WIn (fun w' => Below wr.heap.size wr w') => HC.out z.w z.ok 0 _ rfl
      have d1 := fun z : WIn (fun w' => Below wr.heap.size wr w') => HC.out z.w z.ok 1 _ rfl
      have d2 := fun z : WIn (fun w' => Below wr.heap.size wr w') => HC.out z.w z.ok 2 _ rfl
      have d3 := fun z : WIn (fun w' => Below wr.heap.size wr w') => HC.out z.w z.ok 3 _ rfl
      have d4 := fun z : WIn (fun w' => Below wr.heap.size wr w') => HC.out z.w z.ok 4 _ rfl
      have d5 := fun z : WIn (fun w' => Below wr.heap.size wr w') => HC.out z.w z.ok 5 _ rfl
      have d6 := fun z : WIn (fun w' => Below wr.heap.size wr w') => HC.out z.w z.ok 6 _ rfl
      have d7 := fun z : WIn (fun w' => Below wr.heap.size wr w') => HC.out z.w z.ok 7 _ rfl
      simp only [Nat.add_zero] at d0
      have c0 := fun z : WIn (fun w' => Below wr.heap.size wr w') => (HXr.out.below z.ok).cell 0 _ rfl
      have c1 := fun z : WIn (fun w' => Below wr.heap.size wr w') => (HXr.out.below z.ok).cell 1 _ rfl
      have c2 := fun z : WIn (fun w' => Below wr.heap.size wr w') => (HXr.out.below z.ok).cell 2 _ rfl
      have c3 := fun z : WIn (fun w' => Below wr.heap.size wr w') => (HXr.out.below z.ok).cell 3 _ rfl
      have c4 := fun z : WIn (fun w' => Below wr.heap.size wr w') => (HXr.out.below z.ok).cell 4 _ rfl
      have c5 := fun z : WIn (fun w' => Below wr.heap.size wr w') => (HXr.out.below z.ok).cell 5 _ rfl
      have c6 := fun z : WIn (fun w' => Below wr.heap.size wr w') => (HXr.out.below z.ok).cell 6 _ rfl
      have c7 := fun z : WIn (fun w' => Below wr.heap.size wr w') => (HXr.out.below z.ok).cell 7 _ rfl
      refine wp_region_ord (C := fun w' => ∃ z : WIn (fun w' => Below wr.heap.size wr w'), w' = z.w) [(false, 0), (false, 1), (false, 2), (false, 3), (false, 4), (false, 5), (false, 6), (false, 7), (false, 8), (false, 9), (false, 10), (false, 11), (false, 12), (false, 13), (false, 14), (false, 15), (true, 16), (false, 17)] (by kernel_rfl) (by kernel_rfl) ⟨⟨wr.drew, (Below.refl _ _).drew⟩, rfl⟩ ?_
      iterate 16 (refine ord_still rfl rfl ?_; go_big_quiet_step (fail); refine wpQuiet_nil ?_)
      refine ord_mem rfl rfl ?_
      go_simp
      refine HLQ.out.mono ?_
      rintro r w4 ⟨rfl, hb4⟩
      have HB4 : Hid (Below wr.heap.size wr w4) := below_undrew hb4
      clear hb4
      refine ⟨⟨⟨w4, HB4.out⟩, rfl⟩, ?_⟩
      cases kb
      · refine ord_still rfl rfl ?_
        go_big_quiet_step (fail)
        refine wpQuiet_nil ?_
        refine ord_end ?_
        clear c0 c1 c2 c3 c4 c5 c6 c7 d0 d1 d2 d3 d4 d5 d6 d7 ne l1
        have HBw : Hid (Below w.heap.size w w4) := bnext HSr.out HB4.out
        have HX4 : Hid (Blk w4 n 38 [.int .i64 ew, .int .i64 ei, .int .u64 ep, .int .i64 et, .int .i64 eu, .int .i64 en, .slice ax eb.length cx, .int .u64 eg]) := HXr.out.below HB4.out
        have HIns : Hid (insM ⟨ew, ei, ep, et, eu, en, eb, eg⟩ M = M.take k ++ ⟨ew, ei, ep, et, eu, en, eb, eg⟩ :: M.drop k) := (show _ = _ from ins_at (by have := HPL.out; omega) HF.out (fun f' hf' => by rw [HMk.out] at hf'; cases hf'; exact HKB.out))
        clear HB4 HXr HSr HBr HF HMk HKB HLQ HC
        go_upto_region 13 with fail
        have l1 := fun z : WIn (fun w' => Below w4.heap.size w4 w') => (HRw.out z.w (bnext HBw.out z.ok)).1.cell 1 _ rfl
        have c0 := fun z : WIn (fun w' => Below w4.heap.size w4 w') => (HX4.out.below z.ok).cell 0 _ rfl
        have c1 := fun z : WIn (fun w' => Below w4.heap.size w4 w') => (HX4.out.below z.ok).cell 1 _ rfl
        have c2 := fun z : WIn (fun w' => Below w4.heap.size w4 w') => (HX4.out.below z.ok).cell 2 _ rfl
        have c3 := fun z : WIn (fun w' => Below w4.heap.size w4 w') => (HX4.out.below z.ok).cell 3 _ rfl
        have c4 := fun z : WIn (fun w' => Below w4.heap.size w4 w') => (HX4.out.below z.ok).cell 4 _ rfl
        have c5 := fun z : WIn (fun w' => Below w4.heap.size w4 w') => (HX4.out.below z.ok).cell 5 _ rfl
        have c6 := fun z : WIn (fun w' => Below w4.heap.size w4 w') => (HX4.out.below z.ok).cell 6 _ rfl
        have c7 := fun z : WIn (fun w' => Below w4.heap.size w4 w') => (HX4.out.below z.ok).cell 7 _ rfl
        have ne : Nonempty (WIn (fun w' => Below w4.heap.size w4 w')) := ⟨⟨w4, Below.refl _ _⟩⟩
        refine wp_region_treeZ (C := fun w' => ∃ z : WIn (fun w' => Below w4.heap.size w4 w'), w' = z.w) 21 (.still 0 (.still 2 (.still 3 (.still 4 (.still 5 (.still 6 (.still 7 (.still 9 (.still 12 (.still 13 (.still 14 (.still 15 (.still 16 (.still 17 (.two 1 (.two 8 (.one 10 (.one 11 (.one 18 (.one 19 (.still 20 .done))))) 10 (.one 8 (.one 11 (.one 18 (.one 19 (.still 20 .done)))))) 10 (.one 1 (.one 8 (.one 11 (.one 18 (.one 19 (.still 20 .done))))))))))))))))))))) rfl (by kernel_rfl) (by kernel_rfl) ⟨⟨w4.drew, (Below.refl _ _).drew⟩, rfl⟩ ?_
        have HBd : Hid (Below w4.heap.size w4 w4.drew) := (show Below _ _ _ from (Below.refl _ _).drew)
        generalize w4.drew = wd at HBd ⊢
        have hck : ¬ cv = k := by omega

        · have hck2 : ¬ k = cv := fun e => hck e.symm
          iterate 14 (refine tree_still rfl rfl ?_; go_big_quiet_step (fail); refine wpQuiet_nil ?_)
          refine tree_two rfl rfl rfl rfl ?s1_1 ?s10_1
          case' s1_1 =>
            go_simp
            have HBu : Hid (Below w4.heap.size w4 (wd.alloc (.cells #[] 38))) := (show Below _ _ _ from balloc HBd.out _)
            have HOu : Hid ((wd.alloc (.cells #[] 38)).ownsRow 0 38 8 (.slice (some ⟨wd.heap.size, 0, none⟩) 0 0) ([] : List (Ent × Value)).length (flatE [])) := ⟨rfl, .inr ⟨wd.heap.size, 0, #[], rfl, Nat.zero_le _, heap_alloc_new wd _, Nat.le_refl _, Nat.zero_le _, rfl, rfl⟩⟩
            have HZ : Hid (w4.heap.size ≤ wd.heap.size) := HBd.out.size
            have HZ2 : Hid (wd.heap.size < (wd.alloc (.cells #[] 38)).heap.size) := (show _ < _ from by simp)
            refine ⟨⟨⟨_, HBu.out⟩, rfl⟩, ?_⟩
            generalize wd.heap.size = z0 at HOu HZ HZ2 ⊢
            generalize wd.alloc (.cells #[] 38) = u1 at HBu HOu HZ2 ⊢
            refine tree_two rfl rfl rfl rfl ?s18_1 ?s110_1
          case' s18_1 =>
            refine wp_of_list rfl ?_
            refine wpList_append_ents rfl (.tmp 58) (.tmp 64) rfl _ [] rfl HOu.out _ (ps.take k) rfl (RowE.take (HRw.out _ (bnext HBw.out HBu.out)).2 (by omega)) (fun u hu => HOne.out u (by rw [← flatE_take] at hu; exact List.mem_of_mem_take hu)) (by simp; omega) ?_
            intro vA wA hrA hgA hwA
            rw [List.nil_append] at hrA
            have HrA : Hid (wA.ownsRow 0 38 8 vA (ps.take k).length (flatE (ps.take k))) := hrA
            have HBA : Hid (Below w4.heap.size w4 wA) := bgrown HBu.out HZ.out hgA
            have HgA : Hid (_) := hgA
            have HnA : Hid (∀ i, vA.ownBlock = some i → w4.heap.size ≤ i) := fun i hi => by
              rcases hwA i hi with r | r
              · cases r
                exact HZ.out
              · exact Nat.le_trans HBu.out.size r
            obtain ⟨aA, cA, hvA, _⟩ := slice_of_own hrA
            have hnl : (ps.take k).length = k := by rw [List.length_take]; omega
            rw [hnl] at hvA
            subst hvA
            clear hrA hgA hwA hnl
            refine ⟨rfl, ⟨⟨wA, HBA.out⟩, rfl⟩, ?_⟩
            go_simp
            refine tree_one rfl rfl ?_
            go_simp
            have HRB : Hid (RowE (wA.alloc (.cells #[.int .i64 ew, .int .i64 ei, .int .u64 ep, .int .i64 et, .int .i64 eu, .int .i64 en, .slice ax eb.length cx, .int .u64 eg] 38)) (.slice (some ⟨wA.heap.size, 0, none⟩) 1 1) [((⟨ew, ei, ep, et, eu, en, eb, eg⟩ : Ent), (.slice ax eb.length cx : Value))]) := HR1.out wA
            have HrB : Hid ((wA.alloc (.cells #[.int .i64 ew, .int .i64 ei, .int .u64 ep, .int .i64 et, .int .i64 eu, .int .i64 en, .slice ax eb.length cx, .int .u64 eg] 38)).ownsRow 0 38 8 (.slice aA k cA) (ps.take k).length (flatE (ps.take k))) := HrA.out.alloc _
            have HBB : Hid (Below w4.heap.size w4 (wA.alloc (.cells #[.int .i64 ew, .int .i64 ei, .int .u64 ep, .int .i64 et, .int .i64 eu, .int .i64 en, .slice ax eb.length cx, .int .u64 eg] 38))) := (show Below _ _ _ from balloc HBA.out _)
            refine ⟨⟨⟨_, HBB.out⟩, rfl⟩, ?_⟩
            generalize wA.heap.size = e0 at HRB ⊢
            generalize wA.alloc (.cells #[.int .i64 ew, .int .i64 ei, .int .u64 ep, .int .i64 et, .int .i64 eu, .int .i64 en, .slice ax eb.length cx, .int .u64 eg] 38) = wB at HRB HrB HBB ⊢
          case' s110_1 =>
            go_simp
            have HRu : Hid (RowE (u1.alloc (.cells #[.int .i64 ew, .int .i64 ei, .int .u64 ep, .int .i64 et, .int .i64 eu, .int .i64 en, .slice ax eb.length cx, .int .u64 eg] 38)) (.slice (some ⟨u1.heap.size, 0, none⟩) 1 1) [((⟨ew, ei, ep, et, eu, en, eb, eg⟩ : Ent), (.slice ax eb.length cx : Value))]) := HR1.out u1
            have HOv : Hid ((u1.alloc (.cells #[.int .i64 ew, .int .i64 ei, .int .u64 ep, .int .i64 et, .int .i64 eu, .int .i64 en, .slice ax eb.length cx, .int .u64 eg] 38)).ownsRow 0 38 8 (.slice (some ⟨z0, 0, none⟩) 0 0) ([] : List (Ent × Value)).length (flatE [])) := HOu.out.alloc _
            have HBv : Hid (Below w4.heap.size w4 (u1.alloc (.cells #[.int .i64 ew, .int .i64 ei, .int .u64 ep, .int .i64 et, .int .i64 eu, .int .i64 en, .slice ax eb.length cx, .int .u64 eg] 38))) := (show Below _ _ _ from balloc HBu.out _)
            refine ⟨⟨⟨_, HBv.out⟩, rfl⟩, ?_⟩
            have HNe : Hid (u1.heap.size ≠ z0) := (show _ ≠ _ from by have := HZ2.out; omega)
            generalize u1.heap.size = e0 at HRu HNe ⊢
            generalize u1.alloc (.cells #[.int .i64 ew, .int .i64 ei, .int .u64 ep, .int .i64 et, .int .i64 eu, .int .i64 en, .slice ax eb.length cx, .int .u64 eg] 38) = u2 at HRu HOv HBv ⊢
            refine tree_one rfl rfl ?_
            refine wp_of_list rfl ?_
            refine wpList_append_ents rfl (.tmp 58) (.tmp 64) rfl _ [] rfl HOv.out _ (ps.take k) rfl (RowE.take (HRw.out _ (bnext HBw.out HBv.out)).2 (by omega)) (fun u hu => HOne.out u (by rw [← flatE_take] at hu; exact List.mem_of_mem_take hu)) (by simp; omega) ?_
            intro vA wA hrA hgA hwA
            rw [List.nil_append] at hrA
            have HrA : Hid (wA.ownsRow 0 38 8 vA (ps.take k).length (flatE (ps.take k))) := hrA
            have HBA : Hid (Below w4.heap.size w4 wA) := bgrown HBv.out HZ.out hgA
            have HgA : Hid (_) := hgA
            have HnA : Hid (∀ i, vA.ownBlock = some i → w4.heap.size ≤ i) := fun i hi => by
              rcases hwA i hi with r | r
              · cases r
                exact HZ.out
              · exact Nat.le_trans HBv.out.size r
            obtain ⟨aA, cA, hvA, _⟩ := slice_of_own hrA
            have hnl : (ps.take k).length = k := by rw [List.length_take]; omega
            rw [hnl] at hvA
            subst hvA
            clear hrA hgA hwA hnl
            refine ⟨rfl, ⟨⟨wA, HBA.out⟩, rfl⟩, ?_⟩
            go_simp
            have HRB : Hid (RowE wA (.slice (some ⟨e0, 0, none⟩) 1 1) [((⟨ew, ei, ep, et, eu, en, eb, eg⟩ : Ent), (.slice ax eb.length cx : Value))]) := HRu.out.blocks (fun i hi hlt => HgA.out.block i hlt (fun e' => by cases hi; have h2 : e0 = z0 := Option.some.inj e'; have := HNe.out; omega))
            have HrB : Hid (wA.ownsRow 0 38 8 (.slice aA k cA) (ps.take k).length (flatE (ps.take k))) := HrA
            have HBB : Hid (Below w4.heap.size w4 wA) := HBA
            generalize wA = wB at HRB HrB HBB ⊢
          case' s10_1 =>
            go_simp
            have HRu : Hid (RowE (wd.alloc (.cells #[.int .i64 ew, .int .i64 ei, .int .u64 ep, .int .i64 et, .int .i64 eu, .int .i64 en, .slice ax eb.length cx, .int .u64 eg] 38)) (.slice (some ⟨wd.heap.size, 0, none⟩) 1 1) [((⟨ew, ei, ep, et, eu, en, eb, eg⟩ : Ent), (.slice ax eb.length cx : Value))]) := HR1.out wd
            have HBu : Hid (Below w4.heap.size w4 (wd.alloc (.cells #[.int .i64 ew, .int .i64 ei, .int .u64 ep, .int .i64 et, .int .i64 eu, .int .i64 en, .slice ax eb.length cx, .int .u64 eg] 38))) := (show Below _ _ _ from balloc HBd.out _)
            have HZ2 : Hid (wd.heap.size < (wd.alloc (.cells #[.int .i64 ew, .int .i64 ei, .int .u64 ep, .int .i64 et, .int .i64 eu, .int .i64 en, .slice ax eb.length cx, .int .u64 eg] 38)).heap.size) := (show _ < _ from by simp)
            refine ⟨⟨⟨_, HBu.out⟩, rfl⟩, ?_⟩
            generalize wd.heap.size = e0 at HRu HZ2 ⊢
            generalize wd.alloc (.cells #[.int .i64 ew, .int .i64 ei, .int .u64 ep, .int .i64 et, .int .i64 eu, .int .i64 en, .slice ax eb.length cx, .int .u64 eg] 38) = u1 at HRu HBu HZ2 ⊢
            refine tree_one rfl rfl ?_
            go_simp
            have HOv : Hid ((u1.alloc (.cells #[] 38)).ownsRow 0 38 8 (.slice (some ⟨u1.heap.size, 0, none⟩) 0 0) ([] : List (Ent × Value)).length (flatE [])) := ⟨rfl, .inr ⟨u1.heap.size, 0, #[], rfl, Nat.zero_le _, heap_alloc_new u1 _, Nat.le_refl _, Nat.zero_le _, rfl, rfl⟩⟩
            have HBv : Hid (Below w4.heap.size w4 (u1.alloc (.cells #[] 38))) := (show Below _ _ _ from balloc HBu.out _)
            have HRv : Hid (RowE (u1.alloc (.cells #[] 38)) (.slice (some ⟨e0, 0, none⟩) 1 1) [((⟨ew, ei, ep, et, eu, en, eb, eg⟩ : Ent), (.slice ax eb.length cx : Value))]) := HRu.out.below (balloc (Below.refl _ _) _)
            have HZ : Hid (w4.heap.size ≤ u1.heap.size) := HBu.out.size
            refine ⟨⟨⟨_, HBv.out⟩, rfl⟩, ?_⟩
            have HNe : Hid (e0 ≠ u1.heap.size) := (show _ ≠ _ from by have := HZ2.out; omega)
            generalize u1.heap.size = z0 at HOv HZ HNe ⊢
            generalize u1.alloc (.cells #[] 38) = u2 at HOv HBv HRv ⊢
            refine tree_one rfl rfl ?_
            refine wp_of_list rfl ?_
            refine wpList_append_ents rfl (.tmp 58) (.tmp 64) rfl _ [] rfl HOv.out _ (ps.take k) rfl (RowE.take (HRw.out _ (bnext HBw.out HBv.out)).2 (by omega)) (fun u hu => HOne.out u (by rw [← flatE_take] at hu; exact List.mem_of_mem_take hu)) (by simp; omega) ?_
            intro vA wA hrA hgA hwA
            rw [List.nil_append] at hrA
            have HrA : Hid (wA.ownsRow 0 38 8 vA (ps.take k).length (flatE (ps.take k))) := hrA
            have HBA : Hid (Below w4.heap.size w4 wA) := bgrown HBv.out HZ.out hgA
            have HgA : Hid (_) := hgA
            have HnA : Hid (∀ i, vA.ownBlock = some i → w4.heap.size ≤ i) := fun i hi => by
              rcases hwA i hi with r | r
              · cases r
                exact HZ.out
              · exact Nat.le_trans HBv.out.size r
            obtain ⟨aA, cA, hvA, _⟩ := slice_of_own hrA
            have hnl : (ps.take k).length = k := by rw [List.length_take]; omega
            rw [hnl] at hvA
            subst hvA
            clear hrA hgA hwA hnl
            refine ⟨rfl, ⟨⟨wA, HBA.out⟩, rfl⟩, ?_⟩
            go_simp
            have HRB : Hid (RowE wA (.slice (some ⟨e0, 0, none⟩) 1 1) [((⟨ew, ei, ep, et, eu, en, eb, eg⟩ : Ent), (.slice ax eb.length cx : Value))]) := HRv.out.blocks (fun i hi hlt => HgA.out.block i hlt (fun e' => by cases hi; have h2 : e0 = z0 := Option.some.inj e'; have := HNe.out; omega))
            have HrB : Hid (wA.ownsRow 0 38 8 (.slice aA k cA) (ps.take k).length (flatE (ps.take k))) := HrA
            have HBB : Hid (Below w4.heap.size w4 wA) := HBA
            generalize wA = wB at HRB HrB HBB ⊢
          all_goals
            refine tree_one rfl rfl ?_
            refine wp_of_list rfl ?_
            refine wpList_append_ents rfl (.tmp 65) (.tmp 67) rfl _ (ps.take k) rfl HrB.out _ [((⟨ew, ei, ep, et, eu, en, eb, eg⟩ : Ent), (.slice ax eb.length cx : Value))] rfl HRB.out HOx.out (by rw [List.length_take]; simp; omega) ?_
            intro vC wC hrC hgC hwC
            have HrC : Hid (wC.ownsRow 0 38 8 vC (ps.take k ++ [((⟨ew, ei, ep, et, eu, en, eb, eg⟩ : Ent), (.slice ax eb.length cx : Value))]).length (flatE (ps.take k ++ [((⟨ew, ei, ep, et, eu, en, eb, eg⟩ : Ent), (.slice ax eb.length cx : Value))]))) := hrC
            have HBC : Hid (Below w4.heap.size w4 wC) := (show Below _ _ _ from HBB.out.grown hgC HBB.out.size (fun i hi => HnA.out i hi))
            have HnC : Hid (∀ i, vC.ownBlock = some i → w4.heap.size ≤ i) := fun i hi => by
              rcases hwC i hi with r | r
              · exact HnA.out i r
              · exact Nat.le_trans HBB.out.size r
            obtain ⟨aC, cC, hvC, _⟩ := slice_of_own hrC
            rw [show (ps.take k ++ [((⟨ew, ei, ep, et, eu, en, eb, eg⟩ : Ent), (.slice ax eb.length cx : Value))]).length = k + 1 by rw [List.length_append, List.length_take]; simp; omega] at hvC
            subst hvC
            clear hrC hgC hwC
            refine ⟨rfl, ⟨⟨wC, HBC.out⟩, rfl⟩, ?_⟩
            go_simp
            refine tree_one rfl rfl ?_
            refine wp_of_list rfl ?_
            have HRD := RowE.drop (HRw.out wC (bnext HBw.out HBC.out)).2 (k := k) (by omega) hck
            refine wpList_append_ents rfl (.tmp 68) (.tmp 74) rfl _ (ps.take k ++ [((⟨ew, ei, ep, et, eu, en, eb, eg⟩ : Ent), (.slice ax eb.length cx : Value))]) rfl HrC.out _ (ps.drop k) rfl (by first | exact HRD | (have h9 := HRD; rw [Option.map_some, Addr.add_lit] at h9; exact h9)) (fun u hu => HOne.out u (by rw [← flatE_drop] at hu; exact List.mem_of_mem_drop hu)) (by simp; omega) ?_
            intro vD wD hrD hgD hwD
            have HrD : Hid (wD.ownsRow 0 38 8 vD (ps.take k ++ [((⟨ew, ei, ep, et, eu, en, eb, eg⟩ : Ent), (.slice ax eb.length cx : Value))] ++ ps.drop k).length (flatE (ps.take k ++ [((⟨ew, ei, ep, et, eu, en, eb, eg⟩ : Ent), (.slice ax eb.length cx : Value))] ++ ps.drop k))) := hrD
            have HBD : Hid (Below w4.heap.size w4 wD) := (show Below _ _ _ from HBC.out.grown hgD HBC.out.size (fun i hi => HnC.out i hi))
            have HnD : Hid (∀ i, vD.ownBlock = some i → w.heap.size ≤ i) := fun i hi => by
              have hsz := HBw.out.size
              rcases hwD i hi with r | r
              · exact Nat.le_trans hsz (HnC.out i r)
              · exact Nat.le_trans hsz (Nat.le_trans HBC.out.size r)
            have HE := HPE.out wD vD k (bnext HBw.out HBD.out) HrD.out HnD.out HIns.out
            have BD := (HRw.out wD (bnext HBw.out HBD.out)).1
            have b1 := BD.cell 1 _ rfl
            have g1 := BD.frozen 1
            obtain ⟨aD, cD, hvD, _⟩ := slice_of_own hrD
            generalize (ps.take k ++ [((⟨ew, ei, ep, et, eu, en, eb, eg⟩ : Ent), (.slice ax eb.length cx : Value))] ++ ps.drop k).length = nD at hvD
            subst hvD
            have HE' : Hid (_) := HE
            clear hrD hgD hwD HE BD HRD
            refine ⟨rfl, ⟨⟨wD, HBD.out⟩, rfl⟩, ?_⟩
            go_simp
            refine tree_one rfl rfl ?_
            go_simp
            refine ⟨⟨⟨wD, HBD.out⟩, rfl⟩, ?_⟩
            refine tree_still rfl rfl ?_
            go_big_quiet_step (fail)
            refine wpQuiet_nil ?_
            refine tree_done ?_
            refine ⟨rfl, ?_⟩
            go_simp
            clear c0 c1 c2 c3 c4 c5 c6 c7 l1 ne
            go_wp2
            go_ret
            exact ⟨rfl, HE'.out⟩
      · refine ord_still rfl rfl ?_
        go_big_quiet_step (fail)
        refine wpQuiet_nil ?_
        refine ord_end ?_
        clear c0 c1 c2 c3 c4 c5 c6 c7 d0 d1 d2 d3 d4 d5 d6 d7 ne l1
        go_wp2
        go_roundw
        case rel =>
          refine ⟨k + 1, by go_num, by omega, (show Below _ _ _ from bnext HBr.out HB4.out), fun m f' hm hf' => ?_⟩
          by_cases hmk : m = k
          · subst hmk
            rw [HMk.out] at hf'
            cases hf'
            exact HKB.out
          · exact HF.out m f' (by omega) hf'
        case measure => simp [intOf]; omega
    · have HKe : Hid (k = ps.length) := (show _ = _ from by omega)
      go_upto_region 11 with fail
      have c0 := fun z : WIn (fun w' => Below wr.heap.size wr w') => (HXr.out.below z.ok).cell 0 _ rfl
      have c1 := fun z : WIn (fun w' => Below wr.heap.size wr w') => (HXr.out.below z.ok).cell 1 _ rfl
      have c2 := fun z : WIn (fun w' => Below wr.heap.size wr w') => (HXr.out.below z.ok).cell 2 _ rfl
      have c3 := fun z : WIn (fun w' => Below wr.heap.size wr w') => (HXr.out.below z.ok).cell 3 _ rfl
      have c4 := fun z : WIn (fun w' => Below wr.heap.size wr w') => (HXr.out.below z.ok).cell 4 _ rfl
      have c5 := fun z : WIn (fun w' => Below wr.heap.size wr w') => (HXr.out.below z.ok).cell 5 _ rfl
      have c6 := fun z : WIn (fun w' => Below wr.heap.size wr w') => (HXr.out.below z.ok).cell 6 _ rfl
      have c7 := fun z : WIn (fun w' => Below wr.heap.size wr w') => (HXr.out.below z.ok).cell 7 _ rfl
      refine wp_region_ord (C := fun w' => ∃ z : WIn (fun w' => Below wr.heap.size wr w'), w' = z.w) [(false, 0), (false, 1), (false, 2), (false, 3), (false, 4), (false, 5), (false, 6), (false, 7), (false, 8), (false, 9), (false, 10), (false, 11), (false, 12), (false, 13), (false, 14), (false, 15), (false, 16), (false, 17)] (by kernel_rfl) (by kernel_rfl) ⟨⟨wr.drew, (Below.refl _ _).drew⟩, rfl⟩ ?_
      iterate 18 (first | (refine ord_still rfl rfl ?_; go_big_quiet_step (fail); refine wpQuiet_nil ?_) | (refine ord_shut rfl rfl ?_; go_big_quiet_step (fail); refine wpQuiet_nil ?_))
      refine ord_end ?_
      clear c0 c1 c2 c3 c4 c5 c6 c7 ne l1
      have HBw : Hid (Below w.heap.size w wr.drew) := (show Below _ _ _ from HSr.out.drew)
      have HX4 : Hid (Blk wr.drew n 38 [.int .i64 ew, .int .i64 ei, .int .u64 ep, .int .i64 et, .int .i64 eu, .int .i64 en, .slice ax eb.length cx, .int .u64 eg]) := HXr.out
      have HIns : Hid (insM ⟨ew, ei, ep, et, eu, en, eb, eg⟩ M = M.take k ++ ⟨ew, ei, ep, et, eu, en, eb, eg⟩ :: M.drop k) := (show _ = _ from ins_at (by have := HPL.out; omega) HF.out (fun f' hf' => by rw [List.getElem?_eq_none (by have := HPL.out; have := HKe.out; omega)] at hf'; cases hf'))
      generalize wr.drew = w4 at HBw HX4 ⊢
      clear HXr HSr HBr HF
      go_upto_region 13 with fail
      have l1 := fun z : WIn (fun w' => Below w4.heap.size w4 w') => (HRw.out z.w (bnext HBw.out z.ok)).1.cell 1 _ rfl
      have c0 := fun z : WIn (fun w' => Below w4.heap.size w4 w') => (HX4.out.below z.ok).cell 0 _ rfl
      have c1 := fun z : WIn (fun w' => Below w4.heap.size w4 w') => (HX4.out.below z.ok).cell 1 _ rfl
      have c2 := fun z : WIn (fun w' => Below w4.heap.size w4 w') => (HX4.out.below z.ok).cell 2 _ rfl
      have c3 := fun z : WIn (fun w' => Below w4.heap.size w4 w') => (HX4.out.below z.ok).cell 3 _ rfl
      have c4 := fun z : WIn (fun w' => Below w4.heap.size w4 w') => (HX4.out.below z.ok).cell 4 _ rfl
      have c5 := fun z : WIn (fun w' => Below w4.heap.size w4 w') => (HX4.out.below z.ok).cell 5 _ rfl
      have c6 := fun z : WIn (fun w' => Below w4.heap.size w4 w') => (HX4.out.below z.ok).cell 6 _ rfl
      have c7 := fun z : WIn (fun w' => Below w4.heap.size w4 w') => (HX4.out.below z.ok).cell 7 _ rfl
      have ne : Nonempty (WIn (fun w' => Below w4.heap.size w4 w')) := ⟨⟨w4, Below.refl _ _⟩⟩
      refine wp_region_treeZ (C := fun w' => ∃ z : WIn (fun w' => Below w4.heap.size w4 w'), w' = z.w) 21 (.still 0 (.still 2 (.still 3 (.still 4 (.still 5 (.still 6 (.still 7 (.still 9 (.still 12 (.still 13 (.still 14 (.still 15 (.still 16 (.still 17 (.two 1 (.two 8 (.one 10 (.one 11 (.one 18 (.one 19 (.still 20 .done))))) 10 (.one 8 (.one 11 (.one 18 (.one 19 (.still 20 .done)))))) 10 (.one 1 (.one 8 (.one 11 (.one 18 (.one 19 (.still 20 .done))))))))))))))))))))) rfl (by kernel_rfl) (by kernel_rfl) ⟨⟨w4.drew, (Below.refl _ _).drew⟩, rfl⟩ ?_
      have HBd : Hid (Below w4.heap.size w4 w4.drew) := (show Below _ _ _ from (Below.refl _ _).drew)
      generalize w4.drew = wd at HBd ⊢
      by_cases hck : cv = k
      · subst hck
        iterate 14 (refine tree_still rfl rfl ?_; go_big_quiet_step (fail); refine wpQuiet_nil ?_)
        refine tree_two rfl rfl rfl rfl ?s1_2 ?s10_2
        case' s1_2 =>
          go_simp
          have HBu : Hid (Below w4.heap.size w4 (wd.alloc (.cells #[] 38))) := (show Below _ _ _ from balloc HBd.out _)
          have HOu : Hid ((wd.alloc (.cells #[] 38)).ownsRow 0 38 8 (.slice (some ⟨wd.heap.size, 0, none⟩) 0 0) ([] : List (Ent × Value)).length (flatE [])) := ⟨rfl, .inr ⟨wd.heap.size, 0, #[], rfl, Nat.zero_le _, heap_alloc_new wd _, Nat.le_refl _, Nat.zero_le _, rfl, rfl⟩⟩
          have HZ : Hid (w4.heap.size ≤ wd.heap.size) := HBd.out.size
          have HZ2 : Hid (wd.heap.size < (wd.alloc (.cells #[] 38)).heap.size) := (show _ < _ from by simp)
          refine ⟨⟨⟨_, HBu.out⟩, rfl⟩, ?_⟩
          generalize wd.heap.size = z0 at HOu HZ HZ2 ⊢
          generalize wd.alloc (.cells #[] 38) = u1 at HBu HOu HZ2 ⊢
          refine tree_two rfl rfl rfl rfl ?s18_2 ?s110_2
        case' s18_2 =>
          refine wp_of_list rfl ?_
          refine wpList_append_ents rfl (.tmp 58) (.tmp 64) rfl _ [] rfl HOu.out _ (ps.take cv) rfl (RowE.take (HRw.out _ (bnext HBw.out HBu.out)).2 (by omega)) (fun u hu => HOne.out u (by rw [← flatE_take] at hu; exact List.mem_of_mem_take hu)) (by simp; omega) ?_
          intro vA wA hrA hgA hwA
          rw [List.nil_append] at hrA
          have HrA : Hid (wA.ownsRow 0 38 8 vA (ps.take cv).length (flatE (ps.take cv))) := hrA
          have HBA : Hid (Below w4.heap.size w4 wA) := bgrown HBu.out HZ.out hgA
          have HgA : Hid (_) := hgA
          have HnA : Hid (∀ i, vA.ownBlock = some i → w4.heap.size ≤ i) := fun i hi => by
            rcases hwA i hi with r | r
            · cases r
              exact HZ.out
            · exact Nat.le_trans HBu.out.size r
          obtain ⟨aA, cA, hvA, _⟩ := slice_of_own hrA
          have hnl : (ps.take cv).length = cv := by rw [List.length_take]; omega
          rw [hnl] at hvA
          subst hvA
          clear hrA hgA hwA hnl
          refine ⟨rfl, ⟨⟨wA, HBA.out⟩, rfl⟩, ?_⟩
          go_simp
          refine tree_one rfl rfl ?_
          go_simp
          have HRB : Hid (RowE (wA.alloc (.cells #[.int .i64 ew, .int .i64 ei, .int .u64 ep, .int .i64 et, .int .i64 eu, .int .i64 en, .slice ax eb.length cx, .int .u64 eg] 38)) (.slice (some ⟨wA.heap.size, 0, none⟩) 1 1) [((⟨ew, ei, ep, et, eu, en, eb, eg⟩ : Ent), (.slice ax eb.length cx : Value))]) := HR1.out wA
          have HrB : Hid ((wA.alloc (.cells #[.int .i64 ew, .int .i64 ei, .int .u64 ep, .int .i64 et, .int .i64 eu, .int .i64 en, .slice ax eb.length cx, .int .u64 eg] 38)).ownsRow 0 38 8 (.slice aA cv cA) (ps.take cv).length (flatE (ps.take cv))) := HrA.out.alloc _
          have HBB : Hid (Below w4.heap.size w4 (wA.alloc (.cells #[.int .i64 ew, .int .i64 ei, .int .u64 ep, .int .i64 et, .int .i64 eu, .int .i64 en, .slice ax eb.length cx, .int .u64 eg] 38))) := (show Below _ _ _ from balloc HBA.out _)
          refine ⟨⟨⟨_, HBB.out⟩, rfl⟩, ?_⟩
          generalize wA.heap.size = e0 at HRB ⊢
          generalize wA.alloc (.cells #[.int .i64 ew, .int .i64 ei, .int .u64 ep, .int .i64 et, .int .i64 eu, .int .i64 en, .slice ax eb.length cx, .int .u64 eg] 38) = wB at HRB HrB HBB ⊢
        case' s110_2 =>
          go_simp
          have HRu : Hid (RowE (u1.alloc (.cells #[.int .i64 ew, .int .i64 ei, .int .u64 ep, .int .i64 et, .int .i64 eu, .int .i64 en, .slice ax eb.length cx, .int .u64 eg] 38)) (.slice (some ⟨u1.heap.size, 0, none⟩) 1 1) [((⟨ew, ei, ep, et, eu, en, eb, eg⟩ : Ent), (.slice ax eb.length cx : Value))]) := HR1.out u1
          have HOv : Hid ((u1.alloc (.cells #[.int .i64 ew, .int .i64 ei, .int .u64 ep, .int .i64 et, .int .i64 eu, .int .i64 en, .slice ax eb.length cx, .int .u64 eg] 38)).ownsRow 0 38 8 (.slice (some ⟨z0, 0, none⟩) 0 0) ([] : List (Ent × Value)).length (flatE [])) := HOu.out.alloc _
          have HBv : Hid (Below w4.heap.size w4 (u1.alloc (.cells #[.int .i64 ew, .int .i64 ei, .int .u64 ep, .int .i64 et, .int .i64 eu, .int .i64 en, .slice ax eb.length cx, .int .u64 eg] 38))) := (show Below _ _ _ from balloc HBu.out _)
          refine ⟨⟨⟨_, HBv.out⟩, rfl⟩, ?_⟩
          have HNe : Hid (u1.heap.size ≠ z0) := (show _ ≠ _ from by have := HZ2.out; omega)
          generalize u1.heap.size = e0 at HRu HNe ⊢
          generalize u1.alloc (.cells #[.int .i64 ew, .int .i64 ei, .int .u64 ep, .int .i64 et, .int .i64 eu, .int .i64 en, .slice ax eb.length cx, .int .u64 eg] 38) = u2 at HRu HOv HBv ⊢
          refine tree_one rfl rfl ?_
          refine wp_of_list rfl ?_
          refine wpList_append_ents rfl (.tmp 58) (.tmp 64) rfl _ [] rfl HOv.out _ (ps.take cv) rfl (RowE.take (HRw.out _ (bnext HBw.out HBv.out)).2 (by omega)) (fun u hu => HOne.out u (by rw [← flatE_take] at hu; exact List.mem_of_mem_take hu)) (by simp; omega) ?_
          intro vA wA hrA hgA hwA
          rw [List.nil_append] at hrA
          have HrA : Hid (wA.ownsRow 0 38 8 vA (ps.take cv).length (flatE (ps.take cv))) := hrA
          have HBA : Hid (Below w4.heap.size w4 wA) := bgrown HBv.out HZ.out hgA
          have HgA : Hid (_) := hgA
          have HnA : Hid (∀ i, vA.ownBlock = some i → w4.heap.size ≤ i) := fun i hi => by
            rcases hwA i hi with r | r
            · cases r
              exact HZ.out
            · exact Nat.le_trans HBv.out.size r
          obtain ⟨aA, cA, hvA, _⟩ := slice_of_own hrA
          have hnl : (ps.take cv).length = cv := by rw [List.length_take]; omega
          rw [hnl] at hvA
          subst hvA
          clear hrA hgA hwA hnl
          refine ⟨rfl, ⟨⟨wA, HBA.out⟩, rfl⟩, ?_⟩
          go_simp
          have HRB : Hid (RowE wA (.slice (some ⟨e0, 0, none⟩) 1 1) [((⟨ew, ei, ep, et, eu, en, eb, eg⟩ : Ent), (.slice ax eb.length cx : Value))]) := HRu.out.blocks (fun i hi hlt => HgA.out.block i hlt (fun e' => by cases hi; have h2 : e0 = z0 := Option.some.inj e'; have := HNe.out; omega))
          have HrB : Hid (wA.ownsRow 0 38 8 (.slice aA cv cA) (ps.take cv).length (flatE (ps.take cv))) := HrA
          have HBB : Hid (Below w4.heap.size w4 wA) := HBA
          generalize wA = wB at HRB HrB HBB ⊢
        case' s10_2 =>
          go_simp
          have HRu : Hid (RowE (wd.alloc (.cells #[.int .i64 ew, .int .i64 ei, .int .u64 ep, .int .i64 et, .int .i64 eu, .int .i64 en, .slice ax eb.length cx, .int .u64 eg] 38)) (.slice (some ⟨wd.heap.size, 0, none⟩) 1 1) [((⟨ew, ei, ep, et, eu, en, eb, eg⟩ : Ent), (.slice ax eb.length cx : Value))]) := HR1.out wd
          have HBu : Hid (Below w4.heap.size w4 (wd.alloc (.cells #[.int .i64 ew, .int .i64 ei, .int .u64 ep, .int .i64 et, .int .i64 eu, .int .i64 en, .slice ax eb.length cx, .int .u64 eg] 38))) := (show Below _ _ _ from balloc HBd.out _)
          have HZ2 : Hid (wd.heap.size < (wd.alloc (.cells #[.int .i64 ew, .int .i64 ei, .int .u64 ep, .int .i64 et, .int .i64 eu, .int .i64 en, .slice ax eb.length cx, .int .u64 eg] 38)).heap.size) := (show _ < _ from by simp)
          refine ⟨⟨⟨_, HBu.out⟩, rfl⟩, ?_⟩
          generalize wd.heap.size = e0 at HRu HZ2 ⊢
          generalize wd.alloc (.cells #[.int .i64 ew, .int .i64 ei, .int .u64 ep, .int .i64 et, .int .i64 eu, .int .i64 en, .slice ax eb.length cx, .int .u64 eg] 38) = u1 at HRu HBu HZ2 ⊢
          refine tree_one rfl rfl ?_
          go_simp
          have HOv : Hid ((u1.alloc (.cells #[] 38)).ownsRow 0 38 8 (.slice (some ⟨u1.heap.size, 0, none⟩) 0 0) ([] : List (Ent × Value)).length (flatE [])) := ⟨rfl, .inr ⟨u1.heap.size, 0, #[], rfl, Nat.zero_le _, heap_alloc_new u1 _, Nat.le_refl _, Nat.zero_le _, rfl, rfl⟩⟩
          have HBv : Hid (Below w4.heap.size w4 (u1.alloc (.cells #[] 38))) := (show Below _ _ _ from balloc HBu.out _)
          have HRv : Hid (RowE (u1.alloc (.cells #[] 38)) (.slice (some ⟨e0, 0, none⟩) 1 1) [((⟨ew, ei, ep, et, eu, en, eb, eg⟩ : Ent), (.slice ax eb.length cx : Value))]) := HRu.out.below (balloc (Below.refl _ _) _)
          have HZ : Hid (w4.heap.size ≤ u1.heap.size) := HBu.out.size
          refine ⟨⟨⟨_, HBv.out⟩, rfl⟩, ?_⟩
          have HNe : Hid (e0 ≠ u1.heap.size) := (show _ ≠ _ from by have := HZ2.out; omega)
          generalize u1.heap.size = z0 at HOv HZ HNe ⊢
          generalize u1.alloc (.cells #[] 38) = u2 at HOv HBv HRv ⊢
          refine tree_one rfl rfl ?_
          refine wp_of_list rfl ?_
          refine wpList_append_ents rfl (.tmp 58) (.tmp 64) rfl _ [] rfl HOv.out _ (ps.take cv) rfl (RowE.take (HRw.out _ (bnext HBw.out HBv.out)).2 (by omega)) (fun u hu => HOne.out u (by rw [← flatE_take] at hu; exact List.mem_of_mem_take hu)) (by simp; omega) ?_
          intro vA wA hrA hgA hwA
          rw [List.nil_append] at hrA
          have HrA : Hid (wA.ownsRow 0 38 8 vA (ps.take cv).length (flatE (ps.take cv))) := hrA
          have HBA : Hid (Below w4.heap.size w4 wA) := bgrown HBv.out HZ.out hgA
          have HgA : Hid (_) := hgA
          have HnA : Hid (∀ i, vA.ownBlock = some i → w4.heap.size ≤ i) := fun i hi => by
            rcases hwA i hi with r | r
            · cases r
              exact HZ.out
            · exact Nat.le_trans HBv.out.size r
          obtain ⟨aA, cA, hvA, _⟩ := slice_of_own hrA
          have hnl : (ps.take cv).length = cv := by rw [List.length_take]; omega
          rw [hnl] at hvA
          subst hvA
          clear hrA hgA hwA hnl
          refine ⟨rfl, ⟨⟨wA, HBA.out⟩, rfl⟩, ?_⟩
          go_simp
          have HRB : Hid (RowE wA (.slice (some ⟨e0, 0, none⟩) 1 1) [((⟨ew, ei, ep, et, eu, en, eb, eg⟩ : Ent), (.slice ax eb.length cx : Value))]) := HRv.out.blocks (fun i hi hlt => HgA.out.block i hlt (fun e' => by cases hi; have h2 : e0 = z0 := Option.some.inj e'; have := HNe.out; omega))
          have HrB : Hid (wA.ownsRow 0 38 8 (.slice aA cv cA) (ps.take cv).length (flatE (ps.take cv))) := HrA
          have HBB : Hid (Below w4.heap.size w4 wA) := HBA
          generalize wA = wB at HRB HrB HBB ⊢
        all_goals
          refine tree_one rfl rfl ?_
          refine wp_of_list rfl ?_
          refine wpList_append_ents rfl (.tmp 65) (.tmp 67) rfl _ (ps.take cv) rfl HrB.out _ [((⟨ew, ei, ep, et, eu, en, eb, eg⟩ : Ent), (.slice ax eb.length cx : Value))] rfl HRB.out HOx.out (by rw [List.length_take]; simp; omega) ?_
          intro vC wC hrC hgC hwC
          have HrC : Hid (wC.ownsRow 0 38 8 vC (ps.take cv ++ [((⟨ew, ei, ep, et, eu, en, eb, eg⟩ : Ent), (.slice ax eb.length cx : Value))]).length (flatE (ps.take cv ++ [((⟨ew, ei, ep, et, eu, en, eb, eg⟩ : Ent), (.slice ax eb.length cx : Value))]))) := hrC
          have HBC : Hid (Below w4.heap.size w4 wC) := (show Below _ _ _ from HBB.out.grown hgC HBB.out.size (fun i hi => HnA.out i hi))
          have HnC : Hid (∀ i, vC.ownBlock = some i → w4.heap.size ≤ i) := fun i hi => by
            rcases hwC i hi with r | r
            · exact HnA.out i r
            · exact Nat.le_trans HBB.out.size r
          obtain ⟨aC, cC, hvC, _⟩ := slice_of_own hrC
          rw [show (ps.take cv ++ [((⟨ew, ei, ep, et, eu, en, eb, eg⟩ : Ent), (.slice ax eb.length cx : Value))]).length = cv + 1 by rw [List.length_append, List.length_take]; simp; omega] at hvC
          subst hvC
          clear hrC hgC hwC
          refine ⟨rfl, ⟨⟨wC, HBC.out⟩, rfl⟩, ?_⟩
          go_simp
          refine tree_one rfl rfl ?_
          refine wp_of_list rfl ?_
          have HRD := (show RowE wC (.slice av 0 0) (ps.drop cv) from by have h9 := RowE.drop0 (HRw.out wC (bnext HBw.out HBC.out)).2 (by omega); rw [show ps.length - cv = 0 by omega] at h9; exact h9)
          refine wpList_append_ents rfl (.tmp 68) (.tmp 74) rfl _ (ps.take cv ++ [((⟨ew, ei, ep, et, eu, en, eb, eg⟩ : Ent), (.slice ax eb.length cx : Value))]) rfl HrC.out _ (ps.drop cv) rfl (by first | exact HRD | (have h9 := HRD; rw [Option.map_some, Addr.add_lit] at h9; exact h9)) (fun u hu => HOne.out u (by rw [← flatE_drop] at hu; exact List.mem_of_mem_drop hu)) (by simp; omega) ?_
          intro vD wD hrD hgD hwD
          have HrD : Hid (wD.ownsRow 0 38 8 vD (ps.take cv ++ [((⟨ew, ei, ep, et, eu, en, eb, eg⟩ : Ent), (.slice ax eb.length cx : Value))] ++ ps.drop cv).length (flatE (ps.take cv ++ [((⟨ew, ei, ep, et, eu, en, eb, eg⟩ : Ent), (.slice ax eb.length cx : Value))] ++ ps.drop cv))) := hrD
          have HBD : Hid (Below w4.heap.size w4 wD) := (show Below _ _ _ from HBC.out.grown hgD HBC.out.size (fun i hi => HnC.out i hi))
          have HnD : Hid (∀ i, vD.ownBlock = some i → w.heap.size ≤ i) := fun i hi => by
            have hsz := HBw.out.size
            rcases hwD i hi with r | r
            · exact Nat.le_trans hsz (HnC.out i r)
            · exact Nat.le_trans hsz (Nat.le_trans HBC.out.size r)
          have HE := HPE.out wD vD cv (bnext HBw.out HBD.out) HrD.out HnD.out HIns.out
          have BD := (HRw.out wD (bnext HBw.out HBD.out)).1
          have b1 := BD.cell 1 _ rfl
          have g1 := BD.frozen 1
          obtain ⟨aD, cD, hvD, _⟩ := slice_of_own hrD
          generalize (ps.take cv ++ [((⟨ew, ei, ep, et, eu, en, eb, eg⟩ : Ent), (.slice ax eb.length cx : Value))] ++ ps.drop cv).length = nD at hvD
          subst hvD
          have HE' : Hid (_) := HE
          clear hrD hgD hwD HE BD HRD
          refine ⟨rfl, ⟨⟨wD, HBD.out⟩, rfl⟩, ?_⟩
          go_simp
          refine tree_one rfl rfl ?_
          go_simp
          refine ⟨⟨⟨wD, HBD.out⟩, rfl⟩, ?_⟩
          refine tree_still rfl rfl ?_
          go_big_quiet_step (fail)
          refine wpQuiet_nil ?_
          refine tree_done ?_
          refine ⟨rfl, ?_⟩
          go_simp
          clear c0 c1 c2 c3 c4 c5 c6 c7 l1 ne
          go_wp2
          go_ret
          exact ⟨rfl, HE'.out⟩

      · have hck2 : ¬ k = cv := fun e => hck e.symm
        iterate 14 (refine tree_still rfl rfl ?_; go_big_quiet_step (fail); refine wpQuiet_nil ?_)
        refine tree_two rfl rfl rfl rfl ?s1_3 ?s10_3
        case' s1_3 =>
          go_simp
          have HBu : Hid (Below w4.heap.size w4 (wd.alloc (.cells #[] 38))) := (show Below _ _ _ from balloc HBd.out _)
          have HOu : Hid ((wd.alloc (.cells #[] 38)).ownsRow 0 38 8 (.slice (some ⟨wd.heap.size, 0, none⟩) 0 0) ([] : List (Ent × Value)).length (flatE [])) := ⟨rfl, .inr ⟨wd.heap.size, 0, #[], rfl, Nat.zero_le _, heap_alloc_new wd _, Nat.le_refl _, Nat.zero_le _, rfl, rfl⟩⟩
          have HZ : Hid (w4.heap.size ≤ wd.heap.size) := HBd.out.size
          have HZ2 : Hid (wd.heap.size < (wd.alloc (.cells #[] 38)).heap.size) := (show _ < _ from by simp)
          refine ⟨⟨⟨_, HBu.out⟩, rfl⟩, ?_⟩
          generalize wd.heap.size = z0 at HOu HZ HZ2 ⊢
          generalize wd.alloc (.cells #[] 38) = u1 at HBu HOu HZ2 ⊢
          refine tree_two rfl rfl rfl rfl ?s18_3 ?s110_3
        case' s18_3 =>
          refine wp_of_list rfl ?_
          refine wpList_append_ents rfl (.tmp 58) (.tmp 64) rfl _ [] rfl HOu.out _ (ps.take k) rfl (RowE.take (HRw.out _ (bnext HBw.out HBu.out)).2 (by omega)) (fun u hu => HOne.out u (by rw [← flatE_take] at hu; exact List.mem_of_mem_take hu)) (by simp; omega) ?_
          intro vA wA hrA hgA hwA
          rw [List.nil_append] at hrA
          have HrA : Hid (wA.ownsRow 0 38 8 vA (ps.take k).length (flatE (ps.take k))) := hrA
          have HBA : Hid (Below w4.heap.size w4 wA) := bgrown HBu.out HZ.out hgA
          have HgA : Hid (_) := hgA
          have HnA : Hid (∀ i, vA.ownBlock = some i → w4.heap.size ≤ i) := fun i hi => by
            rcases hwA i hi with r | r
            · cases r
              exact HZ.out
            · exact Nat.le_trans HBu.out.size r
          obtain ⟨aA, cA, hvA, _⟩ := slice_of_own hrA
          have hnl : (ps.take k).length = k := by rw [List.length_take]; omega
          rw [hnl] at hvA
          subst hvA
          clear hrA hgA hwA hnl
          refine ⟨rfl, ⟨⟨wA, HBA.out⟩, rfl⟩, ?_⟩
          go_simp
          refine tree_one rfl rfl ?_
          go_simp
          have HRB : Hid (RowE (wA.alloc (.cells #[.int .i64 ew, .int .i64 ei, .int .u64 ep, .int .i64 et, .int .i64 eu, .int .i64 en, .slice ax eb.length cx, .int .u64 eg] 38)) (.slice (some ⟨wA.heap.size, 0, none⟩) 1 1) [((⟨ew, ei, ep, et, eu, en, eb, eg⟩ : Ent), (.slice ax eb.length cx : Value))]) := HR1.out wA
          have HrB : Hid ((wA.alloc (.cells #[.int .i64 ew, .int .i64 ei, .int .u64 ep, .int .i64 et, .int .i64 eu, .int .i64 en, .slice ax eb.length cx, .int .u64 eg] 38)).ownsRow 0 38 8 (.slice aA k cA) (ps.take k).length (flatE (ps.take k))) := HrA.out.alloc _
          have HBB : Hid (Below w4.heap.size w4 (wA.alloc (.cells #[.int .i64 ew, .int .i64 ei, .int .u64 ep, .int .i64 et, .int .i64 eu, .int .i64 en, .slice ax eb.length cx, .int .u64 eg] 38))) := (show Below _ _ _ from balloc HBA.out _)
          refine ⟨⟨⟨_, HBB.out⟩, rfl⟩, ?_⟩
          generalize wA.heap.size = e0 at HRB ⊢
          generalize wA.alloc (.cells #[.int .i64 ew, .int .i64 ei, .int .u64 ep, .int .i64 et, .int .i64 eu, .int .i64 en, .slice ax eb.length cx, .int .u64 eg] 38) = wB at HRB HrB HBB ⊢
        case' s110_3 =>
          go_simp
          have HRu : Hid (RowE (u1.alloc (.cells #[.int .i64 ew, .int .i64 ei, .int .u64 ep, .int .i64 et, .int .i64 eu, .int .i64 en, .slice ax eb.length cx, .int .u64 eg] 38)) (.slice (some ⟨u1.heap.size, 0, none⟩) 1 1) [((⟨ew, ei, ep, et, eu, en, eb, eg⟩ : Ent), (.slice ax eb.length cx : Value))]) := HR1.out u1
          have HOv : Hid ((u1.alloc (.cells #[.int .i64 ew, .int .i64 ei, .int .u64 ep, .int .i64 et, .int .i64 eu, .int .i64 en, .slice ax eb.length cx, .int .u64 eg] 38)).ownsRow 0 38 8 (.slice (some ⟨z0, 0, none⟩) 0 0) ([] : List (Ent × Value)).length (flatE [])) := HOu.out.alloc _
          have HBv : Hid (Below w4.heap.size w4 (u1.alloc (.cells #[.int .i64 ew, .int .i64 ei, .int .u64 ep, .int .i64 et, .int .i64 eu, .int .i64 en, .slice ax eb.length cx, .int .u64 eg] 38))) := (show Below _ _ _ from balloc HBu.out _)
          refine ⟨⟨⟨_, HBv.out⟩, rfl⟩, ?_⟩
          have HNe : Hid (u1.heap.size ≠ z0) := (show _ ≠ _ from by have := HZ2.out; omega)
          generalize u1.heap.size = e0 at HRu HNe ⊢
          generalize u1.alloc (.cells #[.int .i64 ew, .int .i64 ei, .int .u64 ep, .int .i64 et, .int .i64 eu, .int .i64 en, .slice ax eb.length cx, .int .u64 eg] 38) = u2 at HRu HOv HBv ⊢
          refine tree_one rfl rfl ?_
          refine wp_of_list rfl ?_
          refine wpList_append_ents rfl (.tmp 58) (.tmp 64) rfl _ [] rfl HOv.out _ (ps.take k) rfl (RowE.take (HRw.out _ (bnext HBw.out HBv.out)).2 (by omega)) (fun u hu => HOne.out u (by rw [← flatE_take] at hu; exact List.mem_of_mem_take hu)) (by simp; omega) ?_
          intro vA wA hrA hgA hwA
          rw [List.nil_append] at hrA
          have HrA : Hid (wA.ownsRow 0 38 8 vA (ps.take k).length (flatE (ps.take k))) := hrA
          have HBA : Hid (Below w4.heap.size w4 wA) := bgrown HBv.out HZ.out hgA
          have HgA : Hid (_) := hgA
          have HnA : Hid (∀ i, vA.ownBlock = some i → w4.heap.size ≤ i) := fun i hi => by
            rcases hwA i hi with r | r
            · cases r
              exact HZ.out
            · exact Nat.le_trans HBv.out.size r
          obtain ⟨aA, cA, hvA, _⟩ := slice_of_own hrA
          have hnl : (ps.take k).length = k := by rw [List.length_take]; omega
          rw [hnl] at hvA
          subst hvA
          clear hrA hgA hwA hnl
          refine ⟨rfl, ⟨⟨wA, HBA.out⟩, rfl⟩, ?_⟩
          go_simp
          have HRB : Hid (RowE wA (.slice (some ⟨e0, 0, none⟩) 1 1) [((⟨ew, ei, ep, et, eu, en, eb, eg⟩ : Ent), (.slice ax eb.length cx : Value))]) := HRu.out.blocks (fun i hi hlt => HgA.out.block i hlt (fun e' => by cases hi; have h2 : e0 = z0 := Option.some.inj e'; have := HNe.out; omega))
          have HrB : Hid (wA.ownsRow 0 38 8 (.slice aA k cA) (ps.take k).length (flatE (ps.take k))) := HrA
          have HBB : Hid (Below w4.heap.size w4 wA) := HBA
          generalize wA = wB at HRB HrB HBB ⊢
        case' s10_3 =>
          go_simp
          have HRu : Hid (RowE (wd.alloc (.cells #[.int .i64 ew, .int .i64 ei, .int .u64 ep, .int .i64 et, .int .i64 eu, .int .i64 en, .slice ax eb.length cx, .int .u64 eg] 38)) (.slice (some ⟨wd.heap.size, 0, none⟩) 1 1) [((⟨ew, ei, ep, et, eu, en, eb, eg⟩ : Ent), (.slice ax eb.length cx : Value))]) := HR1.out wd
          have HBu : Hid (Below w4.heap.size w4 (wd.alloc (.cells #[.int .i64 ew, .int .i64 ei, .int .u64 ep, .int .i64 et, .int .i64 eu, .int .i64 en, .slice ax eb.length cx, .int .u64 eg] 38))) := (show Below _ _ _ from balloc HBd.out _)
          have HZ2 : Hid (wd.heap.size < (wd.alloc (.cells #[.int .i64 ew, .int .i64 ei, .int .u64 ep, .int .i64 et, .int .i64 eu, .int .i64 en, .slice ax eb.length cx, .int .u64 eg] 38)).heap.size) := (show _ < _ from by simp)
          refine ⟨⟨⟨_, HBu.out⟩, rfl⟩, ?_⟩
          generalize wd.heap.size = e0 at HRu HZ2 ⊢
          generalize wd.alloc (.cells #[.int .i64 ew, .int .i64 ei, .int .u64 ep, .int .i64 et, .int .i64 eu, .int .i64 en, .slice ax eb.length cx, .int .u64 eg] 38) = u1 at HRu HBu HZ2 ⊢
          refine tree_one rfl rfl ?_
          go_simp
          have HOv : Hid ((u1.alloc (.cells #[] 38)).ownsRow 0 38 8 (.slice (some ⟨u1.heap.size, 0, none⟩) 0 0) ([] : List (Ent × Value)).length (flatE [])) := ⟨rfl, .inr ⟨u1.heap.size, 0, #[], rfl, Nat.zero_le _, heap_alloc_new u1 _, Nat.le_refl _, Nat.zero_le _, rfl, rfl⟩⟩
          have HBv : Hid (Below w4.heap.size w4 (u1.alloc (.cells #[] 38))) := (show Below _ _ _ from balloc HBu.out _)
          have HRv : Hid (RowE (u1.alloc (.cells #[] 38)) (.slice (some ⟨e0, 0, none⟩) 1 1) [((⟨ew, ei, ep, et, eu, en, eb, eg⟩ : Ent), (.slice ax eb.length cx : Value))]) := HRu.out.below (balloc (Below.refl _ _) _)
          have HZ : Hid (w4.heap.size ≤ u1.heap.size) := HBu.out.size
          refine ⟨⟨⟨_, HBv.out⟩, rfl⟩, ?_⟩
          have HNe : Hid (e0 ≠ u1.heap.size) := (show _ ≠ _ from by have := HZ2.out; omega)
          generalize u1.heap.size = z0 at HOv HZ HNe ⊢
          generalize u1.alloc (.cells #[] 38) = u2 at HOv HBv HRv ⊢
          refine tree_one rfl rfl ?_
          refine wp_of_list rfl ?_
          refine wpList_append_ents rfl (.tmp 58) (.tmp 64) rfl _ [] rfl HOv.out _ (ps.take k) rfl (RowE.take (HRw.out _ (bnext HBw.out HBv.out)).2 (by omega)) (fun u hu => HOne.out u (by rw [← flatE_take] at hu; exact List.mem_of_mem_take hu)) (by simp; omega) ?_
          intro vA wA hrA hgA hwA
          rw [List.nil_append] at hrA
          have HrA : Hid (wA.ownsRow 0 38 8 vA (ps.take k).length (flatE (ps.take k))) := hrA
          have HBA : Hid (Below w4.heap.size w4 wA) := bgrown HBv.out HZ.out hgA
          have HgA : Hid (_) := hgA
          have HnA : Hid (∀ i, vA.ownBlock = some i → w4.heap.size ≤ i) := fun i hi => by
            rcases hwA i hi with r | r
            · cases r
              exact HZ.out
            · exact Nat.le_trans HBv.out.size r
          obtain ⟨aA, cA, hvA, _⟩ := slice_of_own hrA
          have hnl : (ps.take k).length = k := by rw [List.length_take]; omega
          rw [hnl] at hvA
          subst hvA
          clear hrA hgA hwA hnl
          refine ⟨rfl, ⟨⟨wA, HBA.out⟩, rfl⟩, ?_⟩
          go_simp
          have HRB : Hid (RowE wA (.slice (some ⟨e0, 0, none⟩) 1 1) [((⟨ew, ei, ep, et, eu, en, eb, eg⟩ : Ent), (.slice ax eb.length cx : Value))]) := HRv.out.blocks (fun i hi hlt => HgA.out.block i hlt (fun e' => by cases hi; have h2 : e0 = z0 := Option.some.inj e'; have := HNe.out; omega))
          have HrB : Hid (wA.ownsRow 0 38 8 (.slice aA k cA) (ps.take k).length (flatE (ps.take k))) := HrA
          have HBB : Hid (Below w4.heap.size w4 wA) := HBA
          generalize wA = wB at HRB HrB HBB ⊢
        all_goals
          refine tree_one rfl rfl ?_
          refine wp_of_list rfl ?_
          refine wpList_append_ents rfl (.tmp 65) (.tmp 67) rfl _ (ps.take k) rfl HrB.out _ [((⟨ew, ei, ep, et, eu, en, eb, eg⟩ : Ent), (.slice ax eb.length cx : Value))] rfl HRB.out HOx.out (by rw [List.length_take]; simp; omega) ?_
          intro vC wC hrC hgC hwC
          have HrC : Hid (wC.ownsRow 0 38 8 vC (ps.take k ++ [((⟨ew, ei, ep, et, eu, en, eb, eg⟩ : Ent), (.slice ax eb.length cx : Value))]).length (flatE (ps.take k ++ [((⟨ew, ei, ep, et, eu, en, eb, eg⟩ : Ent), (.slice ax eb.length cx : Value))]))) := hrC
          have HBC : Hid (Below w4.heap.size w4 wC) := (show Below _ _ _ from HBB.out.grown hgC HBB.out.size (fun i hi => HnA.out i hi))
          have HnC : Hid (∀ i, vC.ownBlock = some i → w4.heap.size ≤ i) := fun i hi => by
            rcases hwC i hi with r | r
            · exact HnA.out i r
            · exact Nat.le_trans HBB.out.size r
          obtain ⟨aC, cC, hvC, _⟩ := slice_of_own hrC
          rw [show (ps.take k ++ [((⟨ew, ei, ep, et, eu, en, eb, eg⟩ : Ent), (.slice ax eb.length cx : Value))]).length = k + 1 by rw [List.length_append, List.length_take]; simp; omega] at hvC
          subst hvC
          clear hrC hgC hwC
          refine ⟨rfl, ⟨⟨wC, HBC.out⟩, rfl⟩, ?_⟩
          go_simp
          refine tree_one rfl rfl ?_
          refine wp_of_list rfl ?_
          have HRD := RowE.drop (HRw.out wC (bnext HBw.out HBC.out)).2 (k := k) (by omega) hck
          refine wpList_append_ents rfl (.tmp 68) (.tmp 74) rfl _ (ps.take k ++ [((⟨ew, ei, ep, et, eu, en, eb, eg⟩ : Ent), (.slice ax eb.length cx : Value))]) rfl HrC.out _ (ps.drop k) rfl (by first | exact HRD | (have h9 := HRD; rw [Option.map_some, Addr.add_lit] at h9; exact h9)) (fun u hu => HOne.out u (by rw [← flatE_drop] at hu; exact List.mem_of_mem_drop hu)) (by simp; omega) ?_
          intro vD wD hrD hgD hwD
          have HrD : Hid (wD.ownsRow 0 38 8 vD (ps.take k ++ [((⟨ew, ei, ep, et, eu, en, eb, eg⟩ : Ent), (.slice ax eb.length cx : Value))] ++ ps.drop k).length (flatE (ps.take k ++ [((⟨ew, ei, ep, et, eu, en, eb, eg⟩ : Ent), (.slice ax eb.length cx : Value))] ++ ps.drop k))) := hrD
          have HBD : Hid (Below w4.heap.size w4 wD) := (show Below _ _ _ from HBC.out.grown hgD HBC.out.size (fun i hi => HnC.out i hi))
          have HnD : Hid (∀ i, vD.ownBlock = some i → w.heap.size ≤ i) := fun i hi => by
            have hsz := HBw.out.size
            rcases hwD i hi with r | r
            · exact Nat.le_trans hsz (HnC.out i r)
            · exact Nat.le_trans hsz (Nat.le_trans HBC.out.size r)
          have HE := HPE.out wD vD k (bnext HBw.out HBD.out) HrD.out HnD.out HIns.out
          have BD := (HRw.out wD (bnext HBw.out HBD.out)).1
          have b1 := BD.cell 1 _ rfl
          have g1 := BD.frozen 1
          obtain ⟨aD, cD, hvD, _⟩ := slice_of_own hrD
          generalize (ps.take k ++ [((⟨ew, ei, ep, et, eu, en, eb, eg⟩ : Ent), (.slice ax eb.length cx : Value))] ++ ps.drop k).length = nD at hvD
          subst hvD
          have HE' : Hid (_) := HE
          clear hrD hgD hwD HE BD HRD
          refine ⟨rfl, ⟨⟨wD, HBD.out⟩, rfl⟩, ?_⟩
          go_simp
          refine tree_one rfl rfl ?_
          go_simp
          refine ⟨⟨⟨wD, HBD.out⟩, rfl⟩, ?_⟩
          refine tree_still rfl rfl ?_
          go_big_quiet_step (fail)
          refine wpQuiet_nil ?_
          refine tree_done ?_
          refine ⟨rfl, ?_⟩
          go_simp
          clear c0 c1 c2 c3 c4 c5 c6 c7 l1 ne
          go_wp2
          go_ret
          exact ⟨rfl, HE'.out⟩
end Go.Proofs.Ytigfklcclfpcjaa
