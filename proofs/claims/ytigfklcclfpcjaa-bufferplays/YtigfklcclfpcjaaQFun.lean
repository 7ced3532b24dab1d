/-
  The queue's own functions: put, first, look, take.
-/
import Derived.Test.YtigfklcclfpcjaaHeapP
import Derived.Test.YtigfklcclfpcjaaSeek
namespace Go.Proofs.Ytigfklcclfpcjaa
set_option linter.unusedVariables false
set_option linter.unusedSimpArgs false
set_option synthInstance.maxSize 20000
set_option maxHeartbeats 2000000
set_option maxRecDepth 20000
open Go.RowKit Go.Maps

@[simp] theorem run_assert38 (x : Value) (w : World) : (Instr.typeAssert (.iface 38 x) 20 38 false).run Try.prog w = .ok x w := by kernel_rfl

theorem QMoved.mv {w w2 w' : World} {o o2 : Nat → Nat} {j b : Nat} {T : TypeId} {pre : List Value} {R : List (Ent × Value) → Prop} (m : Mv [j] w o w2 o2) (h : QMoved w2 o2 w' j b T pre R) : QMoved w o w' j b T pre R := by
  obtain ⟨o', qs, h1, h2, h3⟩ := h
  exact ⟨o', qs, h1, m.trans h2, h3⟩
theorem QIs.mv {I : List Nat} {w w' : World} {o o' : Nat → Nat} {j b : Nat} {T : TypeId} {pre : List Value} {ps : List (Ent × Value)} (h : QIs w o j b T pre ps) (m : Mv I w o w' o') (h0 : 0 ∉ I) (hj : j ∉ I) : QIs w' o' j b T pre ps := by
  obtain ⟨v, h⟩ := h
  exact ⟨v, h.mv m h0 hj⟩

theorem put_any {w : World} {o : Nat → Nat} {j b : Nat} {T : TypeId} {pre : List Value} {v : Value} {ps : List (Ent × Value)} {e : Ent} {x : Value} (h : QAt w o j b T pre v ps) (hj0 : j ≠ 0) (he : EOk e) (hx : Kp0 w o x e.b) (hfew : ps.length ≤ 900) (hH : HeapF ltQ (fn zq ps) ps.length) :
    Calls Try.prog 28 #[.pointer (some ⟨b, pre.length, none⟩), ev e x] w fun r w' => r = .returned (.tuple #[]) ∧ QMoved w o w' j b T pre (Heaped (ps ++ [(e, x)])) := by
  have HP := fun (w' : World) (hb : Below w.heap.size w w') => hpush_any (h.below hb) hj0 he (hx.mv (Mv.of_below (I := []) 0 hb) (by simp)) hfew hH
  obtain ⟨ax, cx, hxx⟩ := hx.1.len
  subst hxx
  obtain ⟨ew, ei, ep, et, eu, en, eb, eg⟩ := e
  unfold ev at *
  dsimp only at *
  have HHP : Hid (_) := HP
  clear HP h hx he hH
  generalize pre.length = off at *
  go_enter Try.func28, Try.ntmps28
  go_wp2_with (go_at_call 45; go_must (refine (HHP.out _ (balloc (Below.refl _ _) _)).mono ?_; rintro r w2 ⟨rfl, hq⟩))
  refine bodyPost_end (results_none rfl _ _ _) rfl ⟨rfl, hq.mv (Mv.of_below 0 (balloc (Below.refl _ _) _))⟩

theorem firstQ_any {w : World} {o : Nat → Nat} {j b : Nat} {T : TypeId} {pre : List Value} {v : Value} {ps : List (Ent × Value)} {q : Ent × Value} (h : QAt w o j b T pre v ps) (hq : ps[0]? = some q) :
    Calls Try.prog 37 #[.pointer (some ⟨b, pre.length, none⟩)] w fun r w' => r = .returned (ev q.1 q.2) ∧ Below w.heap.size w w' := by
  obtain ⟨w1, hw1⟩ : ∃ w1, w1 = w.alloc (.cells #[.int .i64 0, .int .i64 0, .int .u64 0, .int .i64 0, .int .i64 0, .int .i64 0, .slice none 0 0, .int .u64 0] 38) := ⟨_, rfl⟩
  have hb1 : Below w.heap.size w w1 := by rw [hw1]; exact balloc (Below.refl _ _) _
  have X1 : Blk w1 w.heap.size 38 [.int .i64 0, .int .i64 0, .int .u64 0, .int .i64 0, .int .i64 0, .int .i64 0, .slice none 0 0, .int .u64 0] := by rw [hw1]; exact blk_new w _ 38
  have h1 := h.below hb1
  have hpos : 0 < ps.length := (List.getElem?_eq_some_iff.1 hq).1
  have hc0 := h1.cell
  have hrow := h1.rowE
  obtain ⟨av, cap, hvv⟩ := hrow.len
  subst hvv
  obtain ⟨g, off, ea, hc⟩ := hrow.at hq
  subst ea
  have hcap := hrow.cap
  obtain ⟨ax, cx, hxx⟩ := (h.ents q (List.mem_of_getElem? hq)).2.1.len
  obtain ⟨e, x⟩ := q
  dsimp only at *
  subst hxx
  obtain ⟨ew, ei, ep, et, eu, en, eb, eg⟩ := e
  unfold ec at hc
  unfold ev
  dsimp only at *
  have c0 := hc 0 _ rfl; have c1 := hc 1 _ rfl; have c2 := hc 2 _ rfl; have c3 := hc 3 _ rfl; have c4 := hc 4 _ rfl; have c5 := hc 5 _ rfl; have c6 := hc 6 _ rfl; have c7 := hc 7 _ rfl
  have z0 := X1.cell 0 _ rfl; have z1 := X1.cell 1 _ rfl; have z2 := X1.cell 2 _ rfl; have z3 := X1.cell 3 _ rfl; have z4 := X1.cell 4 _ rfl; have z5 := X1.cell 5 _ rfl; have z6 := X1.cell 6 _ rfl; have z7 := X1.cell 7 _ rfl
  have f0 := X1.frozen 0; have f1 := X1.frozen 1; have f2 := X1.frozen 2; have f3 := X1.frozen 3; have f4 := X1.frozen 4; have f5 := X1.frozen 5; have f6 := X1.frozen 6; have f7 := X1.frozen 7
  simp only [Nat.add_zero, Nat.zero_mul] at c0 c1 c2 c3 c4 c5 c6 c7
  have HB1 : Hid (Below w.heap.size w w1) := hb1
  have HSz : Hid (w.heap.size < w1.heap.size) := X1.lt
  have HW1 : Hid (_ = _) := hw1
  clear h h1 hb1 X1 hrow hc hq hw1
  generalize pre.length = po at *
  go_enter Try.func37, Try.ntmps37
  go_upto_region 1 with fail
  rw [← HW1.out]
  clear HW1
  obtain ⟨n, hn⟩ : ∃ n, n = w.heap.size := ⟨_, rfl⟩
  rw [← hn] at z0 z1 z2 z3 z4 z5 z6 z7 f0 f1 f2 f3 f4 f5 f6 f7 ⊢
  have HNN : Hid (n = w.heap.size) := hn
  clear hn
  go_wp2
  have G := grown_set8 w1 n (.int .i64 ew) (.int .i64 ei) (.int .u64 ep) (.int .i64 et) (.int .i64 eu) (.int .i64 en) (.slice ax eb.length cx) (.int .u64 eg)
  refine bodyPost_ret (v := .agg #[.int .i64 ew, .int .i64 ei, .int .u64 ep, .int .i64 et, .int .i64 eu, .int .i64 en, .slice ax eb.length cx, .int .u64 eg]) ?_ rfl ⟨rfl, ?_⟩
  · rw [results_cell1 rfl]
    go_simp
  · exact bgrown HB1.out (by have := HNN.out; omega) G

theorem look_none {w : World} {o : Nat → Nat} {j b : Nat} {T : TypeId} {pre : List Value} {v : Value} {ps : List (Ent × Value)} {fv : Value} (h : QAt w o j b T pre v ps)
    (IX : ∀ w', Below w.heap.size w w' → Calls Try.prog 48 #[v, fv] w' fun r w'' => r = .returned (.int .i64 (-1)) ∧ Below w'.heap.size w' w'') :
    Calls Try.prog 42 #[.pointer (some ⟨b, pre.length, none⟩), fv] w fun r w' => r = .returned (.tuple #[ev zeroE (.slice none 0 0), .bool false]) ∧ Below w.heap.size w w' := by
  obtain ⟨w1, hw1⟩ : ∃ w1, w1 = w.alloc (.cells #[.int .i64 0, .int .i64 0, .int .u64 0, .int .i64 0, .int .i64 0, .int .i64 0, .slice none 0 0, .int .u64 0] 38) := ⟨_, rfl⟩
  have hb1 : Below w.heap.size w w1 := by rw [hw1]; exact balloc (Below.refl _ _) _
  have X1 : Blk w1 w.heap.size 38 [.int .i64 0, .int .i64 0, .int .u64 0, .int .i64 0, .int .i64 0, .int .i64 0, .slice none 0 0, .int .u64 0] := by rw [hw1]; exact blk_new w _ 38
  have hc0 := (h.below hb1).cell
  have I1 := IX w1 hb1
  have HI : Hid (Calls _ _ _ _ _) := I1
  have HX1 : Hid (Blk w1 w.heap.size 38 [.int .i64 0, .int .i64 0, .int .u64 0, .int .i64 0, .int .i64 0, .int .i64 0, .slice none 0 0, .int .u64 0]) := X1
  have HB1 : Hid (Below w.heap.size w w1) := hb1
  have HW1 : Hid (_ = _) := hw1
  unfold ev zeroE
  dsimp only
  clear h IX I1 X1 hb1 hw1
  generalize pre.length = po at *
  go_enter Try.func42, Try.ntmps42
  go_upto_region 1 with fail
  rw [← HW1.out]
  clear HW1
  obtain ⟨n, hn⟩ : ∃ n, n = w.heap.size := ⟨_, rfl⟩
  rw [← hn] at HX1 ⊢
  have HNN : Hid (n = w.heap.size) := hn
  clear hn
  go_wp2_with (go_at_call 48; go_must (refine HI.out.mono ?_; rintro r w2 ⟨rfl, hb2⟩; have X2 := HX1.out.below hb2; have z0 := X2.cell 0 _ rfl; have z1 := X2.cell 1 _ rfl; have z2 := X2.cell 2 _ rfl; have z3 := X2.cell 3 _ rfl; have z4 := X2.cell 4 _ rfl; have z5 := X2.cell 5 _ rfl; have z6 := X2.cell 6 _ rfl; have z7 := X2.cell 7 _ rfl; have f0 := X2.frozen 0; have f1 := X2.frozen 1; have f2 := X2.frozen 2; have f3 := X2.frozen 3; have f4 := X2.frozen 4; have f5 := X2.frozen 5; have f6 := X2.frozen 6; have f7 := X2.frozen 7; have HB2 : Hid (Below w1.heap.size w1 w2) := hb2; clear hb2 X2))
  have G := grown_set8 w2 n (.int .i64 0) (.int .i64 0) (.int .u64 0) (.int .i64 0) (.int .i64 0) (.int .i64 0) (.slice none 0 0) (.int .u64 0)
  refine bodyPost_ret (v := .tuple #[.agg #[.int .i64 0, .int .i64 0, .int .u64 0, .int .i64 0, .int .i64 0, .int .i64 0, .slice none 0 0, .int .u64 0], .bool false]) ?_ rfl ⟨rfl, ?_⟩
  · rw [results_cell_tmp rfl]
    go_simp
  · exact bgrown (bnext HB1.out HB2.out) (by have := HNN.out; omega) G

theorem look_hit {w : World} {o : Nat → Nat} {j b : Nat} {T : TypeId} {pre : List Value} {v : Value} {ps : List (Ent × Value)} {fv : Value} {i : Nat} {q : Ent × Value} (h : QAt w o j b T pre v ps) (hq : ps[i]? = some q)
    (IX : ∀ w', Below w.heap.size w w' → Calls Try.prog 48 #[v, fv] w' fun r w'' => r = .returned (.int .i64 (i : Int)) ∧ Below w'.heap.size w' w'') :
    Calls Try.prog 42 #[.pointer (some ⟨b, pre.length, none⟩), fv] w fun r w' => r = .returned (.tuple #[ev q.1 q.2, .bool true]) ∧ Below w.heap.size w w' := by
  obtain ⟨w1, hw1⟩ : ∃ w1, w1 = w.alloc (.cells #[.int .i64 0, .int .i64 0, .int .u64 0, .int .i64 0, .int .i64 0, .int .i64 0, .slice none 0 0, .int .u64 0] 38) := ⟨_, rfl⟩
  have hb1 : Below w.heap.size w w1 := by rw [hw1]; exact balloc (Below.refl _ _) _
  have X1 : Blk w1 w.heap.size 38 [.int .i64 0, .int .i64 0, .int .u64 0, .int .i64 0, .int .i64 0, .int .i64 0, .slice none 0 0, .int .u64 0] := by rw [hw1]; exact blk_new w _ 38
  have hi : i < ps.length := (List.getElem?_eq_some_iff.1 hq).1
  have hc0 := (h.below hb1).cell
  have I1 := IX w1 hb1
  have HI : Hid (Calls _ _ _ _ _) := I1
  have HX1 : Hid (Blk w1 w.heap.size 38 [.int .i64 0, .int .i64 0, .int .u64 0, .int .i64 0, .int .i64 0, .int .i64 0, .slice none 0 0, .int .u64 0]) := X1
  have HB1 : Hid (Below w.heap.size w w1) := hb1
  have HW1 : Hid (_ = _) := hw1
  have HR : Hid (∀ w2, Below w1.heap.size w1 w2 → w2.cell? ⟨b, pre.length, none⟩ = some v ∧ RowE w2 v ps) := fun w2 hb2 => ⟨((h.below hb1).below hb2).cell, ((h.below hb1).below hb2).rowE⟩
  have HQ : Hid (ps[i]? = some q) := hq
  obtain ⟨av, cap, hvv⟩ := h.rowE.len
  subst hvv
  have hcap := h.rowE.cap
  obtain ⟨ax, cx, hxx⟩ := (h.ents q (List.mem_of_getElem? hq)).2.1.len
  obtain ⟨e, x⟩ := q
  dsimp only at *
  subst hxx
  obtain ⟨ew, ei, ep, et, eu, en, eb, eg⟩ := e
  unfold ev
  dsimp only at *
  clear h IX I1 X1 hb1 hw1 hq
  generalize pre.length = po at *
  go_enter Try.func42, Try.ntmps42
  go_upto_region 1 with fail
  rw [← HW1.out]
  clear HW1
  obtain ⟨n, hn⟩ : ∃ n, n = w.heap.size := ⟨_, rfl⟩
  rw [← hn] at HX1 ⊢
  have HNN : Hid (n = w.heap.size) := hn
  clear hn
  go_wp2_with (go_at_call 48; go_must (refine HI.out.mono ?_; rintro r w2 ⟨rfl, hb2⟩; have X2 := HX1.out.below hb2; have z0 := X2.cell 0 _ rfl; have z1 := X2.cell 1 _ rfl; have z2 := X2.cell 2 _ rfl; have z3 := X2.cell 3 _ rfl; have z4 := X2.cell 4 _ rfl; have z5 := X2.cell 5 _ rfl; have z6 := X2.cell 6 _ rfl; have z7 := X2.cell 7 _ rfl; have f0 := X2.frozen 0; have f1 := X2.frozen 1; have f2 := X2.frozen 2; have f3 := X2.frozen 3; have f4 := X2.frozen 4; have f5 := X2.frozen 5; have f6 := X2.frozen 6; have f7 := X2.frozen 7; have HB2 : Hid (Below w1.heap.size w1 w2) := hb2; obtain ⟨hc2, hr2⟩ := HR.out w2 hb2; obtain ⟨g, off, ea, hc⟩ := hr2.at HQ.out; subst ea; unfold ec at hc; dsimp only at hc; have c0 := hc 0 _ rfl; have c1 := hc 1 _ rfl; have c2 := hc 2 _ rfl; have c3 := hc 3 _ rfl; have c4 := hc 4 _ rfl; have c5 := hc 5 _ rfl; have c6 := hc 6 _ rfl; have c7 := hc 7 _ rfl; simp only [Nat.add_zero] at c0; clear hb2 X2 hr2 hc))
  have G := grown_set8 w2 n (.int .i64 ew) (.int .i64 ei) (.int .u64 ep) (.int .i64 et) (.int .i64 eu) (.int .i64 en) (.slice ax eb.length cx) (.int .u64 eg)
  refine bodyPost_ret (v := .tuple #[.agg #[.int .i64 ew, .int .i64 ei, .int .u64 ep, .int .i64 et, .int .i64 eu, .int .i64 en, .slice ax eb.length cx, .int .u64 eg], .bool true]) ?_ rfl ⟨rfl, ?_⟩
  · rw [results_cell_tmp rfl]
    go_simp
  · exact bgrown (bnext HB1.out HB2.out) (by have := HNN.out; omega) G

theorem take_none {w : World} {o : Nat → Nat} {j b : Nat} {T : TypeId} {pre : List Value} {v : Value} {ps : List (Ent × Value)} {fv : Value} (h : QAt w o j b T pre v ps)
    (IX : ∀ w', Below w.heap.size w w' → Calls Try.prog 48 #[v, fv] w' fun r w'' => r = .returned (.int .i64 (-1)) ∧ Below w'.heap.size w' w'') :
    Calls Try.prog 33 #[.pointer (some ⟨b, pre.length, none⟩), fv] w fun r w' => r = .returned (.tuple #[ev zeroE (.slice none 0 0), .bool false]) ∧ Below w.heap.size w w' := by
  obtain ⟨w1, hw1⟩ : ∃ w1, w1 = w.alloc (.cells #[.int .i64 0, .int .i64 0, .int .u64 0, .int .i64 0, .int .i64 0, .int .i64 0, .slice none 0 0, .int .u64 0] 38) := ⟨_, rfl⟩
  have hb1 : Below w.heap.size w w1 := by rw [hw1]; exact balloc (Below.refl _ _) _
  have X1 : Blk w1 w.heap.size 38 [.int .i64 0, .int .i64 0, .int .u64 0, .int .i64 0, .int .i64 0, .int .i64 0, .slice none 0 0, .int .u64 0] := by rw [hw1]; exact blk_new w _ 38
  have hc0 := (h.below hb1).cell
  have I1 := IX w1 hb1
  have HI : Hid (Calls _ _ _ _ _) := I1
  have HX1 : Hid (Blk w1 w.heap.size 38 [.int .i64 0, .int .i64 0, .int .u64 0, .int .i64 0, .int .i64 0, .int .i64 0, .slice none 0 0, .int .u64 0]) := X1
  have HB1 : Hid (Below w.heap.size w w1) := hb1
  have HW1 : Hid (_ = _) := hw1
  unfold ev zeroE
  dsimp only
  clear h IX I1 X1 hb1 hw1
  generalize pre.length = po at *
  go_enter Try.func33, Try.ntmps33
  go_upto_region 1 with fail
  rw [← HW1.out]
  clear HW1
  obtain ⟨n, hn⟩ : ∃ n, n = w.heap.size := ⟨_, rfl⟩
  rw [← hn] at HX1 ⊢
  have HNN : Hid (n = w.heap.size) := hn
  clear hn
  go_wp2_with (go_at_call 48; go_must (refine HI.out.mono ?_; rintro r w2 ⟨rfl, hb2⟩; have X2 := HX1.out.below hb2; have z0 := X2.cell 0 _ rfl; have z1 := X2.cell 1 _ rfl; have z2 := X2.cell 2 _ rfl; have z3 := X2.cell 3 _ rfl; have z4 := X2.cell 4 _ rfl; have z5 := X2.cell 5 _ rfl; have z6 := X2.cell 6 _ rfl; have z7 := X2.cell 7 _ rfl; have f0 := X2.frozen 0; have f1 := X2.frozen 1; have f2 := X2.frozen 2; have f3 := X2.frozen 3; have f4 := X2.frozen 4; have f5 := X2.frozen 5; have f6 := X2.frozen 6; have f7 := X2.frozen 7; have HB2 : Hid (Below w1.heap.size w1 w2) := hb2; clear hb2 X2))
  have G := grown_set8 w2 n (.int .i64 0) (.int .i64 0) (.int .u64 0) (.int .i64 0) (.int .i64 0) (.int .i64 0) (.slice none 0 0) (.int .u64 0)
  refine bodyPost_ret (v := .tuple #[.agg #[.int .i64 0, .int .i64 0, .int .u64 0, .int .i64 0, .int .i64 0, .int .i64 0, .slice none 0 0, .int .u64 0], .bool false]) ?_ rfl ⟨rfl, ?_⟩
  · rw [results_cell_tmp rfl]
    go_simp
  · exact bgrown (bnext HB1.out HB2.out) (by have := HNN.out; omega) G

/-- The result lies in a new block that is written at the end. -/
theorem take_end {w w1 w2 w3 w4 : World} {o : Nat → Nat} {c j b : Nat} {T : TypeId} {pre : List Value} {R : List (Ent × Value) → Prop} (hcj : j < c) (hc1 : 1 < c) (hc : ∀ k, k < w.heap.size → o k ≠ c) (hlt : w.heap.size < w1.heap.size)
    (hb1 : Below w.heap.size w w1) (hb2 : Below w1.heap.size w1 w2) (hM : QMoved w2 (newTo (newTo o w c) w1 0) w3 j b T pre R) (hg : w3.grownBy w4 (some w.heap.size)) : QMoved w o w4 j b T pre R := by
  obtain ⟨o3, qs, hq, m3, hR⟩ := hM
  have hlt2 : w.heap.size < w2.heap.size := Nat.lt_of_lt_of_le hlt hb2.size
  have ho3 : o3 w.heap.size = c := by
    rw [m3.ext _ hlt2, newTo_old hlt, newTo_new (Nat.le_refl _)]
  have m4 : Mv [c] w3 o3 w4 (newTo o3 w3 0) := Mv.of_grown hg (fun k hk _ => by cases hk; rw [ho3]; simp)
  refine ⟨_, qs, hq.mv m4 (by simp; omega) (by simp; omega), ?_, hR⟩
  refine Mv.restrict (c := c) ?_ hc
  refine (((Mv.of_below c hb1).trans (Mv.of_below 0 hb2)).trans (m3.widen (by simp))).trans (m4.widen (by simp))

theorem take_hit {w : World} {o : Nat → Nat} {j b : Nat} {T : TypeId} {pre : List Value} {v : Value} {ps : List (Ent × Value)} {fv : Value} {i : Nat} {q : Ent × Value} (h : QAt w o j b T pre v ps) (hj0 : j ≠ 0) (hq : ps[i]? = some q) (hfew : ps.length ≤ 900) (hH : HeapF ltQ (fn zq ps) ps.length)
    (IX : ∀ w', Below w.heap.size w w' → Calls Try.prog 48 #[v, fv] w' fun r w'' => r = .returned (.int .i64 (i : Int)) ∧ Below w'.heap.size w' w'') :
    Calls Try.prog 33 #[.pointer (some ⟨b, pre.length, none⟩), fv] w fun r w' => r = .returned (.tuple #[ev q.1 q.2, .bool true]) ∧ QMoved w o w' j b T pre (HeapedBut ps q) := by
  obtain ⟨c, hc1, hcj, hcf⟩ := fresh_owner w o j
  obtain ⟨w1, hw1⟩ : ∃ w1, w1 = w.alloc (.cells #[.int .i64 0, .int .i64 0, .int .u64 0, .int .i64 0, .int .i64 0, .int .i64 0, .slice none 0 0, .int .u64 0] 38) := ⟨_, rfl⟩
  have hb1 : Below w.heap.size w w1 := by rw [hw1]; exact balloc (Below.refl _ _) _
  have X1 : Blk w1 w.heap.size 38 [.int .i64 0, .int .i64 0, .int .u64 0, .int .i64 0, .int .i64 0, .int .i64 0, .slice none 0 0, .int .u64 0] := by rw [hw1]; exact blk_new w _ 38
  have hi : i < ps.length := (List.getElem?_eq_some_iff.1 hq).1
  have hc0 := (h.below hb1).cell
  have I1 := IX w1 hb1
  have HI : Hid (Calls _ _ _ _ _) := I1
  have HX1 : Hid (Blk w1 w.heap.size 38 [.int .i64 0, .int .i64 0, .int .u64 0, .int .i64 0, .int .i64 0, .int .i64 0, .slice none 0 0, .int .u64 0]) := X1
  have HB1 : Hid (Below w.heap.size w w1) := hb1
  have HW1 : Hid (_ = _) := hw1
  have h1 : QAt w1 (newTo o w c) j b T pre v ps := h.mv (Mv.of_below (I := []) c hb1) (by simp) (by simp)
  have RM := fun (w2 : World) (hb2 : Below w1.heap.size w1 w2) => hremove_any (h1.below hb2) hj0 hq hfew hH
  have TE := fun (w2 w3 w4 : World) hb2 hm hg => take_end (w2 := w2) (w3 := w3) (w4 := w4) (b := b) (T := T) (pre := pre) (R := HeapedBut ps q) hcj hc1 hcf X1.lt hb1 hb2 hm hg
  have HRs : Hid (∀ w2 w3, Below w1.heap.size w1 w2 → QMoved w2 (newTo (newTo o w c) w1 0) w3 j b T pre (HeapedBut ps q) → Blk w3 w.heap.size 38 [.int .i64 0, .int .i64 0, .int .u64 0, .int .i64 0, .int .i64 0, .int .i64 0, .slice none 0 0, .int .u64 0]) := fun w2 w3 hb2 hm => by
    obtain ⟨o3, qs, hq, m3, hR⟩ := hm
    have X2 := X1.below hb2
    refine X2.block (m3.block _ X2.lt ?_)
    rw [newTo_old X1.lt, newTo_new (Nat.le_refl _)]
    simp
    omega
  have HRM : Hid (_) := RM
  have HTE : Hid (_) := TE
  obtain ⟨av, cap, hvv⟩ := h.rowE.len
  subst hvv
  have hcap := h.rowE.cap
  obtain ⟨ax, cx, hxx⟩ := (h.ents q (List.mem_of_getElem? hq)).2.1.len
  obtain ⟨e, x⟩ := q
  dsimp only at *
  subst hxx
  obtain ⟨ew, ei, ep, et, eu, en, eb, eg⟩ := e
  unfold ev at *
  dsimp only at *
  clear h h1 IX I1 X1 hb1 hw1 hq RM TE hH
  generalize pre.length = po at *
  go_enter Try.func33, Try.ntmps33
  go_upto_region 1 with fail
  rw [← HW1.out]
  clear HW1
  obtain ⟨n, hn⟩ : ∃ n, n = w.heap.size := ⟨_, rfl⟩
  rw [← hn] at HX1 HRs ⊢
  have HNN : Hid (n = w.heap.size) := hn
  clear hn
  go_wp2_with (first
    | (go_at_call 48; go_must (refine HI.out.mono ?_; rintro r w2 ⟨rfl, hb2⟩; have HB2 : Hid (Below w1.heap.size w1 w2) := hb2; clear hb2))
    | (go_at_call 49; go_must (refine (HRM.out w2 HB2.out).mono ?_; rintro r w3 ⟨rfl, hm3⟩; have X3 := HRs.out w2 w3 HB2.out hm3; have z0 := X3.cell 0 _ rfl; have z1 := X3.cell 1 _ rfl; have z2 := X3.cell 2 _ rfl; have z3 := X3.cell 3 _ rfl; have z4 := X3.cell 4 _ rfl; have z5 := X3.cell 5 _ rfl; have z6 := X3.cell 6 _ rfl; have z7 := X3.cell 7 _ rfl; have f0 := X3.frozen 0; have f1 := X3.frozen 1; have f2 := X3.frozen 2; have f3 := X3.frozen 3; have f4 := X3.frozen 4; have f5 := X3.frozen 5; have f6 := X3.frozen 6; have f7 := X3.frozen 7; have HM3 : Hid (QMoved w2 (newTo (newTo o w c) w1 0) w3 j b T pre (HeapedBut ps _)) := hm3; clear hm3 X3)))
  have G := grown_set8 w3 n (.int .i64 ew) (.int .i64 ei) (.int .u64 ep) (.int .i64 et) (.int .i64 eu) (.int .i64 en) (.slice ax eb.length cx) (.int .u64 eg)
  refine bodyPost_ret (v := .tuple #[.agg #[.int .i64 ew, .int .i64 ei, .int .u64 ep, .int .i64 et, .int .i64 eu, .int .i64 en, .slice ax eb.length cx, .int .u64 eg], .bool true]) ?_ rfl ⟨rfl, ?_⟩
  · rw [results_cell_tmp rfl]
    go_simp
  · exact HTE.out w2 w3 _ HB2.out HM3.out (by rw [← HNN.out]; exact G)
end Go.Proofs.Ytigfklcclfpcjaa
