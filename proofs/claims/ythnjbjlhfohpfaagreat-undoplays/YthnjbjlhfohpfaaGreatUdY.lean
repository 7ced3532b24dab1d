/-
  A step copied into new memory.
  Insert and Remove of a log.
-/
import Derived.Test.YthnjbjlhfohpfaaGreatUdB
import Derived.Test.YthnjbjlhfohpfaaGreatTsF
import Derived.Test.YthnjbjlhfohpfaaGreatUdX
import Derived.Test.YthnjbjlhfohpfaaGreatUdI
import Derived.Test.YthnjbjlhfohpfaaGreatUdD
namespace Go.Proofs.YthnjbjlhfohpfaaGreat
section
set_option linter.unusedVariables false
set_option linter.unusedSimpArgs false
set_option synthInstance.maxSize 20000
set_option maxHeartbeats 2000000
set_option maxRecDepth 20000
open Go.RowKit Go.Maps

/-- A copy of a step: its contents lie in new memory. -/
structure CopyS (B : Nat) (w : World) (s t : ST) : Prop where
  bq : bare t.q = bare s.q
  xm : t.x.m = s.x.m
  b : t.b = s.b
  oq : Own B 5 w t.q.v t.q.b
  ox : Own B 5 w t.x.v t.x.m.b
theorem two_steps {w w1 : World} {B0 B1 : Nat} {s : ST} (hw1 : w1 = (w.alloc (.cells (tc s).toArray 73)).alloc (.cells (tc tz).toArray 73)) (h0 : B0 = w.heap.size) (h1 : B1 = w.heap.size + 1) :
    Below w.heap.size w w1 ∧ Stb w1 B0 s ∧ Stb w1 B1 tz ∧ w.heap.size ≤ B0 ∧ w.heap.size ≤ B1 ∧ B0 ≠ B1 := by
  subst hw1 h0 h1
  refine ⟨balloc (balloc (Below.refl _ _) _) _, Blk.alloc (stb_new w s) _, ?_, by omega, by omega, by omega⟩
  have := stb_new (w.alloc (.cells (tc s).toArray 73)) tz
  simpa using this
theorem Stb.load0 {w : World} {b : Nat} {s : ST} (h : Stb w b s) : (loadVar 73 ⟨b, 0, none⟩).run Tryz.prog w = .ok (tv s) w := run_loadVar_mid w b 0 73 (tc s) _ (Blk.range0 h) Tryz.underlying73 rfl (by rw [tc_len]; exact info76)
theorem Stb.ret1 {w : World} {b : Nat} {s : ST} {v : Value} (h : Stb w b s) (h1 : v = ptr b) : (((asAddr v).run Tryz.prog w).andThen fun a w₁ => (loadVar 73 a).run Tryz.prog w₁) = .ok (tv s) w := by
  subst h1
  have e1 : (asAddr (ptr b)).run Tryz.prog w = .ok ⟨b, 0, none⟩ w := rfl
  rw [e1]
  simp only [Result.andThen_ok, h.load0]
theorem results38 : Tryz.f28.results = #[.cell 2 73] := rfl
def qData (q : OpT) (a : Option Addr) (n c : Nat) : OpT := ⟨q.k, q.a, q.n, q.p, q.d, q.s, a, n, c, q.b⟩
theorem copied38 (s : ST) (w : World) (hq : Rd w s.q.v s.q.b) (hql : s.q.b.length ≤ 1000) (hx : Rd w s.x.v s.x.m.b) (hxl : s.x.m.b.length ≤ 1000) : Calls Tryz.prog 28 #[tv s] w fun e w' => ∃ t, e = .returned (tv t) ∧ CopyS w.heap.size w' s t ∧ Below w.heap.size w w' := by
  have HC : Hid (∀ w', Below w.heap.size w w' → Calls Tryz.prog 36 #[.slice s.q.va s.q.vn s.q.vc] w' fun e w'' => ∃ v', e = .returned v' ∧ Own w'.heap.size 5 w'' v' s.q.b ∧ Below w'.heap.size w' w'') := fun w' hb => bclone_any s.q.v s.q.b w' (hq.below hb) (by omega)
  have HD : Hid (∀ w', Below w.heap.size w w' → Calls Tryz.prog 36 #[.slice s.x.a s.x.vn s.x.vc] w' fun e w'' => ∃ v', e = .returned v' ∧ Own w'.heap.size 5 w'' v' s.x.m.b ∧ Below w'.heap.size w' w'') := fun w' hb => bclone_any s.x.v s.x.m.b w' (hx.below hb) (by omega)
  clear hq hql hx hxl
  obtain ⟨w1, hw1⟩ : ∃ w1, w1 = (w.alloc (.cells (tc s).toArray 73)).alloc (.cells (tc tz).toArray 73) := ⟨_, rfl⟩
  obtain ⟨B0, hB0⟩ : ∃ B0, B0 = w.heap.size := ⟨_, rfl⟩
  obtain ⟨B1, hB1⟩ : ∃ B1, B1 = w.heap.size + 1 := ⟨_, rfl⟩
  obtain ⟨i1, i2, i3, i4, i5, i6⟩ := two_steps hw1 hB0 hB1
  have HB1 : Hid (Below w.heap.size w w1) := i1
  have HX : Hid (Stb w1 B0 s) := i2
  have HZ : Hid (Stb w1 B1 tz) := i3
  have HBB : Hid (w.heap.size ≤ B0 ∧ w.heap.size ≤ B1 ∧ B0 ≠ B1) := ⟨i4, i5, i6⟩
  clear i1 i2 i3 i4 i5 i6
  have c9 := Blk.cell HX.out 9 _ rfl
  go_enter Tryz.func28, Tryz.ntmps28
  go_upto_region 1 with (first | (refine wpList_okw rfl (exec_box76 (q := s) (.tmp 0) rfl rfl) ?_) | (refine wpList_okw rfl (exec_alloc76 rfl) ?_))
  rw [← hw1, show (w.alloc (.cells (tc s).toArray 73)).heap.size = B1 from by rw [hB1]; simp]
  rw [← hB0]
  clear hw1 hB0 hB1
  go_upto_region 2 with (first
    | (go_at_call 36; go_must (refine (HC.out _ HB1.out).mono ?_; rintro r w2 ⟨v', rfl, ho, hb2⟩; have HB12 : Hid (Below w1.heap.size w1 w2) := hb2; have HX2 : Hid (Stb w2 B0 s) := HX.out.below hb2; have HZ2 : Hid (Stb w2 B1 tz) := HZ.out.below hb2; have HO : Hid (Own w1.heap.size 5 w2 v' s.q.b) := ho; obtain ⟨a', c', rfl, _, _⟩ := slice_of_own ho.2; have d9 := Blk.cell HX2.out 9 _ rfl; have f9 := Blk.frozen HX2.out 9; clear ho hb2 c9)))
  obtain ⟨w3, hw3⟩ : ∃ w3, w3 = w2.setCell ⟨B0, 9, none⟩ (.slice a' s.q.b.length c') := ⟨_, rfl⟩
  obtain ⟨y, hy⟩ : ∃ y : ST, y = ⟨qData s.q a' s.q.b.length c', s.x, s.b⟩ := ⟨_, rfl⟩
  have HX3 : Hid (Stb w3 B0 y) := by
    show Blk _ _ _ _
    rw [hw3, hy]
    exact Blk.set HX2.out 9 _
  have HG3 : Hid (w2.grownBy w3 (some B0)) := by show World.grownBy _ _ _; rw [hw3]; exact grown_setCell _ _ _ _
  have HZ3 : Hid (Stb w3 B1 tz) := Blk.past HZ2.out HG3.out (fun e => HBB.out.2.2 e.symm)
  have HB3 : Hid (Below w.heap.size w w3) := bgrown (bnext HB1.out HB12.out) HBB.out.1 HG3.out
  have HO3 : Hid (Own w1.heap.size 5 w3 (.slice a' s.q.b.length c') s.q.b) := own_past HO.out (Blk.lt HX.out) HG3.out
  have HY : Hid (y = ⟨qData s.q a' s.q.b.length c', s.x, s.b⟩) := hy
  have c17 : w3.cell? ⟨B0, 17, none⟩ = some (.slice s.x.a s.x.vn s.x.vc) := by
    have := Blk.cell HX3.out 17 (.slice s.x.a s.x.vn s.x.vc) (by rw [hy]; rfl)
    exact this
  rw [← hw3]
  clear hw3 d9 f9 hy HX2 HZ2 HO
  go_upto_region 3 with (first
    | (go_at_call 36; go_must (refine (HD.out _ HB3.out).mono ?_; rintro r w4 ⟨v', rfl, ho, hb4⟩; have HB34 : Hid (Below w3.heap.size w3 w4) := hb4; have HX4 : Hid (Stb w4 B0 y) := HX3.out.below hb4; have HZ4 : Hid (Stb w4 B1 tz) := HZ3.out.below hb4; have HP : Hid (Own w3.heap.size 5 w4 v' s.x.m.b) := ho; obtain ⟨e', k', rfl, _, _⟩ := slice_of_own ho.2; have d17 := Blk.cell HX4.out 17 _ rfl; have f17 := Blk.frozen HX4.out 17; clear ho hb4 c17)))
  obtain ⟨w5, hw5⟩ : ∃ w5, w5 = w4.setCell ⟨B0, 17, none⟩ (.slice e' s.x.m.b.length k') := ⟨_, rfl⟩
  obtain ⟨t, ht⟩ : ∃ t : ST, t = ⟨y.q, ⟨s.x.m, e', s.x.m.b.length, k'⟩, s.b⟩ := ⟨_, rfl⟩
  have HX5 : Hid (Stb w5 B0 t) := by
    have h := Blk.set HX4.out 17 (.slice e' s.x.m.b.length k')
    show Blk _ _ _ _
    rw [hw5, ht]
    have hy := HY.out
    subst hy
    exact h
  have HG5 : Hid (w4.grownBy w5 (some B0)) := by show World.grownBy _ _ _; rw [hw5]; exact grown_setCell _ _ _ _
  have HZ5 : Hid (Stb w5 B1 tz) := Blk.past HZ4.out HG5.out (fun e => HBB.out.2.2 e.symm)
  have HB5 : Hid (Below w.heap.size w w5) := bgrown (bnext HB3.out HB34.out) HBB.out.1 HG5.out
  have hlt3 : B0 < w3.heap.size ∧ B1 < w3.heap.size := ⟨Blk.lt HX3.out, Blk.lt HZ3.out⟩
  have HO5 : Hid (Own w1.heap.size 5 w5 (.slice a' s.q.b.length c') s.q.b) := own_past (Own.belowB HO3.out HB34.out) (Blk.lt HX.out) HG5.out
  have HP5 : Hid (Own w3.heap.size 5 w5 (.slice e' s.x.m.b.length k') s.x.m.b) := own_past HP.out hlt3.1 HG5.out
  have HT5 : Hid (w5.there B1 0 21) := HZ5.out.there
  have HR5 : Hid (w5.rangeAt B0 0 (tc t)) := HX5.out.load
  have HF : Hid (Stb (w5.setCells B1 0 (tc t)) B1 t) := HZ5.out.put t
  have HBf : Hid (Below w.heap.size w (w5.setCells B1 0 (tc t))) := below_put HB5.out HBB.out.2.1
  have HK : Hid (CopyS w.heap.size (w5.setCells B1 0 (tc t)) s t) := by
    have h2 := own_past HO5.out (Blk.lt HZ.out) (grown_setCells B1 (tc t) 0 w5)
    have h3 := own_past HP5.out hlt3.2 (grown_setCells B1 (tc t) 0 w5)
    have hy := HY.out
    subst hy
    subst ht
    exact ⟨rfl, rfl, rfl, h2.lower HB1.out.size, h3.lower HB3.out.size⟩
  clear ht hlt3
  rw [← hw5]
  clear hw5 d17 f17
  go_wp2_with (first
    | (refine wpList_okw rfl (exec_load76 (q := t) (.tmp 1) rfl rfl HR5.out) ?_)
    | (refine wpList_skipw rfl (exec_store76 (q := t) (.tmp 2) (.tmp 15) rfl rfl rfl HT5.out) ?_))
  refine bodyPost_ret (v := tv t) ?_ rfl ⟨t, rfl, HK.out, HBf.out⟩
  rw [results_cell1 results38]
  exact HF.out.ret1 rfl
end

section
set_option linter.unusedVariables false
set_option linter.unusedSimpArgs false
set_option synthInstance.maxSize 20000
set_option maxHeartbeats 2000000
set_option maxRecDepth 20000
open Go.RowKit Go.Maps

theorem cut_no {L U R : List ST} {a : S} (hs : StrS L) (h : CutAt L U R a) (hh : hereB R a = false) : ∀ s ∈ L, s.q.a ≠ a := fun s hs' e => by
  rw [h.eq] at hs hs'
  rcases List.mem_append.1 hs' with h1 | h1
  · exact ltP_irrefl a (by have := h.lo s h1; rwa [e] at this)
  · cases R with
    | nil => cases h1
    | cons r R =>
      have hne : ¬ r.q.a = a := of_decide_eq_false hh
      rcases List.mem_cons.1 h1 with rfl | h1
      · exact hne e
      · have h2 := (List.pairwise_append.1 hs).2.1
        have h3 : ltP r.q.a s.q.a := (List.pairwise_cons.1 h2).1 s h1
        rw [e] at h3
        exact h.hi r List.mem_cons_self h3
theorem cut_gt {L U R : List ST} {a : S} (hs : StrS L) (h : CutAt L U R a) (hn : ∀ s ∈ L, s.q.a ≠ a) : ∀ r ∈ R, ltP a r.q.a := fun r hr => by
  apply Classical.byContradiction
  intro h1
  exact hn r (by rw [h.eq]; exact List.mem_append_right _ hr) (ltP_total (h.hi r hr) h1)
theorem str_ins {L U R : List ST} {t : ST} (hs : StrS L) (h : CutAt L U R t.q.a) (hn : ∀ s ∈ L, s.q.a ≠ t.q.a) : StrS (U ++ t :: R) := by
  have hgt := cut_gt hs h hn
  rw [h.eq] at hs
  obtain ⟨h1, h2, h3⟩ := List.pairwise_append.1 hs
  refine List.pairwise_append.2 ⟨h1, List.pairwise_cons.2 ⟨fun r hr => hgt r hr, h2⟩, fun u hu r hr => ?_⟩
  rcases List.mem_cons.1 hr with rfl | hr
  · exact h.lo u hu
  · exact h3 u hu r hr
theorem str_del {U R : List ST} {s : ST} (hs : StrS (U ++ s :: R)) : StrS (U ++ R) := by
  obtain ⟨h1, h2, h3⟩ := List.pairwise_append.1 hs
  exact List.pairwise_append.2 ⟨h1, (List.pairwise_cons.1 h2).2, fun u hu r hr => h3 u hu r (List.mem_cons_of_mem _ hr)⟩
theorem clos33 {w : World} {v : Value} {U R : List ST} {q : OpT} {bi bo m : Nat} (hr : SRow w v (U ++ R)) (hi : Blk w bi 3 [.int .i64 (m : Int)]) (ho : Opb w bo q) (hm : U.length = m) (hl : (U ++ R).length ≤ 1000) :
    Calls Tryz.prog 38 #[v, ptr bi, ptr bo] w fun e w' => ∃ v', e = .returned v' ∧ SRow w' v' (U ++ ⟨q, zT, false⟩ :: R) ∧ w.grownBy w' v.ownBlock ∧ ∀ k, v'.ownBlock = some k → v.ownBlock = some k ∨ w.heap.size ≤ k := by
  obtain ⟨a, c, hv⟩ := hr.len
  have HV : Hid (v = .slice a (U ++ R).length c) := hv
  have c0 := hi.cell 0 _ rfl
  have HO : Hid (w.rangeAt bo 0 (oc q)) := Blk.range0 ho
  obtain ⟨w1, hw1⟩ : ∃ w1, w1 = w.alloc (.cells (tc ⟨q, zT, false⟩).toArray 73) := ⟨_, rfl⟩
  obtain ⟨vb, hvb⟩ : ∃ vb, vb = w.heap.size := ⟨_, rfl⟩
  have HB1 : Hid (Below w.heap.size w w1) := by show Below _ _ _; rw [hw1]; exact balloc (Below.refl _ _) _
  have hX : Blk w1 vb 73 (tc ⟨q, zT, false⟩) := by rw [hw1, hvb]; exact blk_new w _ _
  have HK : Hid (Calls Tryz.prog 39 #[v, .int .i64 (m : Int), .slice (some ⟨vb, 0, none⟩) 1 1] w1 fun e w' => ∃ v', e = .returned v' ∧ SRow w' v' (U ++ ⟨q, zT, false⟩ :: R) ∧ w.grownBy w' v.ownBlock ∧ ∀ k, v'.ownBlock = some k → v.ownBlock = some k ∨ w.heap.size ≤ k) := by
    refine (insert_any v (U ++ R) m ⟨q, zT, false⟩ vb w1 (hr.below HB1.out) hX (by rw [← hm]; simp) hl (fun e => by have := hr.lt e; omega)).mono ?_
    rintro e w' ⟨v', q1, q2, q3, q4⟩
    have e1 : (U ++ R).take m = U := by rw [← hm, List.take_left]
    have e2 : (U ++ R).drop m = R := by rw [← hm, List.drop_left]
    rw [e1, e2] at q2
    refine ⟨v', q1, q2, grown_trans (World.grownBy.but (below_grown HB1.out) _) q3 (fun k hk => ?_), fun k hk => ?_⟩
    · exact .inl hk
    · rcases q4 k hk with h | h
      · exact .inl h
      · exact .inr (Nat.le_trans HB1.out.size h)
  subst hv
  subst hw1
  subst hvb
  clear hX hr hi ho hl
  generalize (U ++ R).length = n at *
  go_enter Tryz.func38, Tryz.ntmps38
  go_wp2_with (first
    | (refine wpList_okw rfl (exec_load40 (q := q) (.tmp 2) rfl rfl HO.out) ?_)
    | (refine wpList_okw rfl (exec_build76 (q := q) (.tmp 7) rfl rfl) ?_)
    | (refine wpList_okw rfl (exec_slice76 (q := ⟨q, zT, false⟩) (.tmp 8) rfl rfl) ?_)
    | (go_at_call 39; go_must (refine HK.out.mono ?_; rintro e w2 ⟨v', rfl, h1, h2, h3⟩; have H1 : Hid (SRow w2 v' (U ++ ⟨q, zT, false⟩ :: R)) := h1; have H2 : Hid (w.grownBy w2 (Value.slice a n c).ownBlock) := h2; have H3 : Hid (∀ k, v'.ownBlock = some k → (Value.slice a n c).ownBlock = some k ∨ w.heap.size ≤ k) := h3; clear h1 h2 h3)))
  go_ret
  exact ⟨v', rfl, H1.out, H2.out, H3.out⟩
theorem clos35 {w : World} {v : Value} {U R : List ST} {s : ST} {bi m : Nat} (hr : SRow w v (U ++ s :: R)) (hi : Blk w bi 3 [.int .i64 (m : Int)]) (hm : U.length = m) (hl : (U ++ s :: R).length ≤ 1000) :
    Calls Tryz.prog 42 #[v, ptr bi] w fun e w' => ∃ v', e = .returned v' ∧ SRow w' v' (U ++ R) ∧ w.grownBy w' v.ownBlock ∧ ∀ k, v'.ownBlock = some k → v.ownBlock = some k ∨ w.heap.size ≤ k := by
  obtain ⟨a, c, hv⟩ := hr.len
  have hm60 : m ≤ 1000 := by rw [← hm]; simp at hl; omega
  have c0 := hi.cell 0 _ rfl
  have HK : Hid (Calls Tryz.prog 43 #[v, .int .i64 (m : Int), .int .i64 ((m : Int) + 1)] w fun e w' => ∃ v', e = .returned v' ∧ SRow w' v' (U ++ R) ∧ w.grownBy w' v.ownBlock ∧ ∀ k, v'.ownBlock = some k → v.ownBlock = some k ∨ w.heap.size ≤ k) := by
    refine (delete36 hr (i := m) (by rw [← hm]; simp) hl).mono ?_
    rintro e w' ⟨v', q1, q2, q3, q4⟩
    have e1 : (U ++ s :: R).take m = U := by rw [← hm, List.take_left]
    have e2 : (U ++ s :: R).drop (m + 1) = R := by rw [← hm, List.drop_append]; simp
    rw [e1, e2] at q2
    exact ⟨v', q1, q2, q3, fun k hk => .inl (by rw [← q4]; exact hk)⟩
  subst hv
  clear hr hi hl
  generalize (U ++ s :: R).length = n at *
  go_enter Tryz.func42, Tryz.ntmps42
  go_wp2_with (go_at_call 43; go_must (refine HK.out.mono ?_; rintro e w2 ⟨v', rfl, h1, h2, h3⟩; have H1 : Hid (SRow w2 v' (U ++ R)) := h1; have H2 : Hid (w.grownBy w2 (Value.slice a n c).ownBlock) := h2; have H3 : Hid (∀ k, v'.ownBlock = some k → (Value.slice a n c).ownBlock = some k ∨ w.heap.size ≤ k) := h3; clear h1 h2 h3))
  go_ret
  exact ⟨v', rfl, H1.out, H2.out, H3.out⟩
end
end Go.Proofs.YthnjbjlhfohpfaaGreat
