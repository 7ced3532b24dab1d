/-
  Move and write of the program.
-/
import Derived.Test.YthnjbjlhfohpfaaGreatTsA
namespace Go.Proofs.YthnjbjlhfohpfaaGreat
set_option linter.unusedVariables false
set_option linter.unusedSimpArgs false
set_option synthInstance.maxSize 20000
set_option maxHeartbeats 2000000
set_option maxRecDepth 20000
open Go.RowKit Go.Maps

section
variable {w : World} {tb : Nat} {mo : Option Nat} {L : List IT}
set_option maxHeartbeats 8000000 in
theorem move33 (h : PTr w tb mo L) (few : L.length ≤ 200) (hG : Gd (L.map IT.m)) {q : OpT} (hr : rightO q = true) (hk : q.k = 2) : Calls Tryz.prog 95 #[ptr tb, ov q] w (StepAns w tb mo L q) := by
  have HH : Hid (PTr w tb mo L) := h
  have HFew : Hid (L.length ≤ 200) := few
  have hno : SOk q.n := rightB_ok (rightO_n hr).1
  have hpo : SOk q.p := rightO_p hr (.inr hk)
  have HPo : Hid (SOk q.p) := hpo
  have hc : chM (L.map IT.m) q = match findM (L.map IT.m) q.n with | none => none | some x => if dirM (L.map IT.m) q.p = true then (if pwithinM (L.map IT.m) q.n q.p = true then none else some (movI x q)) else none := by
    rw [hG.pw (by rw [List.length_map]; omega)]
    unfold chM
    rw [if_neg (by omega)]
    cases findM (L.map IT.m) q.n with
    | none => rfl
    | some x => dsimp only; rw [if_pos hk]
  have HC : Hid (chM (L.map IT.m) q = match findM (L.map IT.m) q.n with | none => none | some x => if dirM (L.map IT.m) q.p = true then (if pwithinM (L.map IT.m) q.n q.p = true then none else some (movI x q)) else none) := hc
  have HF : Hid (∀ w', Below w.heap.size w w' → Calls Tryz.prog 40 #[ptr tb, sv q.n] w' (GetAns w' L q.n)) := fun w' hb => look42 (h.below hb) hno
  have HTK : Hid (∀ w', Below w.heap.size w w' → Calls Tryz.prog 106 #[ptr tb, sv q.p] w' fun e w'' => e = .returned (.bool (dirM (L.map IT.m) q.p)) ∧ Below w'.heap.size w' w'') := fun w' hb => takes59 (h.below hb) hpo
  have HWK : Hid (∀ w', Below w.heap.size w w' → Calls Tryz.prog 108 #[ptr tb, sv q.n, sv q.p] w' fun e w'' => e = .returned (.bool (pwithinM (L.map IT.m) q.n q.p)) ∧ Below w'.heap.size w' w'') := fun w' hb => within21 (h.below hb) hno hpo
  clear h few hr hk hc hno hpo hG
  generalize hdr : dirM (L.map IT.m) q.p = dr at HC HTK
  generalize hwt : pwithinM (L.map IT.m) q.n q.p = wt at HC HWK
  clear hdr hwt
  obtain ⟨w1, hw1⟩ : ∃ w1, w1 = w.alloc (.cells (oc q).toArray 38) := ⟨_, rfl⟩
  obtain ⟨B0, hB0⟩ : ∃ B0, B0 = w.heap.size := ⟨_, rfl⟩
  obtain ⟨i1, i2⟩ := box_op hw1 hB0
  have HB1 : Hid (Below w.heap.size w w1) := i1
  have HQ : Hid (Opb w1 B0 q) := i2
  have HQn : Hid (w1.rangeAt B0 3 (sc q.n)) := i2.node
  clear i1 i2
  unfold StepAns
  go_enter Tryz.func95, Tryz.ntmps95
  go_upto_region 1 with (refine wpList_okw rfl (exec_box40 (q := q) (.tmp 1) rfl rfl) ?_)
  rw [← hw1, ← hB0]
  clear hw1 hB0
  go_upto_region 2 with (first
    | (refine wpList_okw rfl (exec_load24n (n := q.n) (.tmp 9) rfl rfl HQn.out) ?_)
    | (go_at_call 40; go_must (refine (HF.out _ HB1.out).mono ?_; rintro r w2 ⟨x, b, rfl, hgt, hb2⟩; have HG : Hid (GotT w2 L q.n x b) := hgt; have HB12 : Hid (Below w1.heap.size w1 w2) := hb2; have HBz : Hid (Below w.heap.size w w2) := bnext HB1.out hb2; clear hb2 hgt; obtain ⟨w3, hw3⟩ : ∃ w3, w3 = w2.alloc (.cells (ic zT).toArray 61) := ⟨_, rfl⟩; obtain ⟨g, hg⟩ : ∃ g, g = w2.heap.size := ⟨_, rfl⟩; have HT3 : Hid (w3.there g 0 10) := (show _ from by rw [hw3, hg]; exact (itp_new w2 zT).there); have HW3 : Hid (w3 = w2.alloc (.cells (ic zT).toArray 61)) := hw3; have HGG : Hid (g = w2.heap.size) := hg; clear hw3 hg; have tk1 : Hid True := trivial; have tk2 : Hid True := trivial)) | (clear tk1; refine wpList_okw rfl (exec_alloc35 rfl) ?_; rw [← HW3.out, ← HGG.out]) | (clear tk2; refine wpList_skipw rfl (exec_store35 (q := x) (.tmp 5) (.tmp 12) rfl rfl rfl HT3.out) ?_; obtain ⟨w4, hw4⟩ : ∃ w4, w4 = w3.setCells g 0 (ic x) := ⟨_, rfl⟩; rw [← hw4]; obtain ⟨i1, i2, i3, i4⟩ := item_putp HBz.out HW3.out HGG.out hw4; have HI4 : Hid (Itp w4 g x) := i1; have HB4 : Hid (Below w.heap.size w w4) := i2; have HB24 : Hid (Below w2.heap.size w2 w4) := i3; have HGL : Hid (w.heap.size ≤ g) := i4; clear hw4 i1 i2 i3 i4 HT3 HW3 HGG))
  have HQ4 : Hid (Opb w4 B0 q) := HQ.out.below (bnext HB12.out HB24.out)
  have HQp4 : Hid (w4.rangeAt B0 5 (sc q.p)) := HQ4.out.par
  clear HQ HQn HF
  cases b
  · have HCC : Hid (chM (L.map IT.m) q = none) := by
      show _ = _
      rw [HC.out]
      have := HG.out.is
      cases hf : findM (L.map IT.m) q.n with
      | none => rfl
      | some y => rw [hf] at this; cases this
    clear HC
    go_wp2
    go_ret
    exact ⟨rfl, step_none HH.out HB4.out HCC.out⟩
  · have HCx : Hid (chM (L.map IT.m) q = if dr = true then (if wt = true then none else some (movI x.m q)) else none) := by
      show _ = _
      rw [HC.out]
      have h1 := HG.out.is
      have h2 := HG.out.m
      cases hf : findM (L.map IT.m) q.n with
      | none => rw [hf] at h1; cases h1
      | some y => rw [hf] at h2; rw [h2]; rfl
    clear HC
    cases dr
    · go_wp2_with (first
        | (refine wpList_okw rfl (exec_load24n (n := q.p) (.tmp 18) rfl rfl HQp4.out) ?_)
        | (go_at_call 106; go_must (refine (HTK.out _ HB4.out).mono ?_; rintro r w5 ⟨rfl, hb5⟩; have HB5 : Hid (Below w4.heap.size w4 w5) := hb5; clear hb5)))
      go_ret
      exact ⟨rfl, step_none HH.out (bnext HB4.out HB5.out) (by rw [HCx.out]; simp)⟩
    · cases wt
      · go_upto_region 4 with (first
          | (refine wpList_okw rfl (exec_load24n (n := q.p) (.tmp 18) rfl rfl HQp4.out) ?_)
          | (go_at_call 106; go_must (refine (HTK.out _ HB4.out).mono ?_; rintro r w5 ⟨rfl, hb5⟩; have HB5 : Hid (Below w4.heap.size w4 w5) := hb5; clear hb5; have HQ5 : Hid (Opb w5 B0 q) := HQ4.out.below HB5.out; have HQn5 : Hid (w5.rangeAt B0 3 (sc q.n)) := HQ5.out.node; have HQp5 : Hid (w5.rangeAt B0 5 (sc q.p)) := HQ5.out.par))
          | (refine wpList_okw rfl (exec_load24n (n := q.n) (.tmp 25) rfl rfl HQn5.out) ?_)
          | (refine wpList_okw rfl (exec_load24n (n := q.p) (.tmp 27) rfl rfl HQp5.out) ?_)
          | (go_at_call 108; go_must (refine (HWK.out _ (bnext HB4.out HB5.out)).mono ?_; rintro r w6 ⟨rfl, hb6⟩; have HB6 : Hid (Below w5.heap.size w5 w6) := hb6; clear hb6)))
        have HCC : Hid (chM (L.map IT.m) q = some (movI x.m q)) := by show _ = _; rw [HCx.out]; simp
        have HBx : Hid (Below w.heap.size w w6) := bnext HB4.out (bnext HB5.out HB6.out)
        have HI6 : Hid (Itp w6 g x) := HI4.out.below (bnext HB5.out HB6.out)
        have HQ6 : Hid (Opb w6 B0 q) := HQ5.out.below HB6.out
        have HR6 : Hid (Rd w6 x.v x.m.b) := HG.out.rd.below (bnext HB24.out (bnext HB5.out HB6.out))
        have HFine : Hid (x.m.b.length ≤ 1000 ∧ SOk x.m.n) := by have := HG.out.fine HH.out; exact ⟨this.1, this.2.1⟩
        have hne : B0 ≠ g := fun e => by
          have h1 := Blk.lt HQ4.out
          have h2 := HI6.out
          have h3 := HQ6.out
          unfold Itp Blk at h2
          unfold Opb Blk at h3
          rw [e, h2] at h3
          injection h3 with h3
          injection h3 with _ h4
          simp at h4
        have HQz : Hid (∀ w', w6.grownBy w' (some g) → Opb w' B0 q) := fun w' hg => Blk.past HQ6.out hg hne
        clear HCx HTK HWK hne HQ4 HQp4 HQ5 HQn5 HQp5
        have c8 := fun z : WIn (fun w' => w6.grownBy w' (some g)) => Blk.cell (HQz.out z.w z.ok) 8 _ rfl
        have ne : Nonempty (WIn (fun w' => w6.grownBy w' (some g))) := ⟨⟨w6, grown_refl _ _⟩⟩
        refine wp_region_ord (C := fun w' => ∃ z : WIn (fun w' => w6.grownBy w' (some g)), w' = z.w) [(false, 0), (false, 1), (false, 2), (false, 3), (false, 4), (true, 5), (false, 6), (true, 7), (false, 8), (true, 9)] (by kernel_rfl) (by kernel_rfl) ⟨⟨w6.drew, grown_drew (grown_refl _ _)⟩, rfl⟩ ?_
        obtain ⟨w7, hw7⟩ : ∃ w7, w7 = w6.drew := ⟨_, rfl⟩
        have HI7 : Hid (Itp w7 g x) := by show Itp _ _ _; rw [hw7]; exact HI6.out
        have HG7 : Hid (w6.grownBy w7 (some g)) := by show World.grownBy _ _ _; rw [hw7]; exact grown_drew (grown_refl _ _)
        obtain ⟨w8, hw8⟩ : ∃ w8, w8 = w7.setCells g 2 (sc q.p) := ⟨_, rfl⟩
        obtain ⟨w9, hw9⟩ : ∃ w9, w9 = w8.setCell ⟨g, 4, none⟩ (.string q.s) := ⟨_, rfl⟩
        obtain ⟨wa, hwa⟩ : ∃ wa, wa = w9.setCell ⟨g, 6, none⟩ (.bool false) := ⟨_, rfl⟩
        have hI8 := HI7.out.setPar (p := q.p)
        rw [← hw8] at hI8
        have hI9 := hI8.setName (s := q.s)
        rw [← hw9] at hI9
        have hIa := hI9.setGone (g := false)
        rw [← hwa] at hIa
        have HG8 : Hid (w6.grownBy w8 (some g)) := by show World.grownBy _ _ _; rw [hw8]; exact grown_trans HG7.out (grown_setCells _ _ _ _) (fun k hk => .inl hk)
        have HG9 : Hid (w6.grownBy w9 (some g)) := by show World.grownBy _ _ _; rw [hw9]; exact grown_trans HG8.out (grown_setCell _ _ _ _) (fun k hk => .inl hk)
        have HGa : Hid (w6.grownBy wa (some g)) := by show World.grownBy _ _ _; rw [hwa]; exact grown_trans HG9.out (grown_setCell _ _ _ _) (fun k hk => .inl hk)
        have HT7 : Hid (w7.there g 2 2) := Blk.there HI7.out 2 2 (by rw [ic_len]; omega)
        have HC8 : Hid (w8.cell? ⟨g, 4, none⟩ = some (.string x.m.s) ∧ w8.frozen? ⟨g, 4, none⟩ = false) := ⟨Blk.cell hI8 4 _ rfl, Blk.frozen hI8 4⟩
        have HC9 : Hid (w9.cell? ⟨g, 6, none⟩ = some (.bool x.m.g) ∧ w9.frozen? ⟨g, 6, none⟩ = false) := ⟨Blk.cell hI9 6 _ rfl, Blk.frozen hI9 6⟩
        obtain ⟨y, hy⟩ : ∃ y : IT, y = ⟨movI x.m q, x.a, x.vn, x.vc⟩ := ⟨_, rfl⟩
        have HIa : Hid (Itp wa g y) := by show Itp _ _ _; rw [hy]; exact hIa
        have HY : Hid (y.m = movI x.m q) := by show _ = _; rw [hy]
        have HW7 : Hid (w7 = w6.drew) := hw7
        have HW8 : Hid (w8 = w7.setCells g 2 (sc q.p)) := hw8
        have HW9 : Hid (w9 = w8.setCell ⟨g, 4, none⟩ (.string q.s)) := hw9
        have HWa : Hid (wa = w9.setCell ⟨g, 6, none⟩ (.bool false)) := hwa
        have HBa : Hid (Below w.heap.size w wa) := bgrown HBx.out HGL.out HGa.out
        have HRa : Hid (Rd wa y.v y.m.b) := by
          show Rd _ _ _
          rw [hy]
          exact rd_pastitp HR6.out HI6.out HGa.out
        have HPut : Hid (Calls Tryz.prog 93 #[ptr tb, iv y] wa fun e w' => e = .returned (.tuple #[]) ∧ ∃ mo' L', PTr w' tb mo' L' ∧ L'.map IT.m = putM (L.map IT.m) (movI x.m q) ∧ Tw tb mo wa w' mo') := by
          have := put56 (HH.out.below HBa.out) y HRa.out (by rw [hy]; exact HFine.out.1) (by rw [hy]; exact HFine.out.2) (by rw [hy]; exact HPo.out) (by have := HFew.out; omega)
          rw [show y.m = movI x.m q from HY.out] at this
          exact this
        have HRg : Hid (wa.rangeAt g 0 (ic y)) := HIa.out.range
        clear hw7 hw8 hw9 hwa hI8 hI9 hIa hy
        rw [← HW7.out]
        refine ord_still rfl rfl ?_; go_big_quiet_step (fail); refine wpQuiet_nil ?_
        refine ord_still rfl rfl ?_
        refine quiet_ok1 rfl (fun w' hw' => by obtain ⟨z, rfl⟩ := hw'; exact exec_load24n (n := q.p) (.tmp 31) rfl rfl (HQz.out z.w z.ok).par) ?_
        go_simp
        iterate 3 (refine ord_still rfl rfl ?_; go_big_quiet_step (fail); refine wpQuiet_nil ?_)
        refine ord_mem rfl rfl ?_
        refine wp_skip (exec_store24n (n := q.p) (.tmp 35) (.tmp 32) rfl rfl rfl HT7.out) ?_
        rw [← HW8.out]
        refine ⟨⟨⟨w8, HG8.out⟩, rfl⟩, ?_⟩
        go_simp
        refine ord_still rfl rfl ?_; go_big_quiet_step (fail); refine wpQuiet_nil ?_
        refine ord_mem rfl rfl ?_
        refine wp_skip (exec_store9 (s := q.s) (.tmp 36) (.tmp 34) rfl rfl rfl HC8.out.1 HC8.out.2) ?_
        rw [← HW9.out]
        refine ⟨⟨⟨w9, HG9.out⟩, rfl⟩, ?_⟩
        go_simp
        refine ord_still rfl rfl ?_; go_big_quiet_step (fail); refine wpQuiet_nil ?_
        refine ord_mem rfl rfl ?_
        refine wp_skip (exec_store4 (s := false) (.tmp 37) (.const (.bool false)) rfl rfl rfl HC9.out.1 HC9.out.2) ?_
        rw [← HWa.out]
        refine ⟨⟨⟨wa, HGa.out⟩, rfl⟩, ?_⟩
        go_simp
        refine ord_end ?_
        clear ne c8
        go_wp2_with (first
          | (refine wpList_okw rfl (exec_load35 (q := y) (.tmp 5) rfl rfl HRg.out) ?_)
          | (go_at_call 93; go_must (refine HPut.out.mono ?_; rintro r wb ⟨rfl, mo', L', h5, hm5, ht5⟩; have HPb : Hid (PTr wb tb mo' L') := h5; have HMb : Hid (L'.map IT.m = putM (L.map IT.m) (movI x.m q)) := hm5; have HTb : Hid (Tw tb mo wa wb mo') := ht5; clear h5 hm5 ht5)))
        go_ret
        exact ⟨rfl, step_some HBa.out HPb.out HMb.out HTb.out HCC.out⟩
      · go_wp2_with (first
          | (refine wpList_okw rfl (exec_load24n (n := q.p) (.tmp 18) rfl rfl HQp4.out) ?_)
          | (go_at_call 106; go_must (refine (HTK.out _ HB4.out).mono ?_; rintro r w5 ⟨rfl, hb5⟩; have HB5 : Hid (Below w4.heap.size w4 w5) := hb5; clear hb5; have HQ5 : Hid (Opb w5 B0 q) := HQ4.out.below HB5.out; have HQn5 : Hid (w5.rangeAt B0 3 (sc q.n)) := HQ5.out.node; have HQp5 : Hid (w5.rangeAt B0 5 (sc q.p)) := HQ5.out.par))
          | (refine wpList_okw rfl (exec_load24n (n := q.n) (.tmp 25) rfl rfl HQn5.out) ?_)
          | (refine wpList_okw rfl (exec_load24n (n := q.p) (.tmp 27) rfl rfl HQp5.out) ?_)
          | (go_at_call 108; go_must (refine (HWK.out _ (bnext HB4.out HB5.out)).mono ?_; rintro r w6 ⟨rfl, hb6⟩; have HB6 : Hid (Below w5.heap.size w5 w6) := hb6; clear hb6)))
        go_ret
        exact ⟨rfl, step_none HH.out (bnext HB4.out (bnext HB5.out HB6.out)) (by rw [HCx.out]; simp)⟩
end
end Go.Proofs.YthnjbjlhfohpfaaGreat
