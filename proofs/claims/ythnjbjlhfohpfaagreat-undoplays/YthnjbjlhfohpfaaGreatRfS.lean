/-
  The reference's Right.
-/
import Derived.Test.YthnjbjlhfohpfaaGreatRfR
namespace Go.Proofs.YthnjbjlhfohpfaaGreat
set_option linter.unusedVariables false
set_option linter.unusedSimpArgs false
set_option synthInstance.maxSize 20000
set_option maxHeartbeats 2000000
set_option maxRecDepth 20000
open Go.RowKit Go.Maps

set_option maxHeartbeats 4000000 in
theorem right36 (q : OpT) (w : World) : Calls Tryz.prog 25 #[ov q] w fun e w' => e = .returned (.bool (rightO q)) ∧ Below w.heap.size w w' := by
  have HA : Hid (∀ w', Calls Tryz.prog 45 #[sv q.a] w' fun e w'' => e = .returned (.bool (rightB q.a)) ∧ Below w'.heap.size w' w'') := fun w' => refright_any q.a w'
  have HN : Hid (∀ w', Calls Tryz.prog 45 #[sv q.n] w' fun e w'' => e = .returned (.bool (rightB q.n)) ∧ Below w'.heap.size w' w'') := fun w' => refright_any q.n w'
  have HP : Hid (∀ w', Calls Tryz.prog 46 #[sv q.p] w' fun e w'' => e = .returned (.bool (placeB q.p)) ∧ Below w'.heap.size w' w'') := fun w' => place61 q.p w'
  have HM : Hid (∀ w', Calls Tryz.prog 47 #[.string q.s] w' fun e w'' => e = .returned (.bool (nameB q.s)) ∧ w'' = w') := fun w' => name62 q.s w'
  have HQ : Hid (rightO q = _) := rightO_form q
  generalize rightB q.a = ra at HA HQ
  generalize rightB q.n = rn at HN HQ
  generalize placeB q.p = pl at HP HQ
  generalize nameB q.s = nm at HM HQ
  generalize rightO q = rq at HQ ⊢
  obtain ⟨w1, hw1⟩ : ∃ w1, w1 = w.alloc (.cells (oc q).toArray 38) := ⟨_, rfl⟩
  obtain ⟨B0, hB0⟩ : ∃ B0, B0 = w.heap.size := ⟨_, rfl⟩
  obtain ⟨i1, i2⟩ := box_op hw1 hB0
  have HB1 : Hid (Below w.heap.size w w1) := i1
  have HQ1 : Hid (Opb w1 B0 q) := i2
  have HQa : Hid (w1.rangeAt B0 1 (sc q.a)) := i2.at
  clear i1 i2
  have tk1 : Hid True := trivial
  have tk2 : Hid True := trivial
  have tk3 : Hid True := trivial
  have tk4 : Hid True := trivial
  go_enter Tryz.func25, Tryz.ntmps25
  go_upto_region 1 with (refine wpList_okw rfl (exec_box40 (q := q) (.tmp 0) rfl rfl) ?_)
  rw [← hw1, ← hB0]
  clear hw1 hB0
  cases ra
  · have z0 : True := trivial
    go_wp2_with (first
      | (clear tk1; refine wpList_okx (exec_load24n (n := q.a) (.tmp 3) rfl rfl HQa.out) rfl ?_)
      | (go_at_call 45; clear tk2; go_must (refine (HA.out _).mono ?_; rintro r w2 ⟨rfl, hb2⟩; have HQ2 : Hid (Opb w2 B0 q) := HQ1.out.below hb2; have HQn2 : Hid (w2.rangeAt B0 3 (sc q.n)) := HQ2.out.node; have HB2 : Hid (Below w.heap.size w w2) := bnext HB1.out hb2; clear hb2)))
    go_ret
    exact ⟨by rw [HQ.out]; simp [*]; done, HB2.out⟩
  cases rn
  · have z0 : True := trivial
    go_wp2_with (first
      | (clear tk1; refine wpList_okx (exec_load24n (n := q.a) (.tmp 3) rfl rfl HQa.out) rfl ?_)
      | (go_at_call 45; clear tk2; go_must (refine (HA.out _).mono ?_; rintro r w2 ⟨rfl, hb2⟩; have HQ2 : Hid (Opb w2 B0 q) := HQ1.out.below hb2; have HQn2 : Hid (w2.rangeAt B0 3 (sc q.n)) := HQ2.out.node; have HB2 : Hid (Below w.heap.size w w2) := bnext HB1.out hb2; clear hb2))
      | (clear tk3; refine wpList_okx (exec_load24n (n := q.n) (.tmp 8) rfl rfl HQn2.out) rfl ?_)
      | (go_at_call 45; clear tk4; go_must (refine (HN.out _).mono ?_; rintro r w3 ⟨rfl, hb3⟩; have HQ3 : Hid (Opb w3 B0 q) := HQ2.out.below hb3; have HQn3 : Hid (w3.rangeAt B0 3 (sc q.n)) := HQ3.out.node; have HQa3 : Hid (w3.rangeAt B0 1 (sc q.a)) := HQ3.out.at; have HQp3 : Hid (w3.rangeAt B0 5 (sc q.p)) := HQ3.out.par; have HB3 : Hid (Below w.heap.size w w3) := bnext HB2.out hb3; have c0 := Blk.cell HQ3.out 0 _ rfl; have c7 := Blk.cell HQ3.out 7 _ rfl; have c8 := Blk.cell HQ3.out 8 _ rfl; have c9 := Blk.cell HQ3.out 9 _ rfl; clear hb3)))
    go_ret
    exact ⟨by rw [HQ.out]; simp [*]; done, HB3.out⟩
  by_cases k4 : q.k = 4
  · have k1 : ¬ q.k = 1 := by omega
    have k2 : ¬ q.k = 2 := by omega
    have k3 : ¬ q.k = 3 := by omega
    cases hd : q.d
    · have HD : Hid (q.d = false) := hd
      go_upto_region 3 with (first
        | (clear tk1; refine wpList_okx (exec_load24n (n := q.a) (.tmp 3) rfl rfl HQa.out) rfl ?_)
        | (go_at_call 45; clear tk2; go_must (refine (HA.out _).mono ?_; rintro r w2 ⟨rfl, hb2⟩; have HQ2 : Hid (Opb w2 B0 q) := HQ1.out.below hb2; have HQn2 : Hid (w2.rangeAt B0 3 (sc q.n)) := HQ2.out.node; have HB2 : Hid (Below w.heap.size w w2) := bnext HB1.out hb2; clear hb2))
        | (clear tk3; refine wpList_okx (exec_load24n (n := q.n) (.tmp 8) rfl rfl HQn2.out) rfl ?_)
        | (go_at_call 45; clear tk4; go_must (refine (HN.out _).mono ?_; rintro r w3 ⟨rfl, hb3⟩; have HQ3 : Hid (Opb w3 B0 q) := HQ2.out.below hb3; have HQn3 : Hid (w3.rangeAt B0 3 (sc q.n)) := HQ3.out.node; have HQa3 : Hid (w3.rangeAt B0 1 (sc q.a)) := HQ3.out.at; have HQp3 : Hid (w3.rangeAt B0 5 (sc q.p)) := HQ3.out.par; have HB3 : Hid (Below w.heap.size w w3) := bnext HB2.out hb3; have c0 := Blk.cell HQ3.out 0 _ rfl; have c7 := Blk.cell HQ3.out 7 _ rfl; have c8 := Blk.cell HQ3.out 8 _ rfl; have c9 := Blk.cell HQ3.out 9 _ rfl; rw [k4] at c0; rw [HD.out] at c7; clear hb3)))
      clear HQa HA HN HQ1 HQn2 HQ2
      have tj75 : Hid True := trivial
      cases h1 : decide (q.p = (0, 0))
      · have HZ : Hid (decide (q.p = (0, 0)) = false) := h1
        go_wp2_with (first
          | (clear tj75; refine wpList_okx (exec_load24n (n := q.p) (.tmp 75) rfl rfl HQp3.out) rfl ?_)
          | (refine wpList_okx (exec_eql24 (a := q.p) (b := (0, 0)) (.tmp 76) (.tmp 77) rfl rfl rfl) rfl ?_; rw [HZ.out]))
        go_ret
        exact ⟨by rw [HQ.out]; simp [*]; done, HB3.out⟩
      · have HZ : Hid (decide (q.p = (0, 0)) = true) := h1
        cases h2 : (q.s.toList == [])
        · have z0 : True := trivial
          go_wp2_with (first
            | (clear tj75; refine wpList_okx (exec_load24n (n := q.p) (.tmp 75) rfl rfl HQp3.out) rfl ?_)
            | (refine wpList_okx (exec_eql24 (a := q.p) (b := (0, 0)) (.tmp 76) (.tmp 77) rfl rfl rfl) rfl ?_; rw [HZ.out]))
          go_ret
          exact ⟨by rw [HQ.out]; simp [*]; done, HB3.out⟩
        · by_cases h4 : q.vn ≤ 400
          · have h4I : (q.vn : Int) ≤ 400 := by omega
            go_wp2_with (first
              | (clear tj75; refine wpList_okx (exec_load24n (n := q.p) (.tmp 75) rfl rfl HQp3.out) rfl ?_)
              | (refine wpList_okx (exec_eql24 (a := q.p) (b := (0, 0)) (.tmp 76) (.tmp 77) rfl rfl rfl) rfl ?_; rw [HZ.out]))
            go_ret
            exact ⟨by rw [HQ.out]; simp [*]; done, HB3.out⟩
          · have h4I : ¬ (q.vn : Int) ≤ 400 := by omega
            go_wp2_with (first
              | (clear tj75; refine wpList_okx (exec_load24n (n := q.p) (.tmp 75) rfl rfl HQp3.out) rfl ?_)
              | (refine wpList_okx (exec_eql24 (a := q.p) (b := (0, 0)) (.tmp 76) (.tmp 77) rfl rfl rfl) rfl ?_; rw [HZ.out]))
            go_ret
            exact ⟨by rw [HQ.out]; simp [*]; done, HB3.out⟩
    · have HD : Hid (q.d = true) := hd
      go_wp2_with (first
        | (clear tk1; refine wpList_okx (exec_load24n (n := q.a) (.tmp 3) rfl rfl HQa.out) rfl ?_)
        | (go_at_call 45; clear tk2; go_must (refine (HA.out _).mono ?_; rintro r w2 ⟨rfl, hb2⟩; have HQ2 : Hid (Opb w2 B0 q) := HQ1.out.below hb2; have HQn2 : Hid (w2.rangeAt B0 3 (sc q.n)) := HQ2.out.node; have HB2 : Hid (Below w.heap.size w w2) := bnext HB1.out hb2; clear hb2))
        | (clear tk3; refine wpList_okx (exec_load24n (n := q.n) (.tmp 8) rfl rfl HQn2.out) rfl ?_)
        | (go_at_call 45; clear tk4; go_must (refine (HN.out _).mono ?_; rintro r w3 ⟨rfl, hb3⟩; have HQ3 : Hid (Opb w3 B0 q) := HQ2.out.below hb3; have HQn3 : Hid (w3.rangeAt B0 3 (sc q.n)) := HQ3.out.node; have HQa3 : Hid (w3.rangeAt B0 1 (sc q.a)) := HQ3.out.at; have HQp3 : Hid (w3.rangeAt B0 5 (sc q.p)) := HQ3.out.par; have HB3 : Hid (Below w.heap.size w w3) := bnext HB2.out hb3; have c0 := Blk.cell HQ3.out 0 _ rfl; have c7 := Blk.cell HQ3.out 7 _ rfl; have c8 := Blk.cell HQ3.out 8 _ rfl; have c9 := Blk.cell HQ3.out 9 _ rfl; rw [k4] at c0; rw [HD.out] at c7; clear hb3)))
      go_ret
      exact ⟨by rw [HQ.out]; simp [*]; done, HB3.out⟩
  have k4b : (q.k == 4) = false := by simp [k4]
  have k4c : (q.k != 4) = true := by simp [k4]
  by_cases hv : 0 < q.vn
  · have hvI : (0 : Int) < (q.vn : Int) := by omega
    have hvb : decide (0 < q.vn) = true := decide_eq_true hv
    go_wp2_with (first
      | (clear tk1; refine wpList_okx (exec_load24n (n := q.a) (.tmp 3) rfl rfl HQa.out) rfl ?_)
      | (go_at_call 45; clear tk2; go_must (refine (HA.out _).mono ?_; rintro r w2 ⟨rfl, hb2⟩; have HQ2 : Hid (Opb w2 B0 q) := HQ1.out.below hb2; have HQn2 : Hid (w2.rangeAt B0 3 (sc q.n)) := HQ2.out.node; have HB2 : Hid (Below w.heap.size w w2) := bnext HB1.out hb2; clear hb2))
      | (clear tk3; refine wpList_okx (exec_load24n (n := q.n) (.tmp 8) rfl rfl HQn2.out) rfl ?_)
      | (go_at_call 45; clear tk4; go_must (refine (HN.out _).mono ?_; rintro r w3 ⟨rfl, hb3⟩; have HQ3 : Hid (Opb w3 B0 q) := HQ2.out.below hb3; have HQn3 : Hid (w3.rangeAt B0 3 (sc q.n)) := HQ3.out.node; have HQa3 : Hid (w3.rangeAt B0 1 (sc q.a)) := HQ3.out.at; have HQp3 : Hid (w3.rangeAt B0 5 (sc q.p)) := HQ3.out.par; have HB3 : Hid (Below w.heap.size w w3) := bnext HB2.out hb3; have c0 := Blk.cell HQ3.out 0 _ rfl; have c7 := Blk.cell HQ3.out 7 _ rfl; have c8 := Blk.cell HQ3.out 8 _ rfl; have c9 := Blk.cell HQ3.out 9 _ rfl; clear hb3)))
    go_ret
    exact ⟨by rw [HQ.out]; simp [*]; done, HB3.out⟩
  have HV : Hid (q.vn = 0) := by show _ = _; omega
  by_cases k1 : q.k = 1
  · have z1 : True := trivial
    go_upto_region 3 with (first
      | (clear tk1; refine wpList_okx (exec_load24n (n := q.a) (.tmp 3) rfl rfl HQa.out) rfl ?_)
      | (go_at_call 45; clear tk2; go_must (refine (HA.out _).mono ?_; rintro r w2 ⟨rfl, hb2⟩; have HQ2 : Hid (Opb w2 B0 q) := HQ1.out.below hb2; have HQn2 : Hid (w2.rangeAt B0 3 (sc q.n)) := HQ2.out.node; have HB2 : Hid (Below w.heap.size w w2) := bnext HB1.out hb2; clear hb2))
      | (clear tk3; refine wpList_okx (exec_load24n (n := q.n) (.tmp 8) rfl rfl HQn2.out) rfl ?_)
      | (go_at_call 45; clear tk4; go_must (refine (HN.out _).mono ?_; rintro r w3 ⟨rfl, hb3⟩; have HQ3 : Hid (Opb w3 B0 q) := HQ2.out.below hb3; have HQn3 : Hid (w3.rangeAt B0 3 (sc q.n)) := HQ3.out.node; have HQa3 : Hid (w3.rangeAt B0 1 (sc q.a)) := HQ3.out.at; have HQp3 : Hid (w3.rangeAt B0 5 (sc q.p)) := HQ3.out.par; have HB3 : Hid (Below w.heap.size w w3) := bnext HB2.out hb3; have c0 := Blk.cell HQ3.out 0 _ rfl; have c7 := Blk.cell HQ3.out 7 _ rfl; have c8 := Blk.cell HQ3.out 8 _ rfl; have c9 := Blk.cell HQ3.out 9 _ rfl; rw [k1] at c0; rw [HV.out] at c9; clear hb3)))
    clear HQa HA HN HQ1 HQn2 HQ2
    have tj37 : Hid True := trivial
    have tj39 : Hid True := trivial
    have tj43 : Hid True := trivial
    cases h1 : decide (q.n = q.a)
    · have HE1 : Hid (decide (q.n = q.a) = false) := h1
      go_wp2_with (first
        | (clear tj37; refine wpList_okx (exec_load24n (n := q.n) (.tmp 37) rfl rfl HQn3.out) rfl ?_)
        | (clear tj39; refine wpList_okx (exec_load24n (n := q.a) (.tmp 39) rfl rfl HQa3.out) rfl ?_)
        | (refine wpList_okx (exec_eql24 (a := q.n) (b := q.a) (.tmp 38) (.tmp 40) rfl rfl rfl) rfl ?_; rw [HE1.out]))
      go_ret
      exact ⟨by rw [HQ.out]; simp [*]; done, HB3.out⟩
    · have HE1 : Hid (decide (q.n = q.a) = true) := h1
      cases pl
      · have z0 : True := trivial
        go_wp2_with (first
          | (clear tj37; refine wpList_okx (exec_load24n (n := q.n) (.tmp 37) rfl rfl HQn3.out) rfl ?_)
          | (clear tj39; refine wpList_okx (exec_load24n (n := q.a) (.tmp 39) rfl rfl HQa3.out) rfl ?_)
          | (refine wpList_okx (exec_eql24 (a := q.n) (b := q.a) (.tmp 38) (.tmp 40) rfl rfl rfl) rfl ?_; rw [HE1.out])
          | (clear tj43; refine wpList_okx (exec_load24n (n := q.p) (.tmp 43) rfl rfl HQp3.out) rfl ?_)
          | (go_at_call 46; go_must (refine (HP.out _).mono ?_; rintro r w4 ⟨rfl, hb4⟩; have HQ4 : Hid (Opb w4 B0 q) := HQ3.out.below hb4; have HB4 : Hid (Below w.heap.size w w4) := bnext HB3.out hb4; have d8 := Blk.cell HQ4.out 8 _ rfl; clear hb4)))
        go_ret
        exact ⟨by rw [HQ.out]; simp [*]; done, HB4.out⟩
      · cases nm
        · have z0 : True := trivial
          go_wp2_with (first
            | (clear tj37; refine wpList_okx (exec_load24n (n := q.n) (.tmp 37) rfl rfl HQn3.out) rfl ?_)
            | (clear tj39; refine wpList_okx (exec_load24n (n := q.a) (.tmp 39) rfl rfl HQa3.out) rfl ?_)
            | (refine wpList_okx (exec_eql24 (a := q.n) (b := q.a) (.tmp 38) (.tmp 40) rfl rfl rfl) rfl ?_; rw [HE1.out])
            | (clear tj43; refine wpList_okx (exec_load24n (n := q.p) (.tmp 43) rfl rfl HQp3.out) rfl ?_)
            | (go_at_call 46; go_must (refine (HP.out _).mono ?_; rintro r w4 ⟨rfl, hb4⟩; have HQ4 : Hid (Opb w4 B0 q) := HQ3.out.below hb4; have HB4 : Hid (Below w.heap.size w w4) := bnext HB3.out hb4; have d8 := Blk.cell HQ4.out 8 _ rfl; clear hb4))
            | (go_at_call 47; go_must (refine (HM.out _).mono ?_; rintro r w5 ⟨rfl, hw⟩; replace hw := hw.symm; subst hw)))
          go_ret
          exact ⟨by rw [HQ.out]; simp [*]; done, HB4.out⟩
        · have z0 : True := trivial
          go_wp2_with (first
            | (clear tj37; refine wpList_okx (exec_load24n (n := q.n) (.tmp 37) rfl rfl HQn3.out) rfl ?_)
            | (clear tj39; refine wpList_okx (exec_load24n (n := q.a) (.tmp 39) rfl rfl HQa3.out) rfl ?_)
            | (refine wpList_okx (exec_eql24 (a := q.n) (b := q.a) (.tmp 38) (.tmp 40) rfl rfl rfl) rfl ?_; rw [HE1.out])
            | (clear tj43; refine wpList_okx (exec_load24n (n := q.p) (.tmp 43) rfl rfl HQp3.out) rfl ?_)
            | (go_at_call 46; go_must (refine (HP.out _).mono ?_; rintro r w4 ⟨rfl, hb4⟩; have HQ4 : Hid (Opb w4 B0 q) := HQ3.out.below hb4; have HB4 : Hid (Below w.heap.size w w4) := bnext HB3.out hb4; have d8 := Blk.cell HQ4.out 8 _ rfl; clear hb4))
            | (go_at_call 47; go_must (refine (HM.out _).mono ?_; rintro r w5 ⟨rfl, hw⟩; replace hw := hw.symm; subst hw)))
          go_ret
          exact ⟨by rw [HQ.out]; simp [*]; done, HB4.out⟩
  have k1b : (q.k == 1) = false := by simp [k1]
  have k1c : (q.k != 1) = true := by simp [k1]
  cases hd : q.d
  case true =>
    have HD : Hid (q.d = true) := hd
    go_wp2_with (first
      | (clear tk1; refine wpList_okx (exec_load24n (n := q.a) (.tmp 3) rfl rfl HQa.out) rfl ?_)
      | (go_at_call 45; clear tk2; go_must (refine (HA.out _).mono ?_; rintro r w2 ⟨rfl, hb2⟩; have HQ2 : Hid (Opb w2 B0 q) := HQ1.out.below hb2; have HQn2 : Hid (w2.rangeAt B0 3 (sc q.n)) := HQ2.out.node; have HB2 : Hid (Below w.heap.size w w2) := bnext HB1.out hb2; clear hb2))
      | (clear tk3; refine wpList_okx (exec_load24n (n := q.n) (.tmp 8) rfl rfl HQn2.out) rfl ?_)
      | (go_at_call 45; clear tk4; go_must (refine (HN.out _).mono ?_; rintro r w3 ⟨rfl, hb3⟩; have HQ3 : Hid (Opb w3 B0 q) := HQ2.out.below hb3; have HQn3 : Hid (w3.rangeAt B0 3 (sc q.n)) := HQ3.out.node; have HQa3 : Hid (w3.rangeAt B0 1 (sc q.a)) := HQ3.out.at; have HQp3 : Hid (w3.rangeAt B0 5 (sc q.p)) := HQ3.out.par; have HB3 : Hid (Below w.heap.size w w3) := bnext HB2.out hb3; have c0 := Blk.cell HQ3.out 0 _ rfl; have c7 := Blk.cell HQ3.out 7 _ rfl; have c8 := Blk.cell HQ3.out 8 _ rfl; have c9 := Blk.cell HQ3.out 9 _ rfl; rw [HV.out] at c9; rw [HD.out] at c7; clear hb3)))
    go_ret
    exact ⟨by rw [HQ.out]; simp [*]; done, HB3.out⟩
  have HD : Hid (q.d = false) := hd
  go_upto_region 3 with (first
    | (clear tk1; refine wpList_okx (exec_load24n (n := q.a) (.tmp 3) rfl rfl HQa.out) rfl ?_)
    | (go_at_call 45; clear tk2; go_must (refine (HA.out _).mono ?_; rintro r w2 ⟨rfl, hb2⟩; have HQ2 : Hid (Opb w2 B0 q) := HQ1.out.below hb2; have HQn2 : Hid (w2.rangeAt B0 3 (sc q.n)) := HQ2.out.node; have HB2 : Hid (Below w.heap.size w w2) := bnext HB1.out hb2; clear hb2))
    | (clear tk3; refine wpList_okx (exec_load24n (n := q.n) (.tmp 8) rfl rfl HQn2.out) rfl ?_)
    | (go_at_call 45; clear tk4; go_must (refine (HN.out _).mono ?_; rintro r w3 ⟨rfl, hb3⟩; have HQ3 : Hid (Opb w3 B0 q) := HQ2.out.below hb3; have HQn3 : Hid (w3.rangeAt B0 3 (sc q.n)) := HQ3.out.node; have HQa3 : Hid (w3.rangeAt B0 1 (sc q.a)) := HQ3.out.at; have HQp3 : Hid (w3.rangeAt B0 5 (sc q.p)) := HQ3.out.par; have HB3 : Hid (Below w.heap.size w w3) := bnext HB2.out hb3; have c0 := Blk.cell HQ3.out 0 _ rfl; have c7 := Blk.cell HQ3.out 7 _ rfl; have c8 := Blk.cell HQ3.out 8 _ rfl; have c9 := Blk.cell HQ3.out 9 _ rfl; rw [HV.out] at c9; rw [HD.out] at c7; clear hb3)))
  clear HQa HA HN HQ1 HQn2 HQ2
  by_cases k2 : q.k = 2
  · rw [k2] at c0
    have tj54 : Hid True := trivial
    cases pl
    · have z0 : True := trivial
      go_wp2_with (first
        | (clear tj54; refine wpList_okx (exec_load24n (n := q.p) (.tmp 54) rfl rfl HQp3.out) rfl ?_)
        | (go_at_call 46; go_must (refine (HP.out _).mono ?_; rintro r w4 ⟨rfl, hb4⟩; have HQ4 : Hid (Opb w4 B0 q) := HQ3.out.below hb4; have HB4 : Hid (Below w.heap.size w w4) := bnext HB3.out hb4; have d8 := Blk.cell HQ4.out 8 _ rfl; clear hb4)))
      go_ret
      exact ⟨by rw [HQ.out]; simp [*]; done, HB4.out⟩
    · cases nm
      · have z0 : True := trivial
        go_wp2_with (first
          | (clear tj54; refine wpList_okx (exec_load24n (n := q.p) (.tmp 54) rfl rfl HQp3.out) rfl ?_)
          | (go_at_call 46; go_must (refine (HP.out _).mono ?_; rintro r w4 ⟨rfl, hb4⟩; have HQ4 : Hid (Opb w4 B0 q) := HQ3.out.below hb4; have HB4 : Hid (Below w.heap.size w w4) := bnext HB3.out hb4; have d8 := Blk.cell HQ4.out 8 _ rfl; clear hb4))
          | (go_at_call 47; go_must (refine (HM.out _).mono ?_; rintro r w5 ⟨rfl, hw⟩; replace hw := hw.symm; subst hw)))
        go_ret
        exact ⟨by rw [HQ.out]; simp [*]; done, HB4.out⟩
      · have z0 : True := trivial
        go_wp2_with (first
          | (clear tj54; refine wpList_okx (exec_load24n (n := q.p) (.tmp 54) rfl rfl HQp3.out) rfl ?_)
          | (go_at_call 46; go_must (refine (HP.out _).mono ?_; rintro r w4 ⟨rfl, hb4⟩; have HQ4 : Hid (Opb w4 B0 q) := HQ3.out.below hb4; have HB4 : Hid (Below w.heap.size w w4) := bnext HB3.out hb4; have d8 := Blk.cell HQ4.out 8 _ rfl; clear hb4))
          | (go_at_call 47; go_must (refine (HM.out _).mono ?_; rintro r w5 ⟨rfl, hw⟩; replace hw := hw.symm; subst hw)))
        go_ret
        exact ⟨by rw [HQ.out]; simp [*]; done, HB4.out⟩
  have k2b : (q.k == 2) = false := by simp [k2]
  by_cases k3 : q.k = 3
  · rw [k3] at c0
    have tj64 : Hid True := trivial
    cases h1 : decide (q.p = (0, 0))
    · have HZ : Hid (decide (q.p = (0, 0)) = false) := h1
      go_wp2_with (first
        | (clear tj64; refine wpList_okx (exec_load24n (n := q.p) (.tmp 64) rfl rfl HQp3.out) rfl ?_)
        | (refine wpList_okx (exec_eql24 (a := q.p) (b := (0, 0)) (.tmp 65) (.tmp 66) rfl rfl rfl) rfl ?_; rw [HZ.out]))
      go_ret
      exact ⟨by rw [HQ.out]; simp [*]; done, HB3.out⟩
    · have HZ : Hid (decide (q.p = (0, 0)) = true) := h1
      cases h2 : (q.s.toList == [])
      · have z0 : True := trivial
        go_wp2_with (first
          | (clear tj64; refine wpList_okx (exec_load24n (n := q.p) (.tmp 64) rfl rfl HQp3.out) rfl ?_)
          | (refine wpList_okx (exec_eql24 (a := q.p) (b := (0, 0)) (.tmp 65) (.tmp 66) rfl rfl rfl) rfl ?_; rw [HZ.out]))
        go_ret
        exact ⟨by rw [HQ.out]; simp [*]; done, HB3.out⟩
      · have z0 : True := trivial
        go_wp2_with (first
          | (clear tj64; refine wpList_okx (exec_load24n (n := q.p) (.tmp 64) rfl rfl HQp3.out) rfl ?_)
          | (refine wpList_okx (exec_eql24 (a := q.p) (b := (0, 0)) (.tmp 65) (.tmp 66) rfl rfl rfl) rfl ?_; rw [HZ.out]))
        go_ret
        exact ⟨by rw [HQ.out]; simp [*]; done, HB3.out⟩
  have k3b : (q.k == 3) = false := by simp [k3]
  go_wp2
  go_ret
  exact ⟨by rw [HQ.out]; simp [*]; done, HB3.out⟩
end Go.Proofs.YthnjbjlhfohpfaaGreat
