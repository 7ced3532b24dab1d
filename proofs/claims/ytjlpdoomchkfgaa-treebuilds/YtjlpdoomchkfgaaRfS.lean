/-
  The reference's Name and Right.
  The reference's place and Right.
  The reference's Right.
-/
import Derived.Test.YtjlpdoomchkfgaaRgt
import Derived.Test.YtjlpdoomchkfgaaMvs
import Derived.Test.YtjlpdoomchkfgaaTsA
import Derived.Test.YtjlpdoomchkfgaaTrU
import Derived.Test.YtjlpdoomchkfgaaTrT
namespace Go.Proofs.Ytjlpdoomchkfgaa
section
set_option linter.unusedVariables false
set_option linter.unusedSimpArgs false
set_option synthInstance.maxSize 20000
set_option maxHeartbeats 2000000
set_option maxRecDepth 20000
open Go.RowKit Go.Maps

theorem bar_iff (n : Nat) : bar n = true ↔ n < 32 ∨ n = 127 ∨ n = 47 ∨ n = 126 := by
  unfold bar
  simp [or_assoc]
theorem name62 (s : ByteArray) (w : World) : Calls Try.prog 62 #[.string s] w fun e w' => e = .returned (.bool (nameB s)) ∧ w' = w := by
  have HN : Hid (nameB s = (decide (1 ≤ s.size ∧ s.size ≤ 24) && !(s.toList == [46]) && !(s.toList == [46, 46]) && !hasBar s)) := (rfl : nameB s = _)
  by_cases h1 : s.size < 1
  · have h1' : (s.size : Int) < 1 := by omega
    have HE : Hid (nameB s = false) := by
      show _ = _
      rw [HN.out, decide_eq_false (by omega)]; rfl
    go_enter Try.func62, Try.ntmps62
    go_wp2
    go_ret
    exact ⟨by rw [HE.out]; rfl, rfl⟩
  · have h1' : ¬ (s.size : Int) < 1 := by omega
    by_cases h2 : 24 < s.size
    · have h2' : (24 : Int) < (s.size : Int) := by omega
      have HE : Hid (nameB s = false) := by
        show _ = _
        rw [HN.out, decide_eq_false (by omega)]; rfl
      go_enter Try.func62, Try.ntmps62
      go_wp2
      go_ret
      exact ⟨by rw [HE.out]; rfl, rfl⟩
    · have h2' : ¬ (24 : Int) < (s.size : Int) := by omega
      have HN2 : Hid (nameB s = (!(s.toList == [46]) && !(s.toList == [46, 46]) && !hasBar s)) := by
        show _ = _
        rw [HN.out, decide_eq_true (by omega)]; simp
      clear HN
      by_cases h3 : s.toList = [46]
      · have h3b : (s.toList == [46]) = true := by simp [h3]
        have HE : Hid (nameB s = false) := by show _ = _; rw [HN2.out, h3b]; rfl
        go_enter Try.func62, Try.ntmps62
        go_wp2
        go_ret
        exact ⟨by rw [HE.out]; rfl, rfl⟩
      · have h3b : (s.toList == [46]) = false := by simp [h3]
        by_cases h4 : s.toList = [46, 46]
        · have h4b : (s.toList == [46, 46]) = true := by simp [h4]
          have HE : Hid (nameB s = false) := by show _ = _; rw [HN2.out, h4b]; simp
          go_enter Try.func62, Try.ntmps62
          go_wp2
          go_ret
          exact ⟨by rw [HE.out]; rfl, rfl⟩
        · have h4b : (s.toList == [46, 46]) = false := by simp [h4]
          have HN3 : Hid (nameB s = !hasBar s) := by show _ = _; rw [HN2.out, h3b, h4b]; simp
          have HS : Hid (s.size ≤ 24) := by show _ ≤ _; omega
          clear HN2
          go_enter Try.func62, Try.ntmps62
          go_wp2
          clear h1 h1' h2 h2' h3 h3b h4 h4b
          go_loopw [3] (fun i wr => ∃ (k : Nat), i = .int .i64 (k : Int) ∧ k ≤ s.size ∧ Hid (∀ j, j < k → bar (s.get! j).toNat = false) ∧ wr = w) (fun i _ => s.size - (intOf i).toNat)
          case atStart => exact ⟨0, rfl, Nat.zero_le _, fun j hj => by omega, rfl⟩
          case round =>
            obtain ⟨k, rfl, hk, HJ, rfl⟩ := hrel
            have hs24 : s.size ≤ 24 := HS.out
            by_cases hlt : k < s.size
            · have hkI : (k : Int) < (s.size : Int) := by omega
              have e1 : s.get! k = s[k] := by
                have h1 := get_list s k hlt
                have h2 : s.data.toList[k]? = some s[k] := by
                  simp [Array.getElem?_toList]
                  exact Array.getElem?_eq_getElem hlt
                exact Option.some.inj (h1.symm.trans h2)
              have HB : Hid (bar s[k].toNat = true → nameB s = false) := fun hb => by
                rw [HN3.out, (hasBar_iff s).2 ⟨k, hlt, by rw [e1]; exact hb⟩]
                rfl
              have HG : Hid (bar s[k].toNat = false → ∀ j, j < k + 1 → bar (s.get! j).toNat = false) := fun hb j hj => by
                by_cases e : j = k
                · subst e; rw [e1]; exact hb
                · exact HJ.out j (by omega)
              clear e1
              by_cases c1 : s[k].toNat < 32
              · have c1I : (s[k].toNat : Int) < 32 := by omega
                have HF : Hid (nameB s = false) := HB.out ((bar_iff _).2 (by omega))
                clear HB HG
                go_wp2
                go_ret
                exact ⟨by rw [HF.out]; rfl, rfl⟩
              · have c1I : ¬ (s[k].toNat : Int) < 32 := by omega
                by_cases c2 : s[k].toNat = 127
                · have c2I : ((s[k].toNat : Int) == 127) = true := by rw [c2]; rfl
                  have HF : Hid (nameB s = false) := HB.out ((bar_iff _).2 (by omega))
                  clear HB HG
                  go_wp2
                  go_ret
                  exact ⟨by rw [HF.out]; rfl, rfl⟩
                · have c2I : ((s[k].toNat : Int) == 127) = false := by simp; omega
                  by_cases c3 : s[k].toNat = 47
                  · have c3I : ((s[k].toNat : Int) == 47) = true := by rw [c3]; rfl
                    have HF : Hid (nameB s = false) := HB.out ((bar_iff _).2 (by omega))
                    clear HB HG
                    go_wp2
                    go_ret
                    exact ⟨by rw [HF.out]; rfl, rfl⟩
                  · have c3I : ((s[k].toNat : Int) == 47) = false := by simp; omega
                    by_cases c4 : s[k].toNat = 126
                    · have c4I : ((s[k].toNat : Int) == 126) = true := by rw [c4]; rfl
                      have HF : Hid (nameB s = false) := HB.out ((bar_iff _).2 (by omega))
                      clear HB HG
                      go_wp2
                      go_ret
                      exact ⟨by rw [HF.out]; rfl, rfl⟩
                    · have c4I : ((s[k].toNat : Int) == 126) = false := by simp; omega
                      have HJ2 : Hid (∀ j, j < k + 1 → bar (s.get! j).toNat = false) := HG.out (by
                        cases hb : bar s[k].toNat with
                        | false => rfl
                        | true => have h5 := (bar_iff _).1 hb; omega)
                      clear HB HG
                      go_wp2
                      go_roundw
                      case rel => exact ⟨k + 1, by go_num, by omega, HJ2, trivial⟩
                      case measure => simp [intOf]; omega
            · have hkI : ¬ (k : Int) < (s.size : Int) := by omega
              have HF : Hid (nameB s = true) := by
                show _ = _
                rw [HN3.out]
                cases hb : hasBar s with
                | false => rfl
                | true =>
                  obtain ⟨i, hi, hb⟩ := (hasBar_iff s).1 hb
                  rw [HJ.out i (by omega)] at hb
                  cases hb
              go_wp2
              go_ret
              exact ⟨by rw [HF.out]; rfl, rfl⟩
end

section
set_option linter.unusedVariables false
set_option linter.unusedSimpArgs false
set_option synthInstance.maxSize 20000
set_option maxHeartbeats 2000000
set_option maxRecDepth 20000
open Go.RowKit Go.Maps

theorem wpList_okx {P : Program} {w w' : World} {ops : Array Oper} {rest : List Oper} {o : Oper} {a : Act} {Q : Exit → Act → World → Prop} {v : Value} (hr : (execOp a.eval o).run P w = .ok (.value v) w') (hw : Region.wanted o (yielded ops a.tmps) = true) (h : wpList P ops Q rest (a.put o.dst v) w') : wpList P ops Q (o :: rest) a w := wpList_okw hw hr h
theorem sameAt_dec (s t : S) : sameAt s t = decide (s = t) := by
  obtain ⟨a, b⟩ := s
  obtain ⟨c, d⟩ := t
  show (a == c && b == d) = _
  by_cases h1 : a = c <;> by_cases h2 : b = d <;> simp [h1, h2]
def placeB (s : S) : Bool := decide (s = (0, 0)) || rightB s
theorem place61 (s : S) (w : World) : Calls Try.prog 61 #[sv s] w fun e w' => e = .returned (.bool (placeB s)) ∧ Below w.heap.size w w' := by
  have HP : Hid (∀ w', Calls Try.prog 60 #[sv s] w' fun e w'' => e = .returned (.bool (rightB s)) ∧ Below w'.heap.size w' w'') := fun w' => refright_any s w'
  have HQ : Hid (placeB s = (decide (s = (0, 0)) || rightB s)) := (rfl : placeB s = _)
  generalize placeB s = pb at HQ
  generalize rightB s = rb at HP HQ
  obtain ⟨w1, hw1⟩ : ∃ w1, w1 = w.alloc (.cells (sc s).toArray 24) := ⟨_, rfl⟩
  obtain ⟨B0, hB0⟩ : ∃ B0, B0 = w.heap.size := ⟨_, rfl⟩
  obtain ⟨i1, i2⟩ := box_new hw1 hB0
  have HB1 : Hid (Below w.heap.size w w1) := i1
  have HX : Hid (w1.rangeAt B0 0 (sc s)) := i2.range0
  clear i1 i2
  go_enter Try.func61, Try.ntmps61
  go_upto_region 1 with (refine wpList_okw rfl (exec_box24 (n := s) (.tmp 0) rfl rfl) ?_)
  rw [← hw1, ← hB0]
  clear hw1 hB0
  cases hE : decide (s = (0, 0))
  · rw [hE] at HQ
    have HE : Hid (decide (s = (0, 0)) = false) := hE
    clear hE
    go_wp2_with (first
      | (refine wpList_okw rfl (exec_load24n (n := s) (.tmp 1) rfl rfl HX.out) ?_)
      | (refine wpList_okw rfl (exec_eql24 (a := s) (b := (0, 0)) (.tmp 3) (.tmp 4) rfl rfl rfl) ?_; rw [HE.out])
      | (go_at_call 60; go_must (refine (HP.out _).mono ?_; rintro r w2 ⟨rfl, hb2⟩; have HB2 : Hid (Below w.heap.size w w2) := bnext HB1.out hb2; clear hb2)))
    go_ret
    exact ⟨by rw [HQ.out]; rfl, HB2.out⟩
  · rw [hE] at HQ
    have HE : Hid (decide (s = (0, 0)) = true) := hE
    clear hE
    go_wp2_with (first
      | (refine wpList_okw rfl (exec_load24n (n := s) (.tmp 1) rfl rfl HX.out) ?_)
      | (refine wpList_okw rfl (exec_eql24 (a := s) (b := (0, 0)) (.tmp 3) (.tmp 4) rfl rfl rfl) ?_; rw [HE.out]))
    go_ret
    exact ⟨by rw [HQ.out]; rfl, HB1.out⟩
theorem rightO_form (q : OpT) : rightO q = (rightB q.a && rightB q.n && !(!decide (q.k = 4) && decide (0 < q.vn)) && !(!decide (q.k = 1) && q.d) && (if q.k = 1 then decide (q.n = q.a) && placeB q.p && nameB q.s else if q.k = 2 then placeB q.p && nameB q.s else if q.k = 3 then decide (q.p = (0, 0)) && (q.s.toList == []) else if q.k = 4 then decide (q.p = (0, 0)) && (q.s.toList == []) && decide (q.vn ≤ 400) else false)) := by
  unfold rightO placedB bareB placeB
  simp only [sameAt_dec]
  have e0 : ((q.vn : Int) == 0) = !decide (0 < q.vn) := by
    by_cases h : 0 < q.vn
    · simp [h]; omega
    · have : q.vn = 0 := by omega
      simp [this]
  have e4 : decide ((q.vn : Int) ≤ 400) = decide (q.vn ≤ 400) := by
    by_cases h : q.vn ≤ 400
    · rw [decide_eq_true h, decide_eq_true (by omega)]
    · rw [decide_eq_false h, decide_eq_false (by omega)]
  rw [e0, e4]
  generalize decide (0 < q.vn) = v0
  generalize decide (q.vn ≤ 400) = v4
  generalize decide (q.p = (0, 0)) = z
  generalize rightB q.p = rp
  generalize nameB q.s = nm
  generalize (q.s.toList == []) = em
  generalize q.d = d
  by_cases k1 : q.k = 1
  · simp only [k1, if_pos rfl, decide_true]
    by_cases e : q.n = q.a
    · rw [e]
      simp only [decide_true]
      generalize rightB q.a = ra
      revert v0 v4 z rp nm em d ra
      decide
    · rw [decide_eq_false e]
      simp
  · by_cases k2 : q.k = 2
    · simp only [k1, k2, if_pos rfl]
      generalize rightB q.a = ra
      generalize rightB q.n = rn
      generalize decide (q.n = q.a) = e1
      revert v0 v4 z rp nm em d ra rn e1
      decide
    · by_cases k3 : q.k = 3
      · simp only [k1, k2, k3, if_pos rfl]
        generalize rightB q.a = ra
        generalize rightB q.n = rn
        generalize decide (q.n = q.a) = e1
        revert v0 v4 z rp nm em d ra rn e1
        decide
      · by_cases k4 : q.k = 4
        · simp only [k1, k2, k3, k4, if_pos rfl]
          generalize rightB q.a = ra
          generalize rightB q.n = rn
          generalize decide (q.n = q.a) = e1
          revert v0 v4 z rp nm em d ra rn e1
          decide
        · simp [k1, k2, k3, k4]
end

section
set_option linter.unusedVariables false
set_option linter.unusedSimpArgs false
set_option synthInstance.maxSize 20000
set_option maxHeartbeats 2000000
set_option maxRecDepth 20000
open Go.RowKit Go.Maps

set_option maxHeartbeats 4000000 in
theorem right36 (q : OpT) (w : World) : Calls Try.prog 36 #[ov q] w fun e w' => e = .returned (.bool (rightO q)) ∧ Below w.heap.size w w' := by
  have HA : Hid (∀ w', Calls Try.prog 60 #[sv q.a] w' fun e w'' => e = .returned (.bool (rightB q.a)) ∧ Below w'.heap.size w' w'') := fun w' => refright_any q.a w'
  have HN : Hid (∀ w', Calls Try.prog 60 #[sv q.n] w' fun e w'' => e = .returned (.bool (rightB q.n)) ∧ Below w'.heap.size w' w'') := fun w' => refright_any q.n w'
  have HP : Hid (∀ w', Calls Try.prog 61 #[sv q.p] w' fun e w'' => e = .returned (.bool (placeB q.p)) ∧ Below w'.heap.size w' w'') := fun w' => place61 q.p w'
  have HM : Hid (∀ w', Calls Try.prog 62 #[.string q.s] w' fun e w'' => e = .returned (.bool (nameB q.s)) ∧ w'' = w') := fun w' => name62 q.s w'
  have HQ : Hid (rightO q = _) := rightO_form q
  generalize rightB q.a = ra at HA HQ
  generalize rightB q.n = rn at HN HQ
  generalize placeB q.p = pl at HP HQ
  generalize nameB q.s = nm at HM HQ
  generalize rightO q = rq at HQ ⊢
  obtain ⟨w1, hw1⟩ : ∃ w1, w1 = w.alloc (.cells (oc q).toArray 40) := ⟨_, rfl⟩
  obtain ⟨B0, hB0⟩ : ∃ B0, B0 = w.heap.size := ⟨_, rfl⟩
  obtain ⟨i1, i2⟩ := box_op hw1 hB0
  have HB1 : Hid (Below w.heap.size w w1) := i1
  have HQ1 : Hid (Opb w1 B0 q) := i2
  have HQa : Hid (w1.rangeAt B0 1 (sc q.a)) := i2.at
  clear i1 i2
  have tk1 : Hid True := trivial
  have tk2 : Hid True := trivial
  have tk3 : Hid True := trivial
  have tk4 : Hid True := trivial
  go_enter Try.func36, Try.ntmps36
  go_upto_region 1 with (refine wpList_okw rfl (exec_box40 (q := q) (.tmp 0) rfl rfl) ?_)
  rw [← hw1, ← hB0]
  clear hw1 hB0
  cases ra
  · have z0 : True := trivial
    go_wp2_with (first
      | (clear tk1; refine wpList_okx (exec_load24n (n := q.a) (.tmp 3) rfl rfl HQa.out) rfl ?_)
      | (go_at_call 60; clear tk2; go_must (refine (HA.out _).mono ?_; rintro r w2 ⟨rfl, hb2⟩; have HQ2 : Hid (Opb w2 B0 q) := HQ1.out.below hb2; have HQn2 : Hid (w2.rangeAt B0 3 (sc q.n)) := HQ2.out.node; have HB2 : Hid (Below w.heap.size w w2) := bnext HB1.out hb2; clear hb2)))
    go_ret
    exact ⟨by rw [HQ.out]; simp [*]; done, HB2.out⟩
  cases rn
  · have z0 : True := trivial
    go_wp2_with (first
      | (clear tk1; refine wpList_okx (exec_load24n (n := q.a) (.tmp 3) rfl rfl HQa.out) rfl ?_)
      | (go_at_call 60; clear tk2; go_must (refine (HA.out _).mono ?_; rintro r w2 ⟨rfl, hb2⟩; have HQ2 : Hid (Opb w2 B0 q) := HQ1.out.below hb2; have HQn2 : Hid (w2.rangeAt B0 3 (sc q.n)) := HQ2.out.node; have HB2 : Hid (Below w.heap.size w w2) := bnext HB1.out hb2; clear hb2))
      | (clear tk3; refine wpList_okx (exec_load24n (n := q.n) (.tmp 8) rfl rfl HQn2.out) rfl ?_)
      | (go_at_call 60; clear tk4; go_must (refine (HN.out _).mono ?_; rintro r w3 ⟨rfl, hb3⟩; have HQ3 : Hid (Opb w3 B0 q) := HQ2.out.below hb3; have HQn3 : Hid (w3.rangeAt B0 3 (sc q.n)) := HQ3.out.node; have HQa3 : Hid (w3.rangeAt B0 1 (sc q.a)) := HQ3.out.at; have HQp3 : Hid (w3.rangeAt B0 5 (sc q.p)) := HQ3.out.par; have HB3 : Hid (Below w.heap.size w w3) := bnext HB2.out hb3; have c0 := Blk.cell HQ3.out 0 _ rfl; have c7 := Blk.cell HQ3.out 7 _ rfl; have c8 := Blk.cell HQ3.out 8 _ rfl; have c9 := Blk.cell HQ3.out 9 _ rfl; clear hb3)))
    go_ret
    exact ⟨by rw [HQ.out]; simp [*]; done, HB3.out⟩
  by_cases k4 : q.k = 4
  · have k1 : ¬ q.k = 1 := by omega
    have k2 : ¬ q.k = 2 := by omega
    have k3 : ¬ q.k = 3 := by omega
    cases hd : q.d
    · have HD : Hid (q.d = false) := hd
      go_upto_region 3 with (first
        | (clear tk1; refine wpList_okx (exec_load24n (n := q.a) (.tmp 3) rfl rfl HQa.out) rfl ?_)
        | (go_at_call 60; clear tk2; go_must (refine (HA.out _).mono ?_; rintro r w2 ⟨rfl, hb2⟩; have HQ2 : Hid (Opb w2 B0 q) := HQ1.out.below hb2; have HQn2 : Hid (w2.rangeAt B0 3 (sc q.n)) := HQ2.out.node; have HB2 : Hid (Below w.heap.size w w2) := bnext HB1.out hb2; clear hb2))
        | (clear tk3; refine wpList_okx (exec_load24n (n := q.n) (.tmp 8) rfl rfl HQn2.out) rfl ?_)
        | (go_at_call 60; clear tk4; go_must (refine (HN.out _).mono ?_; rintro r w3 ⟨rfl, hb3⟩; have HQ3 : Hid (Opb w3 B0 q) := HQ2.out.below hb3; have HQn3 : Hid (w3.rangeAt B0 3 (sc q.n)) := HQ3.out.node; have HQa3 : Hid (w3.rangeAt B0 1 (sc q.a)) := HQ3.out.at; have HQp3 : Hid (w3.rangeAt B0 5 (sc q.p)) := HQ3.out.par; have HB3 : Hid (Below w.heap.size w w3) := bnext HB2.out hb3; have c0 := Blk.cell HQ3.out 0 _ rfl; have c7 := Blk.cell HQ3.out 7 _ rfl; have c8 := Blk.cell HQ3.out 8 _ rfl; have c9 := Blk.cell HQ3.out 9 _ rfl; rw [k4] at c0; rw [HD.out] at c7; clear hb3)))
      clear HQa HA HN HQ1 HQn2 HQ2
      have tj75 : Hid True := trivial
      cases h1 : decide (q.p = (0, 0))
      · have HZ : Hid (decide (q.p = (0, 0)) = false) := h1
        go_wp2_with (first
          | (clear tj75; refine wpList_okx (exec_load24n (n := q.p) (.tmp 75) rfl rfl HQp3.out) rfl ?_)
          | (refine wpList_okx (exec_eql24 (a := q.p) (b := (0, 0)) (.tmp 76) (.tmp 77) rfl rfl rfl) rfl ?_; rw [HZ.out]))
        go_ret
        exact ⟨by rw [HQ.out]; simp [*]; done, HB3.out⟩
      · have HZ : Hid (decide (q.p = (0, 0)) = true) := h1
        cases h2 : (q.s.toList == [])
        · have z0 : True := trivial
          go_wp2_with (first
            | (clear tj75; refine wpList_okx (exec_load24n (n := q.p) (.tmp 75) rfl rfl HQp3.out) rfl ?_)
            | (refine wpList_okx (exec_eql24 (a := q.p) (b := (0, 0)) (.tmp 76) (.tmp 77) rfl rfl rfl) rfl ?_; rw [HZ.out]))
          go_ret
          exact ⟨by rw [HQ.out]; simp [*]; done, HB3.out⟩
        · by_cases h4 : q.vn ≤ 400
          · have h4I : (q.vn : Int) ≤ 400 := by omega
            go_wp2_with (first
              | (clear tj75; refine wpList_okx (exec_load24n (n := q.p) (.tmp 75) rfl rfl HQp3.out) rfl ?_)
              | (refine wpList_okx (exec_eql24 (a := q.p) (b := (0, 0)) (.tmp 76) (.tmp 77) rfl rfl rfl) rfl ?_; rw [HZ.out]))
            go_ret
            exact ⟨by rw [HQ.out]; simp [*]; done, HB3.out⟩
          · have h4I : ¬ (q.vn : Int) ≤ 400 := by omega
            go_wp2_with (first
              | (clear tj75; refine wpList_okx (exec_load24n (n := q.p) (.tmp 75) rfl rfl HQp3.out) rfl ?_)
              | (refine wpList_okx (exec_eql24 (a := q.p) (b := (0, 0)) (.tmp 76) (.tmp 77) rfl rfl rfl) rfl ?_; rw [HZ.out]))
            go_ret
            exact ⟨by rw [HQ.out]; simp [*]; done, HB3.out⟩
    · have HD : Hid (q.d = true) := hd
      go_wp2_with (first
        | (clear tk1; refine wpList_okx (exec_load24n (n := q.a) (.tmp 3) rfl rfl HQa.out) rfl ?_)
        | (go_at_call 60; clear tk2; go_must (refine (HA.out _).mono ?_; rintro r w2 ⟨rfl, hb2⟩; have HQ2 : Hid (Opb w2 B0 q) := HQ1.out.below hb2; have HQn2 : Hid (w2.rangeAt B0 3 (sc q.n)) := HQ2.out.node; have HB2 : Hid (Below w.heap.size w w2) := bnext HB1.out hb2; clear hb2))
        | (clear tk3; refine wpList_okx (exec_load24n (n := q.n) (.tmp 8) rfl rfl HQn2.out) rfl ?_)
        | (go_at_call 60; clear tk4; go_must (refine (HN.out _).mono ?_; rintro r w3 ⟨rfl, hb3⟩; have HQ3 : Hid (Opb w3 B0 q) := HQ2.out.below hb3; have HQn3 : Hid (w3.rangeAt B0 3 (sc q.n)) := HQ3.out.node; have HQa3 : Hid (w3.rangeAt B0 1 (sc q.a)) := HQ3.out.at; have HQp3 : Hid (w3.rangeAt B0 5 (sc q.p)) := HQ3.out.par; have HB3 : Hid (Below w.heap.size w w3) := bnext HB2.out hb3; have c0 := Blk.cell HQ3.out 0 _ rfl; have c7 := Blk.cell HQ3.out 7 _ rfl; have c8 := Blk.cell HQ3.out 8 _ rfl; have c9 := Blk.cell HQ3.out 9 _ rfl; rw [k4] at c0; rw [HD.out] at c7; clear hb3)))
      go_ret
      exact ⟨by rw [HQ.out]; simp [*]; done, HB3.out⟩
  have k4b : (q.k == 4) = false := by simp [k4]
  have k4c : (q.k != 4) = true := by simp [k4]
  by_cases hv : 0 < q.vn
  · have hvI : (0 : Int) < (q.vn : Int) := by omega
    have hvb : decide (0 < q.vn) = true := decide_eq_true hv
    go_wp2_with (first
      | (clear tk1; refine wpList_okx (exec_load24n (n := q.a) (.tmp 3) rfl rfl HQa.out) rfl ?_)
      | (go_at_call 60; clear tk2; go_must (refine (HA.out _).mono ?_; rintro r w2 ⟨rfl, hb2⟩; have HQ2 : Hid (Opb w2 B0 q) := HQ1.out.below hb2; have HQn2 : Hid (w2.rangeAt B0 3 (sc q.n)) := HQ2.out.node; have HB2 : Hid (Below w.heap.size w w2) := bnext HB1.out hb2; clear hb2))
      | (clear tk3; refine wpList_okx (exec_load24n (n := q.n) (.tmp 8) rfl rfl HQn2.out) rfl ?_)
      | (go_at_call 60; clear tk4; go_must (refine (HN.out _).mono ?_; rintro r w3 ⟨rfl, hb3⟩; have HQ3 : Hid (Opb w3 B0 q) := HQ2.out.below hb3; have HQn3 : Hid (w3.rangeAt B0 3 (sc q.n)) := HQ3.out.node; have HQa3 : Hid (w3.rangeAt B0 1 (sc q.a)) := HQ3.out.at; have HQp3 : Hid (w3.rangeAt B0 5 (sc q.p)) := HQ3.out.par; have HB3 : Hid (Below w.heap.size w w3) := bnext HB2.out hb3; have c0 := Blk.cell HQ3.out 0 _ rfl; have c7 := Blk.cell HQ3.out 7 _ rfl; have c8 := Blk.cell HQ3.out 8 _ rfl; have c9 := Blk.cell HQ3.out 9 _ rfl; clear hb3)))
    go_ret
    exact ⟨by rw [HQ.out]; simp [*]; done, HB3.out⟩
  have HV : Hid (q.vn = 0) := by show _ = _; omega
  by_cases k1 : q.k = 1
  · have z1 : True := trivial
    go_upto_region 3 with (first
      | (clear tk1; refine wpList_okx (exec_load24n (n := q.a) (.tmp 3) rfl rfl HQa.out) rfl ?_)
      | (go_at_call 60; clear tk2; go_must (refine (HA.out _).mono ?_; rintro r w2 ⟨rfl, hb2⟩; have HQ2 : Hid (Opb w2 B0 q) := HQ1.out.below hb2; have HQn2 : Hid (w2.rangeAt B0 3 (sc q.n)) := HQ2.out.node; have HB2 : Hid (Below w.heap.size w w2) := bnext HB1.out hb2; clear hb2))
      | (clear tk3; refine wpList_okx (exec_load24n (n := q.n) (.tmp 8) rfl rfl HQn2.out) rfl ?_)
      | (go_at_call 60; clear tk4; go_must (refine (HN.out _).mono ?_; rintro r w3 ⟨rfl, hb3⟩; have HQ3 : Hid (Opb w3 B0 q) := HQ2.out.below hb3; have HQn3 : Hid (w3.rangeAt B0 3 (sc q.n)) := HQ3.out.node; have HQa3 : Hid (w3.rangeAt B0 1 (sc q.a)) := HQ3.out.at; have HQp3 : Hid (w3.rangeAt B0 5 (sc q.p)) := HQ3.out.par; have HB3 : Hid (Below w.heap.size w w3) := bnext HB2.out hb3; have c0 := Blk.cell HQ3.out 0 _ rfl; have c7 := Blk.cell HQ3.out 7 _ rfl; have c8 := Blk.cell HQ3.out 8 _ rfl; have c9 := Blk.cell HQ3.out 9 _ rfl; rw [k1] at c0; rw [HV.out] at c9; clear hb3)))
    clear HQa HA HN HQ1 HQn2 HQ2
    have tj37 : Hid True := trivial
    have tj39 : Hid True := trivial
    have tj43 : Hid True := trivial
    cases h1 : decide (q.n = q.a)
    · have HE1 : Hid (decide (q.n = q.a) = false) := h1
      go_wp2_with (first
        | (clear tj37; refine wpList_okx (exec_load24n (n := q.n) (.tmp 37) rfl rfl HQn3.out) rfl ?_)
        | (clear tj39; refine wpList_okx (exec_load24n (n := q.a) (.tmp 39) rfl rfl HQa3.out) rfl ?_)
        | (refine wpList_okx (exec_eql24 (a := q.n) (b := q.a) (.tmp 38) (.tmp 40) rfl rfl rfl) rfl ?_; rw [HE1.out]))
      go_ret
      exact ⟨by rw [HQ.out]; simp [*]; done, HB3.out⟩
    · have HE1 : Hid (decide (q.n = q.a) = true) := h1
      cases pl
      · have z0 : True := trivial
        go_wp2_with (first
          | (clear tj37; refine wpList_okx (exec_load24n (n := q.n) (.tmp 37) rfl rfl HQn3.out) rfl ?_)
          | (clear tj39; refine wpList_okx (exec_load24n (n := q.a) (.tmp 39) rfl rfl HQa3.out) rfl ?_)
          | (refine wpList_okx (exec_eql24 (a := q.n) (b := q.a) (.tmp 38) (.tmp 40) rfl rfl rfl) rfl ?_; rw [HE1.out])
          | (clear tj43; refine wpList_okx (exec_load24n (n := q.p) (.tmp 43) rfl rfl HQp3.out) rfl ?_)
          | (go_at_call 61; go_must (refine (HP.out _).mono ?_; rintro r w4 ⟨rfl, hb4⟩; have HQ4 : Hid (Opb w4 B0 q) := HQ3.out.below hb4; have HB4 : Hid (Below w.heap.size w w4) := bnext HB3.out hb4; have d8 := Blk.cell HQ4.out 8 _ rfl; clear hb4)))
        go_ret
        exact ⟨by rw [HQ.out]; simp [*]; done, HB4.out⟩
      · cases nm
        · have z0 : True := trivial
          go_wp2_with (first
            | (clear tj37; refine wpList_okx (exec_load24n (n := q.n) (.tmp 37) rfl rfl HQn3.out) rfl ?_)
            | (clear tj39; refine wpList_okx (exec_load24n (n := q.a) (.tmp 39) rfl rfl HQa3.out) rfl ?_)
            | (refine wpList_okx (exec_eql24 (a := q.n) (b := q.a) (.tmp 38) (.tmp 40) rfl rfl rfl) rfl ?_; rw [HE1.out])
            | (clear tj43; refine wpList_okx (exec_load24n (n := q.p) (.tmp 43) rfl rfl HQp3.out) rfl ?_)
            | (go_at_call 61; go_must (refine (HP.out _).mono ?_; rintro r w4 ⟨rfl, hb4⟩; have HQ4 : Hid (Opb w4 B0 q) := HQ3.out.below hb4; have HB4 : Hid (Below w.heap.size w w4) := bnext HB3.out hb4; have d8 := Blk.cell HQ4.out 8 _ rfl; clear hb4))
            | (go_at_call 62; go_must (refine (HM.out _).mono ?_; rintro r w5 ⟨rfl, hw⟩; replace hw := hw.symm; subst hw)))
          go_ret
          exact ⟨by rw [HQ.out]; simp [*]; done, HB4.out⟩
        · have z0 : True := trivial
          go_wp2_with (first
            | (clear tj37; refine wpList_okx (exec_load24n (n := q.n) (.tmp 37) rfl rfl HQn3.out) rfl ?_)
            | (clear tj39; refine wpList_okx (exec_load24n (n := q.a) (.tmp 39) rfl rfl HQa3.out) rfl ?_)
            | (refine wpList_okx (exec_eql24 (a := q.n) (b := q.a) (.tmp 38) (.tmp 40) rfl rfl rfl) rfl ?_; rw [HE1.out])
            | (clear tj43; refine wpList_okx (exec_load24n (n := q.p) (.tmp 43) rfl rfl HQp3.out) rfl ?_)
            | (go_at_call 61; go_must (refine (HP.out _).mono ?_; rintro r w4 ⟨rfl, hb4⟩; have HQ4 : Hid (Opb w4 B0 q) := HQ3.out.below hb4; have HB4 : Hid (Below w.heap.size w w4) := bnext HB3.out hb4; have d8 := Blk.cell HQ4.out 8 _ rfl; clear hb4))
            | (go_at_call 62; go_must (refine (HM.out _).mono ?_; rintro r w5 ⟨rfl, hw⟩; replace hw := hw.symm; subst hw)))
          go_ret
          exact ⟨by rw [HQ.out]; simp [*]; done, HB4.out⟩
  have k1b : (q.k == 1) = false := by simp [k1]
  have k1c : (q.k != 1) = true := by simp [k1]
  cases hd : q.d
  case true =>
    have HD : Hid (q.d = true) := hd
    go_wp2_with (first
      | (clear tk1; refine wpList_okx (exec_load24n (n := q.a) (.tmp 3) rfl rfl HQa.out) rfl ?_)
      | (go_at_call 60; clear tk2; go_must (refine (HA.out _).mono ?_; rintro r w2 ⟨rfl, hb2⟩; have HQ2 : Hid (Opb w2 B0 q) := HQ1.out.below hb2; have HQn2 : Hid (w2.rangeAt B0 3 (sc q.n)) := HQ2.out.node; have HB2 : Hid (Below w.heap.size w w2) := bnext HB1.out hb2; clear hb2))
      | (clear tk3; refine wpList_okx (exec_load24n (n := q.n) (.tmp 8) rfl rfl HQn2.out) rfl ?_)
      | (go_at_call 60; clear tk4; go_must (refine (HN.out _).mono ?_; rintro r w3 ⟨rfl, hb3⟩; have HQ3 : Hid (Opb w3 B0 q) := HQ2.out.below hb3; have HQn3 : Hid (w3.rangeAt B0 3 (sc q.n)) := HQ3.out.node; have HQa3 : Hid (w3.rangeAt B0 1 (sc q.a)) := HQ3.out.at; have HQp3 : Hid (w3.rangeAt B0 5 (sc q.p)) := HQ3.out.par; have HB3 : Hid (Below w.heap.size w w3) := bnext HB2.out hb3; have c0 := Blk.cell HQ3.out 0 _ rfl; have c7 := Blk.cell HQ3.out 7 _ rfl; have c8 := Blk.cell HQ3.out 8 _ rfl; have c9 := Blk.cell HQ3.out 9 _ rfl; rw [HV.out] at c9; rw [HD.out] at c7; clear hb3)))
    go_ret
    exact ⟨by rw [HQ.out]; simp [*]; done, HB3.out⟩
  have HD : Hid (q.d = false) := hd
  go_upto_region 3 with (first
    | (clear tk1; refine wpList_okx (exec_load24n (n := q.a) (.tmp 3) rfl rfl HQa.out) rfl ?_)
    | (go_at_call 60; clear tk2; go_must (refine (HA.out _).mono ?_; rintro r w2 ⟨rfl, hb2⟩; have HQ2 : Hid (Opb w2 B0 q) := HQ1.out.below hb2; have HQn2 : Hid (w2.rangeAt B0 3 (sc q.n)) := HQ2.out.node; have HB2 : Hid (Below w.heap.size w w2) := bnext HB1.out hb2; clear hb2))
    | (clear tk3; refine wpList_okx (exec_load24n (n := q.n) (.tmp 8) rfl rfl HQn2.out) rfl ?_)
    | (go_at_call 60; clear tk4; go_must (refine (HN.out _).mono ?_; rintro r w3 ⟨rfl, hb3⟩; have HQ3 : Hid (Opb w3 B0 q) := HQ2.out.below hb3; have HQn3 : Hid (w3.rangeAt B0 3 (sc q.n)) := HQ3.out.node; have HQa3 : Hid (w3.rangeAt B0 1 (sc q.a)) := HQ3.out.at; have HQp3 : Hid (w3.rangeAt B0 5 (sc q.p)) := HQ3.out.par; have HB3 : Hid (Below w.heap.size w w3) := bnext HB2.out hb3; have c0 := Blk.cell HQ3.out 0 _ rfl; have c7 := Blk.cell HQ3.out 7 _ rfl; have c8 := Blk.cell HQ3.out 8 _ rfl; have c9 := Blk.cell HQ3.out 9 _ rfl; rw [HV.out] at c9; rw [HD.out] at c7; clear hb3)))
  clear HQa HA HN HQ1 HQn2 HQ2
  by_cases k2 : q.k = 2
  · rw [k2] at c0
    have tj54 : Hid True := trivial
    cases pl
    · have z0 : True := trivial
      go_wp2_with (first
        | (clear tj54; refine wpList_okx (exec_load24n (n := q.p) (.tmp 54) rfl rfl HQp3.out) rfl ?_)
        | (go_at_call 61; go_must (refine (HP.out _).mono ?_; rintro r w4 ⟨rfl, hb4⟩; have HQ4 : Hid (Opb w4 B0 q) := HQ3.out.below hb4; have HB4 : Hid (Below w.heap.size w w4) := bnext HB3.out hb4; have d8 := Blk.cell HQ4.out 8 _ rfl; clear hb4)))
      go_ret
      exact ⟨by rw [HQ.out]; simp [*]; done, HB4.out⟩
    · cases nm
      · have z0 : True := trivial
        go_wp2_with (first
          | (clear tj54; refine wpList_okx (exec_load24n (n := q.p) (.tmp 54) rfl rfl HQp3.out) rfl ?_)
          | (go_at_call 61; go_must (refine (HP.out _).mono ?_; rintro r w4 ⟨rfl, hb4⟩; have HQ4 : Hid (Opb w4 B0 q) := HQ3.out.below hb4; have HB4 : Hid (Below w.heap.size w w4) := bnext HB3.out hb4; have d8 := Blk.cell HQ4.out 8 _ rfl; clear hb4))
          | (go_at_call 62; go_must (refine (HM.out _).mono ?_; rintro r w5 ⟨rfl, hw⟩; replace hw := hw.symm; subst hw)))
        go_ret
        exact ⟨by rw [HQ.out]; simp [*]; done, HB4.out⟩
      · have z0 : True := trivial
        go_wp2_with (first
          | (clear tj54; refine wpList_okx (exec_load24n (n := q.p) (.tmp 54) rfl rfl HQp3.out) rfl ?_)
          | (go_at_call 61; go_must (refine (HP.out _).mono ?_; rintro r w4 ⟨rfl, hb4⟩; have HQ4 : Hid (Opb w4 B0 q) := HQ3.out.below hb4; have HB4 : Hid (Below w.heap.size w w4) := bnext HB3.out hb4; have d8 := Blk.cell HQ4.out 8 _ rfl; clear hb4))
          | (go_at_call 62; go_must (refine (HM.out _).mono ?_; rintro r w5 ⟨rfl, hw⟩; replace hw := hw.symm; subst hw)))
        go_ret
        exact ⟨by rw [HQ.out]; simp [*]; done, HB4.out⟩
  have k2b : (q.k == 2) = false := by simp [k2]
  by_cases k3 : q.k = 3
  · rw [k3] at c0
    have tj64 : Hid True := trivial
    cases h1 : decide (q.p = (0, 0))
    · have HZ : Hid (decide (q.p = (0, 0)) = false) := h1
      go_wp2_with (first
        | (clear tj64; refine wpList_okx (exec_load24n (n := q.p) (.tmp 64) rfl rfl HQp3.out) rfl ?_)
        | (refine wpList_okx (exec_eql24 (a := q.p) (b := (0, 0)) (.tmp 65) (.tmp 66) rfl rfl rfl) rfl ?_; rw [HZ.out]))
      go_ret
      exact ⟨by rw [HQ.out]; simp [*]; done, HB3.out⟩
    · have HZ : Hid (decide (q.p = (0, 0)) = true) := h1
      cases h2 : (q.s.toList == [])
      · have z0 : True := trivial
        go_wp2_with (first
          | (clear tj64; refine wpList_okx (exec_load24n (n := q.p) (.tmp 64) rfl rfl HQp3.out) rfl ?_)
          | (refine wpList_okx (exec_eql24 (a := q.p) (b := (0, 0)) (.tmp 65) (.tmp 66) rfl rfl rfl) rfl ?_; rw [HZ.out]))
        go_ret
        exact ⟨by rw [HQ.out]; simp [*]; done, HB3.out⟩
      · have z0 : True := trivial
        go_wp2_with (first
          | (clear tj64; refine wpList_okx (exec_load24n (n := q.p) (.tmp 64) rfl rfl HQp3.out) rfl ?_)
          | (refine wpList_okx (exec_eql24 (a := q.p) (b := (0, 0)) (.tmp 65) (.tmp 66) rfl rfl rfl) rfl ?_; rw [HZ.out]))
        go_ret
        exact ⟨by rw [HQ.out]; simp [*]; done, HB3.out⟩
  have k3b : (q.k == 3) = false := by simp [k3]
  go_wp2
  go_ret
  exact ⟨by rw [HQ.out]; simp [*]; done, HB3.out⟩
end
end Go.Proofs.Ytjlpdoomchkfgaa
