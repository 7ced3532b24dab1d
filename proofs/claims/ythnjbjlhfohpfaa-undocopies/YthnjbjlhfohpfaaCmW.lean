/-
  slices.CompactFunc over a row of operations.
-/
import Derived.Test.YthnjbjlhfohpfaaCmA
namespace Go.Proofs.Ythnjbjlhfohpfaa
set_option linter.unusedVariables false
set_option linter.unusedSimpArgs false
set_option synthInstance.maxSize 20000
set_option maxHeartbeats 2000000
set_option maxRecDepth 20000
open Go.RowKit Go.Maps

theorem wpList_load26 {ops : Array Oper} {rest : List Oper} {o : Oper} {a : Act} {Q : Exit → Act → World → Prop} {w : World} {b off : Nat} {q : OpT} (hgd : o.guard = none) (x : Operand) (ho : o.op = .load 36 x) (hx : a.eval x = .pointer (some ⟨b, off, none⟩)) (hc : w.rangeAt b off (oc q))
    (h : wpList Try.prog ops Q rest (a.put o.dst (ov q)) w) : wpList Try.prog ops Q (o :: rest) a w := by
  have hrun := exec_load26 (r := a.eval) x ho hx hc
  refine wpList_plain hgd fun K hK => ?_
  exact wp_ok hrun (hK _ _ h)
theorem wpList_store26 {ops : Array Oper} {rest : List Oper} {o : Oper} {a : Act} {Q : Exit → Act → World → Prop} {w : World} {b off : Nat} {q : OpT} (hgd : o.guard = none) (x y : Operand) (ho : o.op = .store 36 x y) (hx : a.eval x = .pointer (some ⟨b, off, none⟩)) (hy : a.eval y = ov q) (ht : w.there b off 10)
    (h : wpList Try.prog ops Q rest (a.put o.dst undef) (w.setCells b off (oc q))) : wpList Try.prog ops Q (o :: rest) a w := by
  have hrun := exec_store26 (r := a.eval) x y ho hx hy ht
  refine wpList_plain hgd fun K hK => ?_
  exact wp_skip hrun (hK _ _ h)
set_option maxHeartbeats 4000000 in
theorem compact51 {w : World} {g N cap : Nat} {l : List OpT} (hr : Row w g N cap l) (hN2 : N ≤ 1000000) (h2 : 2 ≤ N) :
    Calls Try.prog 69 #[.slice (some ⟨g, 0, none⟩) N cap, .func (.func 70) #[] #[]] w fun e w' => ∃ n, e = .returned (.slice (some ⟨g, 0, none⟩) n cap) ∧ n = (firstsO l).length ∧ Row w' g n cap (firstsO l) ∧ w.grownBy w' (some g) := by
  have hcaps := hr.caps
  have hlen := hr.1
  obtain ⟨x0, r0, rfl⟩ : ∃ x0 r0, l = x0 :: r0 := by
    cases l with
    | nil => simp at hlen; omega
    | cons x r => exact ⟨x, r, rfl⟩
  have HR0 : Hid (Row w g N cap (x0 :: r0)) := hr
  have HST : Hid (firstsO (x0 :: r0) = [] ++ x0 :: ddO x0.a r0) := rfl
  have HLN : Hid ((x0 :: r0).length = N) := hlen
  generalize hl : x0 :: r0 = l at HST HR0 HLN
  have HL0 : Hid (l = [] ++ x0 :: r0) := hl.symm
  have hN : 2 ≤ (N : Int) := by omega
  clear hr hl hlen
  go_enter Try.func69, Try.ntmps69
  go_wp2
  go_loopw [5] (fun i wr => ∃ (m : Nat) (p : List OpT) (x : OpT) (r : List OpT), i = .int .i64 ((m : Int) + 1) ∧ m + 1 ≤ N ∧ Hid (p.length = m) ∧ Hid (l = p ++ x :: r) ∧ Hid (firstsO l = p ++ x :: ddO x.a r) ∧ Hid (Row wr g N cap l) ∧ Hid (w.grownBy wr (some g))) (fun i _ => N - (intOf i).toNat)
  case atStart => exact ⟨0, [], x0, r0, rfl, by omega, rfl, HL0, HST, HR0, grown_refl _ _⟩
  case round =>
    obtain ⟨m, p, x, r, rfl, hkn, HP, HL, HI, HRr, HG⟩ := hrel
    rename World => wq
    clear HST HR0 HL0
    by_cases hk : m + 1 < N
    · obtain ⟨y, r, rfl⟩ : ∃ y r2, r = y :: r2 := by
        cases r with
        | nil =>
          have h1 := HL.out; have h2 := HLN.out; have h3 := HP.out
          rw [h1] at h2
          simp at h2
          omega
        | cons y r2 => exact ⟨y, r2, rfl⟩
      have hkI : (m : Int) + 1 < (N : Int) := by omega
      have hk0 : (m : Int) < (N : Int) := by omega
      have hd : l[m]? = some x := by rw [HL.out, ← HP.out]; exact get_mid _ _ _
      have he : l[m + 1]? = some y := by
        have := get_mid (p ++ [x]) r y
        rw [show (p ++ [x]).length = m + 1 by have := HP.out; simp; omega] at this
        rw [HL.out, ← this]
        simp
      have hC : ∀ w' : World, Below wq.heap.size wq w' → w'.rangeAt g (m * 10) (oc x) ∧ w'.rangeAt g ((m + 1) * 10) (oc y) := fun w' hb => ⟨(HRr.out.below hb).load hd, (HRr.out.below hb).load he⟩
      have HCL : Hid (∀ z : WIn (fun w' => Below wq.heap.size wq w'), z.w.rangeAt g (m * 10) (oc x) ∧ z.w.rangeAt g ((m + 1) * 10) (oc y)) := fun z => hC z.w z.ok
      have HK : Hid (∀ w' : World, Calls Try.prog 70 #[ov y, ov x] w' fun r w'' => r = .returned (.bool (sameAt y.a x.a)) ∧ Below w'.heap.size w' w'') := fun w' => together52 y x w'
      have ne : Nonempty (WIn (fun w' => Below wq.heap.size wq w')) := ⟨⟨wq, Below.refl _ _⟩⟩
      clear hd he hC
      by_cases hs : y.a = x.a
      · have HI2 : Hid (firstsO l = (p ++ [x]) ++ ddO y.a r) := by
          show _ = _
          rw [HI.out, ddO_same hs, hs]
          simp
        have hsA : sameAt y.a x.a = true := by rw [hs]; simp [sameAt]
        rw [hsA] at HK
        clear hs hsA
        go_wp2_with fail
        refine wp_region_tree (C := fun w' => ∃ z : WIn (fun w' => Below wq.heap.size wq w'), w' = z.w) (.still 0 (.still 1 (.still 2 (.still 3 (.still 4 (.still 5 (.still 6 (.still 7 (.still 8 (.still 9 (.one 10 .done))))))))))) (by kernel_rfl) (by kernel_rfl) ⟨⟨wq.drew, below_drewn wq 1⟩, rfl⟩ ?_
        iterate 4 (refine tree_still rfl rfl ?_; go_big_quiet_step (fail); refine wpQuiet_nil ?_)
        refine tree_still rfl rfl ?_
        refine quiet_ok1 rfl (fun w' hw' => by obtain ⟨z, rfl⟩ := hw'; exact exec_load26 (q := y) (.tmp 21) rfl rfl (HCL.out z).2) ?_
        go_simp
        iterate 4 (refine tree_still rfl rfl ?_; go_big_quiet_step (fail); refine wpQuiet_nil ?_)
        refine tree_still rfl rfl ?_
        refine quiet_ok1 rfl (fun w' hw' => by obtain ⟨z, rfl⟩ := hw'; exact exec_load26 (q := x) (.tmp 26) rfl rfl (HCL.out z).1) ?_
        go_simp
        refine tree_one rfl rfl ?_
        go_simp
        refine (HK.out _).mono ?_
        rintro r w3 ⟨rfl, hb3⟩
        have HB3 : Hid (Below wq.heap.size wq w3) := bnext (below_drewn wq 1) hb3
        clear hb3
        refine ⟨⟨⟨w3, HB3.out⟩, rfl⟩, ?_⟩
        go_simp
        refine tree_done ?_
        clear ne HCL HK
        have HR1 : Hid (Row w3 g N cap ((p ++ [x]) ++ y :: r)) := by
          show Row _ _ _ _ _
          have := HRr.out.below HB3.out
          rw [HL.out] at this
          simpa using this
        have HG1 : Hid (w.grownBy w3 (some g)) := grown_trans HG.out (below_grown HB3.out) (fun k hk => by cases hk)
        have HLm : Hid ((p ++ [x]).length = m + 1) := by show _ = _; have := HP.out; simp; omega
        generalize p ++ [x] = p1 at HI2 HR1 HLm
        have HLq : Hid (l.length = N) := HLN
        clear HI HL HP HRr HG HB3
        go_wp2
        go_loopw [5, 7] (fun c i wr => ∃ (q kk : Nat) (u v : List OpT) (x : OpT) (r : List OpT), i = .int .i64 ((q : Int) + 1) ∧ c = .int .i64 (kk : Int) ∧ kk ≤ m + 1 + q ∧ m + 1 + q + 1 ≤ N ∧ Hid (u.length = kk) ∧ Hid (u.length + v.length = m + 1 + q) ∧ Hid (u.length + v.length + 1 + r.length = N) ∧ Hid (firstsO l = u ++ ddO x.a r) ∧ Hid (Row wr g N cap (u ++ (v ++ x :: r))) ∧ Hid (w.grownBy wr (some g))) (fun _ i _ => N - (intOf i).toNat)
        case atStart =>
          refine ⟨0, m + 1, p1, [], y, r, rfl, by go_num, by omega, by omega, HLm, ?_, ?_, HI2, by simpa using HR1, HG1⟩
          · show _ = _
            have := HLm.out; simp; omega
          · show _ = _
            have h1 := HR1.out.1
            simp at h1 ⊢
            omega
        case round =>
          obtain ⟨q, kk, u, v, x, r, rfl, rfl, hkk, hqn, HU, HUV, HUVR, HJ, HR2, HG2⟩ := hrel
          clear HI2 HR1 HG1 HLm
          rename World => wt
          by_cases hq : m + 1 + q + 1 < N
          · obtain ⟨y, r, rfl⟩ : ∃ y r2, r = y :: r2 := by
              cases r with
              | nil =>
                have h1 := HUV.out; have h2 := HUVR.out
                simp at h2
                omega
              | cons y r2 => exact ⟨y, r2, rfl⟩
            have hqI : (q : Int) + 1 < ((N - (m + 1) : Nat) : Int) := by omega
            have hkkI : (kk : Int) < (N : Int) := by omega
            have hd : (u ++ (v ++ x :: y :: r))[m + 1 + q]? = some x := by
              have := get_mid (u ++ v) (y :: r) x
              rw [List.length_append, HUV.out] at this
              rw [← this]
              simp
            have he : (u ++ (v ++ x :: y :: r))[m + 1 + q + 1]? = some y := by
              have := get_mid (u ++ (v ++ [x])) r y
              rw [show (u ++ (v ++ [x])).length = m + 1 + q + 1 by have := HUV.out; simp; omega] at this
              rw [← this]
              simp
            have hC : ∀ w' : World, Below wt.heap.size wt w' → w'.rangeAt g ((m + 1) * 10 + q * 10) (oc x) ∧ w'.rangeAt g ((m + 1) * 10 + (q + 1) * 10) (oc y) := fun w' hb => ⟨by
              have := (HR2.out.below hb).load hd
              rwa [show (m + 1 + q) * 10 = (m + 1) * 10 + q * 10 by omega] at this, by
              have := (HR2.out.below hb).load he
              rwa [show (m + 1 + q + 1) * 10 = (m + 1) * 10 + (q + 1) * 10 by omega] at this⟩
            have HLD : Hid (∀ w' : World, Below wt.heap.size wt w' → w'.rangeAt g ((m + 1) * 10 + (q + 1) * 10) (oc y)) := fun w' hb => (hC w' hb).2
            have HCL : Hid (∀ z : WIn (fun w' => Below wt.heap.size wt w'), z.w.rangeAt g ((m + 1) * 10 + q * 10) (oc x) ∧ z.w.rangeAt g ((m + 1) * 10 + (q + 1) * 10) (oc y)) := fun z => hC z.w z.ok
            have HK : Hid (∀ w' : World, Calls Try.prog 70 #[ov y, ov x] w' fun r w'' => r = .returned (.bool (sameAt y.a x.a)) ∧ Below w'.heap.size w' w'') := fun w' => together52 y x w'
            have ne : Nonempty (WIn (fun w' => Below wt.heap.size wt w')) := ⟨⟨wt, Below.refl _ _⟩⟩
            clear hd he hC
            by_cases hs : y.a = x.a
            · have HJ2 : Hid (firstsO l = u ++ ddO y.a r) := by
                show _ = _
                rw [HJ.out, ddO_same hs, hs]
              have hsA : sameAt y.a x.a = true := by rw [hs]; simp [sameAt]
              rw [hsA] at HK
              clear hs hsA HLD
              go_wp2_with fail
              refine wp_region_tree (C := fun w' => ∃ z : WIn (fun w' => Below wt.heap.size wt w'), w' = z.w) (.still 0 (.still 1 (.still 2 (.still 3 (.still 4 (.still 5 (.still 6 (.still 7 (.still 8 (.still 9 (.one 10 (.still 11 .done)))))))))))) (by kernel_rfl) (by kernel_rfl) ⟨⟨wt.drew, below_drewn wt 1⟩, rfl⟩ ?_
              iterate 4 (refine tree_still rfl rfl ?_; go_big_quiet_step (fail); refine wpQuiet_nil ?_)
              refine tree_still rfl rfl ?_
              refine quiet_ok1 rfl (fun w' hw' => by obtain ⟨z, rfl⟩ := hw'; exact exec_load26 (q := y) (.tmp 41) rfl rfl (HCL.out z).2) ?_
              go_simp
              iterate 4 (refine tree_still rfl rfl ?_; go_big_quiet_step (fail); refine wpQuiet_nil ?_)
              refine tree_still rfl rfl ?_
              refine quiet_ok1 rfl (fun w' hw' => by obtain ⟨z, rfl⟩ := hw'; exact exec_load26 (q := x) (.tmp 46) rfl rfl (HCL.out z).1) ?_
              go_simp
              refine tree_one rfl rfl ?_
              go_simp
              refine (HK.out _).mono ?_
              rintro r w3 ⟨rfl, hb3⟩
              have HB3 : Hid (Below wt.heap.size wt w3) := bnext (below_drewn wt 1) hb3
              clear hb3
              refine ⟨⟨⟨w3, HB3.out⟩, rfl⟩, ?_⟩
              go_simp
              iterate 1 (refine tree_still rfl rfl ?_; go_big_quiet_step (fail); refine wpQuiet_nil ?_)
              refine tree_done ?_
              clear ne HCL HK
              go_wp2
              go_roundw
              case rel =>
                refine ⟨q + 1, kk, u, v ++ [x], y, r, by go_num, rfl, by omega, by omega, HU, ?_, ?_, HJ2, ?_, grown_trans HG2.out (below_grown HB3.out) (fun k hk => by cases hk)⟩
                · show _ = _
                  have := HUV.out; simp; omega
                · show _ = _
                  have := HUVR.out; simp at this ⊢; omega
                · show Row _ _ _ _ _
                  have := HR2.out.below HB3.out
                  simpa using this
              case measure => simp [intOf]; omega
            · have HJ2 : Hid (firstsO l = (u ++ [y]) ++ ddO y.a r) := by
                show _ = _
                rw [HJ.out, ddO_other hs]
                simp
              have hsA : sameAt y.a x.a = false := by
                have h1 : ¬ (y.a.1 = x.a.1 ∧ y.a.2 = x.a.2) := fun ⟨e1, e2⟩ => hs (Prod.ext e1 e2)
                simpa [sameAt] using h1
              rw [hsA] at HK
              clear hs hsA
              obtain ⟨z, v2, hz⟩ : ∃ z v2, v ++ [x] = z :: v2 := by
                cases v with
                | nil => exact ⟨x, [], rfl⟩
                | cons z v => exact ⟨z, v ++ [x], rfl⟩
              have HZ : Hid (v ++ [x] = z :: v2) := hz
              have HZL : Hid (v.length = v2.length) := by show _ = _; have := congrArg List.length hz; simp at this; exact this
              clear hz
              go_wp2_with fail
              refine wp_region_tree (C := fun w' => ∃ z : WIn (fun w' => Below wt.heap.size wt w'), w' = z.w) (.still 0 (.still 1 (.still 2 (.still 3 (.still 4 (.still 5 (.still 6 (.still 7 (.still 8 (.still 9 (.one 10 (.still 11 .done)))))))))))) (by kernel_rfl) (by kernel_rfl) ⟨⟨wt.drew, below_drewn wt 1⟩, rfl⟩ ?_
              iterate 4 (refine tree_still rfl rfl ?_; go_big_quiet_step (fail); refine wpQuiet_nil ?_)
              refine tree_still rfl rfl ?_
              refine quiet_ok1 rfl (fun w' hw' => by obtain ⟨z, rfl⟩ := hw'; exact exec_load26 (q := y) (.tmp 41) rfl rfl (HCL.out z).2) ?_
              go_simp
              iterate 4 (refine tree_still rfl rfl ?_; go_big_quiet_step (fail); refine wpQuiet_nil ?_)
              refine tree_still rfl rfl ?_
              refine quiet_ok1 rfl (fun w' hw' => by obtain ⟨z, rfl⟩ := hw'; exact exec_load26 (q := x) (.tmp 46) rfl rfl (HCL.out z).1) ?_
              go_simp
              refine tree_one rfl rfl ?_
              go_simp
              refine (HK.out _).mono ?_
              rintro r w3 ⟨rfl, hb3⟩
              have HB3 : Hid (Below wt.heap.size wt w3) := bnext (below_drewn wt 1) hb3
              clear hb3
              refine ⟨⟨⟨w3, HB3.out⟩, rfl⟩, ?_⟩
              go_simp
              iterate 1 (refine tree_still rfl rfl ?_; go_big_quiet_step (fail); refine wpQuiet_nil ?_)
              refine tree_done ?_
              clear ne HCL HK
              have HLD3 : Hid (w3.rangeAt g ((m + 1) * 10 + (q + 1) * 10) (oc y)) := HLD.out w3 HB3.out
              have R3 : Row w3 g N cap (u ++ (z :: (v2 ++ y :: r))) := by
                have := HR2.out.below HB3.out
                rw [show u ++ (v ++ x :: y :: r) = u ++ ((v ++ [x]) ++ y :: r) by simp, HZ.out] at this
                simpa using this
              have HTH : Hid (w3.there g (kk * 10) 10) := R3.there (by omega)
              have R4 := R3.put (i := kk) (by omega) y
              have G4 : w.grownBy (w3.setCells g (kk * 10) (oc y)) (some g) := grown_trans (grown_trans HG2.out (below_grown HB3.out) (fun k hk => by cases hk)) (grown_setCells g _ _ _) (fun k hk => .inl hk)
              obtain ⟨w4, hw4⟩ : ∃ w4, w4 = w3.setCells g (kk * 10) (oc y) := ⟨_, rfl⟩
              have HW4 : Hid (w4 = w3.setCells g (kk * 10) (oc y)) := hw4
              rw [← hw4] at R4 G4
              have HR4 : Hid (Row w4 g N cap ((u ++ [y]) ++ (v2 ++ y :: r))) := by
                show Row _ _ _ _ _
                have e : (u ++ (z :: (v2 ++ y :: r))).set kk y = (u ++ [y]) ++ (v2 ++ y :: r) := by
                  rw [← HU.out, List.set_append_right _ _ (Nat.le_refl _)]
                  simp
                rwa [e] at R4
              have HG4 : Hid (w.grownBy w4 (some g)) := G4
              clear R3 R4 G4 hw4 HLD
              go_wp2_with (first
                | (refine wpList_load26 (q := y) rfl (.tmp 54) rfl rfl HLD3.out ?_)
                | (refine wpList_store26 (q := y) rfl (.tmp 56) (.tmp 55) rfl rfl rfl HTH.out ?_; rw [← HW4.out]))
              go_roundw
              case rel =>
                refine ⟨q + 1, kk + 1, u ++ [y], v2, y, r, by go_num, by go_num, by omega, by omega, ?_, ?_, ?_, HJ2, HR4, HG4⟩
                · show _ = _
                  have := HU.out; simp; omega
                · show _ = _
                  have h1 := HUV.out; have h2 := HZL.out; simp; omega
                · show _ = _
                  have h1 := HUVR.out; have h2 := HZL.out; simp at h1 ⊢; omega
              case measure => simp [intOf]; omega
          · have hql : m + 1 + q + 1 = N := by omega
            have hqI : ¬ (q : Int) + 1 < ((N - (m + 1) : Nat) : Int) := by omega
            have hr0 : r = [] := by
              have h1 := HUV.out; have h2 := HUVR.out
              exact List.eq_nil_of_length_eq_zero (by omega)
            have HE : Hid (firstsO l = u) := by show _ = _; rw [HJ.out, hr0]; simp [ddO]
            obtain ⟨wz, rz, Rz, gz⟩ := run_clear26 (i := kk) (n := N - kk) (c := cap - kk) HR2.out (by omega) (by omega)
            have HRZ : Hid (Row wz g kk cap u) := by
              show Row _ _ _ _ _
              rw [← HU.out, List.take_left, HU.out] at Rz
              exact Rz
            have HGZ : Hid (w.grownBy wz (some g)) := grown_trans HG2.out gz (fun k hk => .inl hk)
            clear Rz gz hr0
            go_wp2
            go_ret
            refine ⟨kk, rfl, ?_, ?_, HGZ.out⟩
            · rw [HE.out]; exact HU.out.symm
            · rw [HE.out]; exact HRZ.out
      · have HI2 : Hid (firstsO l = (p ++ [x]) ++ y :: ddO y.a r) := by
          show _ = _
          rw [HI.out, ddO_other hs]
          simp
        have hsA : sameAt y.a x.a = false := by
          have h1 : ¬ (y.a.1 = x.a.1 ∧ y.a.2 = x.a.2) := fun ⟨e1, e2⟩ => hs (Prod.ext e1 e2)
          simpa [sameAt] using h1
        rw [hsA] at HK
        clear hs hsA
        go_wp2_with fail
        refine wp_region_tree (C := fun w' => ∃ z : WIn (fun w' => Below wq.heap.size wq w'), w' = z.w) (.still 0 (.still 1 (.still 2 (.still 3 (.still 4 (.still 5 (.still 6 (.still 7 (.still 8 (.still 9 (.one 10 .done))))))))))) (by kernel_rfl) (by kernel_rfl) ⟨⟨wq.drew, below_drewn wq 1⟩, rfl⟩ ?_
        iterate 4 (refine tree_still rfl rfl ?_; go_big_quiet_step (fail); refine wpQuiet_nil ?_)
        refine tree_still rfl rfl ?_
        refine quiet_ok1 rfl (fun w' hw' => by obtain ⟨z, rfl⟩ := hw'; exact exec_load26 (q := y) (.tmp 21) rfl rfl (HCL.out z).2) ?_
        go_simp
        iterate 4 (refine tree_still rfl rfl ?_; go_big_quiet_step (fail); refine wpQuiet_nil ?_)
        refine tree_still rfl rfl ?_
        refine quiet_ok1 rfl (fun w' hw' => by obtain ⟨z, rfl⟩ := hw'; exact exec_load26 (q := x) (.tmp 26) rfl rfl (HCL.out z).1) ?_
        go_simp
        refine tree_one rfl rfl ?_
        go_simp
        refine (HK.out _).mono ?_
        rintro r w3 ⟨rfl, hb3⟩
        have HB3 : Hid (Below wq.heap.size wq w3) := bnext (below_drewn wq 1) hb3
        clear hb3
        refine ⟨⟨⟨w3, HB3.out⟩, rfl⟩, ?_⟩
        go_simp
        refine tree_done ?_
        clear ne HCL HK
        go_wp2
        go_roundw
        case rel =>
          refine ⟨m + 1, p ++ [x], y, r, by go_num, by omega, ?_, ?_, HI2, HRr.out.below HB3.out, grown_trans HG.out (below_grown HB3.out) (fun k hk => by cases hk)⟩
          · show _ = _
            have := HP.out; simp; omega
          · show _ = _
            rw [HL.out]; simp
        case measure => simp [intOf]; omega
    · have hkl : m + 1 = N := by omega
      have hr0 : r = [] := by
        have h1 := HL.out; have h2 := HLN.out; have h3 := HP.out
        rw [h1] at h2
        simp at h2
        exact List.eq_nil_of_length_eq_zero (by omega)
      have HE : Hid (firstsO l = l) := by show _ = _; rw [HI.out, hr0, HL.out, hr0]; simp [ddO]
      have hkI : ¬ (m : Int) + 1 < (N : Int) := by omega
      clear hr0
      go_wp2
      go_ret
      refine ⟨N, rfl, ?_, ?_, HG.out⟩
      · rw [HE.out]; exact HLN.out.symm
      · rw [HE.out]; exact HRr.out
end Go.Proofs.Ythnjbjlhfohpfaa
