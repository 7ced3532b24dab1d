/-
  The program's Within and Hangs.
-/
import Derived.Test.YthnjbjlhfohpfaaTrX
namespace Go.Proofs.Ythnjbjlhfohpfaa
set_option linter.unusedVariables false
set_option linter.unusedSimpArgs false
set_option synthInstance.maxSize 20000
set_option maxHeartbeats 2000000
set_option maxRecDepth 20000
open Go.RowKit Go.Maps

section
variable {w : World} {tb : Nat} {mo : Option Nat} {L : List IT}
set_option maxHeartbeats 4000000 in
theorem within21 (h : PTr w tb mo L) {n m : S} (hn : SOk n) (hm : SOk m) : Calls Try.prog 77 #[ptr tb, sv n, sv m] w fun e w' => e = .returned (.bool (pwithinM (L.map IT.m) n m)) ∧ Below w.heap.size w w' := by
  have HS : Hid (∀ w' q, SOk q → Below w.heap.size w w' → Calls Try.prog 74 #[ptr tb, sv q] w' fun e w'' => e = .returned (.bool (hasM (L.map IT.m) q)) ∧ Below w'.heap.size w' w'') := fun w' q hq hb => has46 (h.below hb) hq
  have HLd : Hid (∀ w', Below w.heap.size w w' → Calls Try.prog 89 #[ptr tb, sv m, sv n, .func (.func 90) #[] #[]] w' fun e w'' => e = .returned (.bool (leadsM (L.map IT.m) anyI 301 m n)) ∧ Below w'.heap.size w' w'') := fun w' hb => leads47w (h.below hb) hm any48
  have HRoot : Hid (∀ w', Calls Try.prog 79 #[] w' fun e w'' => e = .returned (sv (0, 0)) ∧ Below w'.heap.size w' w'') := fun w' => root26 w'
  have HN0 : Hid (SOk n) := hn
  have HM0 : Hid (SOk m) := hm
  clear h hn hm
  have hR : pwithinM (L.map IT.m) n m = if m = n then true else if n = (0, 0) then hasM (L.map IT.m) m else hasM (L.map IT.m) n && leadsM (L.map IT.m) anyI 301 m n := rfl
  have HR : Hid (pwithinM (L.map IT.m) n m = if m = n then true else if n = (0, 0) then hasM (L.map IT.m) m else hasM (L.map IT.m) n && leadsM (L.map IT.m) anyI 301 m n) := hR
  clear hR
  generalize pwithinM (L.map IT.m) n m = R at HR ⊢
  generalize hld : leadsM (L.map IT.m) anyI 301 m n = ld at HR HLd
  clear hld
  obtain ⟨w1, hw1⟩ : ∃ w1, w1 = (w.alloc (.cells (sc n).toArray 33)).alloc (.cells (sc m).toArray 33) := ⟨_, rfl⟩
  obtain ⟨B0, hB0⟩ : ∃ B0, B0 = w.heap.size := ⟨_, rfl⟩
  obtain ⟨B1, hB1⟩ : ∃ B1, B1 = w.heap.size + 1 := ⟨_, rfl⟩
  obtain ⟨i1, i2, i3, i4, i5⟩ := two_stamps hw1 hB0 hB1
  have HB1 : Hid (Below w.heap.size w w1) := i1
  have HN : Hid (∀ w', Below w1.heap.size w1 w' → w'.rangeAt B0 0 (sc n)) := fun w' hb => (i2.below hb).range0
  have HM : Hid (∀ w', Below w1.heap.size w1 w' → w'.rangeAt B1 0 (sc m)) := fun w' hb => (i3.below hb).range0
  clear i1 i2 i3 i4 i5
  have HNa : Hid (w1.rangeAt B0 0 (sc n)) := HN.out _ (Below.refl _ _)
  have HMa : Hid (w1.rangeAt B1 0 (sc m)) := HM.out _ (Below.refl _ _)
  generalize hE : decide (m = n) = E
  have HE : Hid (decide (m = n) = E) := hE
  generalize hE2 : decide (n = (0, 0)) = E2
  have HE2 : Hid (decide (n = (0, 0)) = E2) := hE2
  clear hE hE2
  go_enter Try.func77, Try.ntmps77
  go_upto_region 1 with (first | (refine wpList_okw rfl (exec_box24 (n := n) (.tmp 1) rfl rfl) ?_) | (refine wpList_okw rfl (exec_box24 (n := m) (.tmp 2) rfl rfl) ?_))
  rw [show (Value.pointer (some { block := w.heap.size + 1, off := 0 })) = ptr B1 from by rw [hB1]]
  rw [← hw1]
  rw [← hB0]
  clear hw1 hB0 hB1
  cases E
  · go_upto_region 5 with (first
      | (refine wpList_okw rfl (exec_load24n (n := m) (.tmp 5) rfl rfl HMa.out) ?_)
      | (refine wpList_okw rfl (exec_load24n (n := n) (.tmp 4) rfl rfl HNa.out) ?_)
      | (refine wpList_okw rfl (exec_eql24 (a := m) (b := n) (.tmp 9) (.tmp 10) rfl rfl rfl) ?_; rw [HE.out]))
    have ne : Nonempty (WIn (fun w' => Below w1.heap.size w1 w')) := ⟨⟨w1, Below.refl _ _⟩⟩
    refine wp_region_tree (C := fun w' => ∃ z : WIn (fun w' => Below w1.heap.size w1 w'), w' = z.w) (.still 0 (.one 1 (.still 2 .done))) (by kernel_rfl) (by kernel_rfl) ⟨⟨w1.drew, below_drewn w1 1⟩, rfl⟩ ?_
    obtain ⟨w5, hw5⟩ : ∃ w5, w5 = w1.drew := ⟨_, rfl⟩
    have HB5 : Hid (Below w1.heap.size w1 w5) := by show Below _ _ _; rw [hw5]; exact below_drewn w1 1
    rw [← hw5]
    clear hw5
    refine tree_still rfl rfl ?_
    refine quiet_ok1 rfl (fun w' hw' => by obtain ⟨z, rfl⟩ := hw'; exact exec_load24n (n := n) (.tmp 4) rfl rfl (HN.out z.w z.ok)) ?_
    go_simp
    refine tree_one rfl rfl ?_
    go_simp
    refine (HRoot.out _).mono ?_
    rintro r w6 ⟨rfl, hb6⟩
    have HB6 : Hid (Below w1.heap.size w1 w6) := bnext HB5.out hb6
    clear hb6
    refine ⟨⟨⟨w6, HB6.out⟩, rfl⟩, ?_⟩
    go_simp
    refine tree_still rfl rfl ?_
    refine quiet_ok1 rfl (fun w' hw' => exec_eql24 (a := n) (b := (0, 0)) (.tmp 12) (.tmp 13) rfl rfl rfl) ?_
    rw [HE2.out]
    go_simp
    refine tree_done ?_
    clear ne
    have HBx : Hid (Below w.heap.size w w6) := bnext HB1.out HB6.out
    have HNb : Hid (w6.rangeAt B0 0 (sc n)) := HN.out _ HB6.out
    have HMb : Hid (w6.rangeAt B1 0 (sc m)) := HM.out _ HB6.out
    have HR1 : Hid (R = if n = (0, 0) then hasM (L.map IT.m) m else hasM (L.map IT.m) n && ld) := by show _ = _; rw [HR.out, if_neg (of_decide_eq_false HE.out)]
    clear HR
    cases E2
    · have HR2 : Hid (R = (hasM (L.map IT.m) n && ld)) := by show _ = _; rw [HR1.out, if_neg (of_decide_eq_false HE2.out)]
      clear HR1
      generalize hhs : hasM (L.map IT.m) n = hs at HR2
      have HHS : Hid (hasM (L.map IT.m) n = hs) := hhs
      clear hhs
      have tk1 : Hid True := trivial
      cases hs
      · go_wp2_with (first
          | (refine wpList_okw rfl (exec_load24n (n := n) (.tmp 4) rfl rfl HNb.out) ?_)
          | (clear tk1; go_at_call 74; go_must (refine (HS.out _ _ HN0.out HBx.out).mono ?_; rintro r w7 ⟨rfl, hb7⟩; have HB7 : Hid (Below w6.heap.size w6 w7) := hb7; clear hb7; rw [HHS.out])))
        go_ret
        exact ⟨by rw [HR2.out]; rfl, bnext HBx.out HB7.out⟩
      · go_wp2_with (first
          | (clear tk1; go_at_call 74; go_must (refine (HS.out _ _ HN0.out HBx.out).mono ?_; rintro r w7 ⟨rfl, hb7⟩; have HB7 : Hid (Below w6.heap.size w6 w7) := hb7; clear hb7; rw [HHS.out]; have HNc : Hid (w7.rangeAt B0 0 (sc n)) := HN.out _ (bnext HB6.out HB7.out); have HMc : Hid (w7.rangeAt B1 0 (sc m)) := HM.out _ (bnext HB6.out HB7.out)))
          | (refine wpList_okw rfl (exec_load24n (n := n) (.tmp 4) rfl rfl HNb.out) ?_)
          | (refine wpList_okw rfl (exec_load24n (n := m) (.tmp 5) rfl rfl HMc.out) ?_)
          | (refine wpList_okw rfl (exec_load24n (n := n) (.tmp 4) rfl rfl HNc.out) ?_)
          | (go_at_call 89; go_must (refine (HLd.out _ (bnext HBx.out HB7.out)).mono ?_; rintro r w8 ⟨rfl, hb8⟩; have HB8 : Hid (Below w7.heap.size w7 w8) := hb8; clear hb8)))
        go_ret
        exact ⟨by rw [HR2.out]; rfl, bnext HBx.out (bnext HB7.out HB8.out)⟩
    · have HR2 : Hid (R = hasM (L.map IT.m) m) := by show _ = _; rw [HR1.out, if_pos (of_decide_eq_true HE2.out)]
      clear HR1
      go_wp2_with (first
        | (refine wpList_okw rfl (exec_load24n (n := m) (.tmp 5) rfl rfl HMb.out) ?_)
        | (go_at_call 74; go_must (refine (HS.out _ _ HM0.out HBx.out).mono ?_; rintro r w7 ⟨rfl, hb7⟩; have HB7 : Hid (Below w6.heap.size w6 w7) := hb7; clear hb7)))
      go_ret
      exact ⟨by rw [HR2.out]; rfl, bnext HBx.out HB7.out⟩
  · have HR1 : Hid (R = true) := by show _ = _; rw [HR.out, if_pos (of_decide_eq_true HE.out)]
    clear HR
    go_wp2_with (first
      | (refine wpList_okw rfl (exec_load24n (n := m) (.tmp 5) rfl rfl HMa.out) ?_)
      | (refine wpList_okw rfl (exec_load24n (n := n) (.tmp 4) rfl rfl HNa.out) ?_)
      | (refine wpList_okw rfl (exec_eql24 (a := m) (b := n) (.tmp 9) (.tmp 10) rfl rfl rfl) ?_; rw [HE.out]))
    go_ret
    exact ⟨by rw [HR1.out]; rfl, HB1.out⟩
end
end Go.Proofs.Ythnjbjlhfohpfaa
