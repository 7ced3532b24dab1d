/-
  The law OpNames, walked.
-/
import Derived.Test.YtcchokedfbogfaaNms
namespace Go.Proofs.Ytcchokedfbogfaa
set_option linter.unusedVariables false
set_option linter.unusedSimpArgs false
set_option synthInstance.maxSize 20000
set_option maxHeartbeats 2000000
set_option maxRecDepth 20000
open Go.RowKit Go.Maps

def mayB (s : ByteArray) (c : Int) : Bool := decide (32 ≤ c) && (c != 127) && (c != 47) && (c != 126) && decide (s.size + 1 ≤ 24) && !((s ++ strOfNums [c]).toList == [46, 46])
theorem names6 (s : ByteArray) (c : Int) (w : World) (hc : 0 ≤ c ∧ c < 256) : Calls Try.prog 6 #[.string s, .int .u8 c] w fun e w' => e = .returned (.bool true) ∧ Below w.heap.size w w' := by
  have HA : Hid (∀ w', Calls Try.prog 9 #[] w' fun e w'' => e = .returned (.bool true) ∧ Below w'.heap.size w' w'') := fun w' => alive9 w'
  have HN : Hid (∀ w', Calls Try.prog 14 #[.string s] w' fun e w'' => e = .returned (.bool (nameB s)) ∧ Below w'.heap.size w' w'') := fun w' => name14 s w'
  by_cases hz : 100 < s.size
  · have hz' : (100 : Int) < (s.size : Int) := by omega
    go_enter Try.func6, Try.ntmps6
    go_wp2_with (go_at_call 9; go_must (refine (HA.out _).mono ?_; rintro r w2 ⟨rfl, hb2⟩))
    go_ret
    exact ⟨rfl, hb2⟩
  · have hz' : ¬ (100 : Int) < (s.size : Int) := by omega
    cases hn : nameB s
    · rw [hn] at HN
      go_enter Try.func6, Try.ntmps6
      go_wp2_with (first
        | (go_at_call 14; go_must (refine (HN.out _).mono ?_; rintro r w2 ⟨rfl, hb2⟩))
        | (go_at_call 9; go_must (refine (HA.out _).mono ?_; rintro r w3 ⟨rfl, hb3⟩)))
      go_ret
      exact ⟨rfl, bnext hb2 hb3⟩
    · rw [hn] at HN
      have hsz := ((name_iff s).1 hn).1
      have es : s.size = s.data.toList.length := by simp
      rw [← es] at hsz
      obtain ⟨n, hnn⟩ : ∃ n, s.size = n + 1 := ⟨s.size - 1, by omega⟩
      have HM : Hid (nameB (s ++ strOfNums [c]) = mayB s c) := by
        show _ = _
        rw [name_more hc hn]
        unfold mayB
        have e1 : decide (c ≠ 127) = (c != 127) := by rw [Bool.eq_iff_iff]; simp
        have e2 : decide (c ≠ 47) = (c != 47) := by rw [Bool.eq_iff_iff]; simp
        have e3 : decide (c ≠ 126) = (c != 126) := by rw [Bool.eq_iff_iff]; simp
        rw [e1, e2, e3]
      have HL : Hid (nameB (s.extract 0 n) = (!((s.extract 0 n).toList == []) && !((s.extract 0 n).toList == [46]) && !((s.extract 0 n).toList == [46, 46]))) := name_less hnn hn
      have HMB : Hid (mayB s c = (decide (32 ≤ c) && (c != 127) && (c != 47) && (c != 126) && decide (s.size + 1 ≤ 24) && !((s ++ strOfNums [c]).toList == [46, 46]))) := (rfl : mayB s c = _)
      have HNt : Hid (∀ w', Calls Try.prog 14 #[.string (s ++ strOfNums [c])] w' fun e w'' => e = .returned (.bool (mayB s c)) ∧ Below w'.heap.size w' w'') := fun w' => by rw [← HM.out]; exact name14 _ w'
      have HNu : Hid (∀ w', Calls Try.prog 14 #[.string (s.extract 0 n)] w' fun e w'' => e = .returned (.bool (!((s.extract 0 n).toList == []) && !((s.extract 0 n).toList == [46]) && !((s.extract 0 n).toList == [46, 46]))) ∧ Below w'.heap.size w' w'') := fun w' => by rw [← HL.out]; exact name14 _ w'
      have HN0 : Hid (∀ w', Calls Try.prog 14 #[.string ⟨#[]⟩] w' fun e w'' => e = .returned (.bool false) ∧ Below w'.heap.size w' w'') := fun w' => by rw [← name_e0]; exact name14 _ w'
      have HN1 : Hid (∀ w', Calls Try.prog 14 #[.string ⟨#[46]⟩] w' fun e w'' => e = .returned (.bool false) ∧ Below w'.heap.size w' w'') := fun w' => by rw [← name_e1]; exact name14 _ w'
      have HN2 : Hid (∀ w', Calls Try.prog 14 #[.string ⟨#[46, 46]⟩] w' fun e w'' => e = .returned (.bool false) ∧ Below w'.heap.size w' w'') := fun w' => by rw [← name_e2]; exact name14 _ w'
      have HCV : Hid (∀ w' v, Rd w' v [c] → (convert 24 9 v).run Try.prog w' = .ok (.string (strOfNums [c])) w') := fun w' v h => run_convert_rd (P := Try.prog) w' 24 9 5 (by kernel_rfl) (by kernel_rfl) (by kernel_rfl) v [c] h
      have HR1 : Hid (∀ w' : World, Rd (w'.alloc (.cells #[.int .u8 c] 5)) (.slice (some ⟨w'.heap.size, 0, none⟩) 1 1) [c]) := fun w' => rd_one w' c 5 hc
      have hn1 : (s.size : Int) - 1 = (n : Int) := by omega
      have hnb : (n : Int) ≤ (s.size : Int) := by omega
      have hs100 : (s.size : Int) ≤ 100 := by omega
      have hone : (strOfNums [c]).size = 1 := strOfNums_size [c]
      clear HM HL hn hsz es hnn
      go_enter Try.func6, Try.ntmps6
      go_upto_region 3 with (first
        | (go_at_call 14; go_must (refine (HN.out _).mono ?_; rintro r w2 ⟨rfl, hb2⟩; have HB2 : Hid (Below w.heap.size w w2) := hb2; clear hb2)))
      have hcv := HCV.out _ _ (HR1.out w2)
      go_upto_region 4 with fail
      have HB3 : Hid (Below w.heap.size w (w2.alloc (.cells #[.int .u8 c] 5))) := (show Below _ _ _ from balloc HB2.out _)
      clear hcv
      go_cut [6] (fun v wx => v = .bool (mayB s c) ∧ Hid (Below w.heap.size w wx))
      case first =>
        clear HNt HNu HN0 HN1 HN2 HA HCV HR1
        by_cases a0 : 32 ≤ c
        · cases a1 : (c != 127)
          · go_wp2
            all_goals
              go_meet
              exact ⟨congrArg Value.bool (by rw [HMB.out]; simp [*]), HB3⟩
          · cases a2 : (c != 47)
            · go_wp2
              all_goals
                go_meet
                exact ⟨congrArg Value.bool (by rw [HMB.out]; simp [*]), HB3⟩
            · cases a3 : (c != 126)
              · go_wp2
                all_goals
                  go_meet
                  exact ⟨congrArg Value.bool (by rw [HMB.out]; simp [*]), HB3⟩
              · by_cases a4 : s.size + 1 ≤ 24
                · have a4' : (s.size : Int) + 1 ≤ 24 := by omega
                  go_wp2
                  all_goals
                    go_meet
                    exact ⟨congrArg Value.bool (by rw [HMB.out]; simp [*]), HB3⟩
                · have a4' : ¬ (s.size : Int) + 1 ≤ 24 := by omega
                  go_wp2
                  all_goals
                    go_meet
                    exact ⟨congrArg Value.bool (by rw [HMB.out]; simp [*]), HB3⟩
        · go_wp2
          all_goals
            go_meet
            exact ⟨congrArg Value.bool (by rw [HMB.out, show decide (32 ≤ c) = false from decide_eq_false (by omega)]; simp), HB3⟩
      case rest =>
        obtain ⟨rfl, hcut2⟩ := hcut
        clear HMB HN HCV HR1 HB3 HB2 hone
        generalize mayB s c = mb at HNt
        have tk1 : Hid True := trivial
        have tk2 : Hid True := trivial
        have tk3 : Hid True := trivial
        have tk4 : Hid True := trivial
        by_cases u0 : (s.extract 0 n).toList = []
        · have b0 : ((s.extract 0 n).toList == []) = true := by simp [u0]
          rw [b0] at HNu
          simp only [Bool.not_true, Bool.false_and] at HNu
          cases mb
          ·
            go_wp2_with (first
              | (go_at_call 14; clear tk1; go_must (refine (HNt.out _).mono ?_; rintro r w4 ⟨rfl, hb4⟩; have HB4 : Hid (Below w.heap.size w w4) := (show Below _ _ _ from hcut2.out.trans (hb4.mono hcut2.out.size)); clear hb4))
              | (go_at_call 14; clear tk2; go_must (refine (HNu.out _).mono ?_; rintro r w5 ⟨rfl, hb5⟩; have HB5 : Hid (Below w.heap.size w w5) := (show Below _ _ _ from HB4.out.trans (hb5.mono HB4.out.size)); clear hb5))
              | (go_at_call 14; clear tk3; go_must (refine (HN0.out _).mono ?_; rintro r w6 ⟨rfl, hb6⟩; have HB6 : Hid (Below w.heap.size w w6) := (show Below _ _ _ from HB5.out.trans (hb6.mono HB5.out.size)); clear hb6))
              | (go_at_call 14; clear tk4; go_must (refine (HN1.out _).mono ?_; rintro r w7 ⟨rfl, hb7⟩; have HB7 : Hid (Below w.heap.size w w7) := (show Below _ _ _ from HB6.out.trans (hb7.mono HB6.out.size)); clear hb7))
              | (go_at_call 14; go_must (refine (HN2.out _).mono ?_; rintro r w8 ⟨rfl, hb8⟩; have HB8 : Hid (Below w.heap.size w w8) := (show Below _ _ _ from HB7.out.trans (hb8.mono HB7.out.size)); clear hb8))
              | (go_at_call 9; go_must (refine (HA.out _).mono ?_; rintro r w9 ⟨rfl, hb9⟩)))
            go_ret
            exact ⟨rfl, HB8.out.trans (hb9.mono HB8.out.size)⟩
          ·
            go_wp2_with (first
              | (go_at_call 14; clear tk1; go_must (refine (HNt.out _).mono ?_; rintro r w4 ⟨rfl, hb4⟩; have HB4 : Hid (Below w.heap.size w w4) := (show Below _ _ _ from hcut2.out.trans (hb4.mono hcut2.out.size)); clear hb4))
              | (go_at_call 14; clear tk2; go_must (refine (HNu.out _).mono ?_; rintro r w5 ⟨rfl, hb5⟩; have HB5 : Hid (Below w.heap.size w w5) := (show Below _ _ _ from HB4.out.trans (hb5.mono HB4.out.size)); clear hb5))
              | (go_at_call 14; clear tk3; go_must (refine (HN0.out _).mono ?_; rintro r w6 ⟨rfl, hb6⟩; have HB6 : Hid (Below w.heap.size w w6) := (show Below _ _ _ from HB5.out.trans (hb6.mono HB5.out.size)); clear hb6))
              | (go_at_call 14; clear tk4; go_must (refine (HN1.out _).mono ?_; rintro r w7 ⟨rfl, hb7⟩; have HB7 : Hid (Below w.heap.size w w7) := (show Below _ _ _ from HB6.out.trans (hb7.mono HB6.out.size)); clear hb7))
              | (go_at_call 14; go_must (refine (HN2.out _).mono ?_; rintro r w8 ⟨rfl, hb8⟩; have HB8 : Hid (Below w.heap.size w w8) := (show Below _ _ _ from HB7.out.trans (hb8.mono HB7.out.size)); clear hb8))
              | (go_at_call 9; go_must (refine (HA.out _).mono ?_; rintro r w9 ⟨rfl, hb9⟩)))
            go_ret
            exact ⟨rfl, HB8.out.trans (hb9.mono HB8.out.size)⟩
        · have b0 : ((s.extract 0 n).toList == []) = false := by simp [u0]
          by_cases u1 : (s.extract 0 n).toList = [46]
          · have b1 : ((s.extract 0 n).toList == [46]) = true := by simp [u1]
            rw [b0, b1] at HNu
            simp only [Bool.not_true, Bool.not_false, Bool.true_and, Bool.false_and] at HNu
            cases mb
            ·
              go_wp2_with (first
                | (go_at_call 14; clear tk1; go_must (refine (HNt.out _).mono ?_; rintro r w4 ⟨rfl, hb4⟩; have HB4 : Hid (Below w.heap.size w w4) := (show Below _ _ _ from hcut2.out.trans (hb4.mono hcut2.out.size)); clear hb4))
                | (go_at_call 14; clear tk2; go_must (refine (HNu.out _).mono ?_; rintro r w5 ⟨rfl, hb5⟩; have HB5 : Hid (Below w.heap.size w w5) := (show Below _ _ _ from HB4.out.trans (hb5.mono HB4.out.size)); clear hb5))
                | (go_at_call 14; clear tk3; go_must (refine (HN0.out _).mono ?_; rintro r w6 ⟨rfl, hb6⟩; have HB6 : Hid (Below w.heap.size w w6) := (show Below _ _ _ from HB5.out.trans (hb6.mono HB5.out.size)); clear hb6))
                | (go_at_call 14; clear tk4; go_must (refine (HN1.out _).mono ?_; rintro r w7 ⟨rfl, hb7⟩; have HB7 : Hid (Below w.heap.size w w7) := (show Below _ _ _ from HB6.out.trans (hb7.mono HB6.out.size)); clear hb7))
                | (go_at_call 14; go_must (refine (HN2.out _).mono ?_; rintro r w8 ⟨rfl, hb8⟩; have HB8 : Hid (Below w.heap.size w w8) := (show Below _ _ _ from HB7.out.trans (hb8.mono HB7.out.size)); clear hb8))
                | (go_at_call 9; go_must (refine (HA.out _).mono ?_; rintro r w9 ⟨rfl, hb9⟩)))
              go_ret
              exact ⟨rfl, HB8.out.trans (hb9.mono HB8.out.size)⟩
            ·
              go_wp2_with (first
                | (go_at_call 14; clear tk1; go_must (refine (HNt.out _).mono ?_; rintro r w4 ⟨rfl, hb4⟩; have HB4 : Hid (Below w.heap.size w w4) := (show Below _ _ _ from hcut2.out.trans (hb4.mono hcut2.out.size)); clear hb4))
                | (go_at_call 14; clear tk2; go_must (refine (HNu.out _).mono ?_; rintro r w5 ⟨rfl, hb5⟩; have HB5 : Hid (Below w.heap.size w w5) := (show Below _ _ _ from HB4.out.trans (hb5.mono HB4.out.size)); clear hb5))
                | (go_at_call 14; clear tk3; go_must (refine (HN0.out _).mono ?_; rintro r w6 ⟨rfl, hb6⟩; have HB6 : Hid (Below w.heap.size w w6) := (show Below _ _ _ from HB5.out.trans (hb6.mono HB5.out.size)); clear hb6))
                | (go_at_call 14; clear tk4; go_must (refine (HN1.out _).mono ?_; rintro r w7 ⟨rfl, hb7⟩; have HB7 : Hid (Below w.heap.size w w7) := (show Below _ _ _ from HB6.out.trans (hb7.mono HB6.out.size)); clear hb7))
                | (go_at_call 14; go_must (refine (HN2.out _).mono ?_; rintro r w8 ⟨rfl, hb8⟩; have HB8 : Hid (Below w.heap.size w w8) := (show Below _ _ _ from HB7.out.trans (hb8.mono HB7.out.size)); clear hb8))
                | (go_at_call 9; go_must (refine (HA.out _).mono ?_; rintro r w9 ⟨rfl, hb9⟩)))
              go_ret
              exact ⟨rfl, HB8.out.trans (hb9.mono HB8.out.size)⟩
          · have b1 : ((s.extract 0 n).toList == [46]) = false := by simp [u1]
            by_cases u2 : (s.extract 0 n).toList = [46, 46]
            · have b2 : ((s.extract 0 n).toList == [46, 46]) = true := by simp [u2]
              rw [b0, b1, b2] at HNu
              simp only [Bool.not_true, Bool.not_false, Bool.true_and, Bool.and_false] at HNu
              cases mb
              ·
                go_wp2_with (first
                  | (go_at_call 14; clear tk1; go_must (refine (HNt.out _).mono ?_; rintro r w4 ⟨rfl, hb4⟩; have HB4 : Hid (Below w.heap.size w w4) := (show Below _ _ _ from hcut2.out.trans (hb4.mono hcut2.out.size)); clear hb4))
                  | (go_at_call 14; clear tk2; go_must (refine (HNu.out _).mono ?_; rintro r w5 ⟨rfl, hb5⟩; have HB5 : Hid (Below w.heap.size w w5) := (show Below _ _ _ from HB4.out.trans (hb5.mono HB4.out.size)); clear hb5))
                  | (go_at_call 14; clear tk3; go_must (refine (HN0.out _).mono ?_; rintro r w6 ⟨rfl, hb6⟩; have HB6 : Hid (Below w.heap.size w w6) := (show Below _ _ _ from HB5.out.trans (hb6.mono HB5.out.size)); clear hb6))
                  | (go_at_call 14; clear tk4; go_must (refine (HN1.out _).mono ?_; rintro r w7 ⟨rfl, hb7⟩; have HB7 : Hid (Below w.heap.size w w7) := (show Below _ _ _ from HB6.out.trans (hb7.mono HB6.out.size)); clear hb7))
                  | (go_at_call 14; go_must (refine (HN2.out _).mono ?_; rintro r w8 ⟨rfl, hb8⟩; have HB8 : Hid (Below w.heap.size w w8) := (show Below _ _ _ from HB7.out.trans (hb8.mono HB7.out.size)); clear hb8))
                  | (go_at_call 9; go_must (refine (HA.out _).mono ?_; rintro r w9 ⟨rfl, hb9⟩)))
                go_ret
                exact ⟨rfl, HB8.out.trans (hb9.mono HB8.out.size)⟩
              ·
                go_wp2_with (first
                  | (go_at_call 14; clear tk1; go_must (refine (HNt.out _).mono ?_; rintro r w4 ⟨rfl, hb4⟩; have HB4 : Hid (Below w.heap.size w w4) := (show Below _ _ _ from hcut2.out.trans (hb4.mono hcut2.out.size)); clear hb4))
                  | (go_at_call 14; clear tk2; go_must (refine (HNu.out _).mono ?_; rintro r w5 ⟨rfl, hb5⟩; have HB5 : Hid (Below w.heap.size w w5) := (show Below _ _ _ from HB4.out.trans (hb5.mono HB4.out.size)); clear hb5))
                  | (go_at_call 14; clear tk3; go_must (refine (HN0.out _).mono ?_; rintro r w6 ⟨rfl, hb6⟩; have HB6 : Hid (Below w.heap.size w w6) := (show Below _ _ _ from HB5.out.trans (hb6.mono HB5.out.size)); clear hb6))
                  | (go_at_call 14; clear tk4; go_must (refine (HN1.out _).mono ?_; rintro r w7 ⟨rfl, hb7⟩; have HB7 : Hid (Below w.heap.size w w7) := (show Below _ _ _ from HB6.out.trans (hb7.mono HB6.out.size)); clear hb7))
                  | (go_at_call 14; go_must (refine (HN2.out _).mono ?_; rintro r w8 ⟨rfl, hb8⟩; have HB8 : Hid (Below w.heap.size w w8) := (show Below _ _ _ from HB7.out.trans (hb8.mono HB7.out.size)); clear hb8))
                  | (go_at_call 9; go_must (refine (HA.out _).mono ?_; rintro r w9 ⟨rfl, hb9⟩)))
                go_ret
                exact ⟨rfl, HB8.out.trans (hb9.mono HB8.out.size)⟩
            · have b2 : ((s.extract 0 n).toList == [46, 46]) = false := by simp [u2]
              rw [b0, b1, b2] at HNu
              simp only [Bool.not_false, Bool.true_and] at HNu
              cases mb
              ·
                go_wp2_with (first
                  | (go_at_call 14; clear tk1; go_must (refine (HNt.out _).mono ?_; rintro r w4 ⟨rfl, hb4⟩; have HB4 : Hid (Below w.heap.size w w4) := (show Below _ _ _ from hcut2.out.trans (hb4.mono hcut2.out.size)); clear hb4))
                  | (go_at_call 14; clear tk2; go_must (refine (HNu.out _).mono ?_; rintro r w5 ⟨rfl, hb5⟩; have HB5 : Hid (Below w.heap.size w w5) := (show Below _ _ _ from HB4.out.trans (hb5.mono HB4.out.size)); clear hb5))
                  | (go_at_call 14; clear tk3; go_must (refine (HN0.out _).mono ?_; rintro r w6 ⟨rfl, hb6⟩; have HB6 : Hid (Below w.heap.size w w6) := (show Below _ _ _ from HB5.out.trans (hb6.mono HB5.out.size)); clear hb6))
                  | (go_at_call 14; clear tk4; go_must (refine (HN1.out _).mono ?_; rintro r w7 ⟨rfl, hb7⟩; have HB7 : Hid (Below w.heap.size w w7) := (show Below _ _ _ from HB6.out.trans (hb7.mono HB6.out.size)); clear hb7))
                  | (go_at_call 14; go_must (refine (HN2.out _).mono ?_; rintro r w8 ⟨rfl, hb8⟩; have HB8 : Hid (Below w.heap.size w w8) := (show Below _ _ _ from HB7.out.trans (hb8.mono HB7.out.size)); clear hb8))
                  | (go_at_call 9; go_must (refine (HA.out _).mono ?_; rintro r w9 ⟨rfl, hb9⟩)))
                go_ret
                exact ⟨rfl, HB8.out.trans (hb9.mono HB8.out.size)⟩
              ·
                go_wp2_with (first
                  | (go_at_call 14; clear tk1; go_must (refine (HNt.out _).mono ?_; rintro r w4 ⟨rfl, hb4⟩; have HB4 : Hid (Below w.heap.size w w4) := (show Below _ _ _ from hcut2.out.trans (hb4.mono hcut2.out.size)); clear hb4))
                  | (go_at_call 14; clear tk2; go_must (refine (HNu.out _).mono ?_; rintro r w5 ⟨rfl, hb5⟩; have HB5 : Hid (Below w.heap.size w w5) := (show Below _ _ _ from HB4.out.trans (hb5.mono HB4.out.size)); clear hb5))
                  | (go_at_call 14; clear tk3; go_must (refine (HN0.out _).mono ?_; rintro r w6 ⟨rfl, hb6⟩; have HB6 : Hid (Below w.heap.size w w6) := (show Below _ _ _ from HB5.out.trans (hb6.mono HB5.out.size)); clear hb6))
                  | (go_at_call 14; clear tk4; go_must (refine (HN1.out _).mono ?_; rintro r w7 ⟨rfl, hb7⟩; have HB7 : Hid (Below w.heap.size w w7) := (show Below _ _ _ from HB6.out.trans (hb7.mono HB6.out.size)); clear hb7))
                  | (go_at_call 14; go_must (refine (HN2.out _).mono ?_; rintro r w8 ⟨rfl, hb8⟩; have HB8 : Hid (Below w.heap.size w w8) := (show Below _ _ _ from HB7.out.trans (hb8.mono HB7.out.size)); clear hb8))
                  | (go_at_call 9; go_must (refine (HA.out _).mono ?_; rintro r w9 ⟨rfl, hb9⟩)))
                go_ret
                exact ⟨rfl, HB8.out.trans (hb9.mono HB8.out.size)⟩
end Go.Proofs.Ytcchokedfbogfaa
