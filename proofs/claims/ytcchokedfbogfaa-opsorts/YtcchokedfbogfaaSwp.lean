/-
  swapRange and rotate of the library's stable sort, at operations.
-/
import Derived.Test.YtcchokedfbogfaaRow
namespace Go.Proofs.Ytcchokedfbogfaa
set_option linter.unusedVariables false
set_option linter.unusedSimpArgs false
set_option synthInstance.maxSize 20000
set_option maxHeartbeats 2000000
set_option maxRecDepth 20000
open Go.RowKit Go.Maps

/-- swapRange: two runs of n operations are exchanged. -/
theorem swapRange103 {w : World} {g N cap a b n : Nat} {cf : Value} {p U q V s : List OpT} (hr : Row w g N cap (p ++ (U ++ (q ++ (V ++ s))))) (hU : U.length = n) (hV : V.length = n) (ha : a = p.length) (hb : b = p.length + n + q.length) (hN : N ≤ 1000000) :
    Calls Try.prog 103 #[.slice (some ⟨g, 0, none⟩) N cap, .int .i64 (a : Int), .int .i64 (b : Int), .int .i64 (n : Int), cf] w fun e w' => e = .returned (.tuple #[]) ∧ Row w' g N cap (p ++ (V ++ (q ++ (U ++ s)))) ∧ w.grownBy w' (some g) := by
  have hlen := hr.1
  have hcap := hr.caps
  have hbn : b + n ≤ N := by simp at hlen; omega
  have han : a + n ≤ b := by omega
  have HS : Hid (Half p U q V s n 0 (p ++ (U ++ (q ++ (V ++ s))))) := Half.start hU hV
  have HR : Hid (Row w g N cap (p ++ (U ++ (q ++ (V ++ s))))) := hr
  have HA : Hid (a = p.length ∧ b = p.length + n + q.length) := ⟨ha, hb⟩
  clear hr hU hV ha hb hlen
  go_enter Try.func103, Try.ntmps103
  go_wp2
  go_loopw [10] (fun vi wr => ∃ (i : Nat) (l' : List OpT), vi = .int .i64 (i : Int) ∧ i ≤ n ∧ Hid (Row wr g N cap l') ∧ Hid (w.grownBy wr (some g)) ∧ Hid (Half p U q V s n i l')) (fun vi _ => n - (intOf vi).toNat)
  case atStart => exact ⟨0, _, rfl, Nat.zero_le _, HR, grown_refl _ _, HS⟩
  case round =>
    obtain ⟨i, l', rfl, hi, HR1, HG1, HH⟩ := hrel
    by_cases hlt : i < n
    · obtain ⟨u, v, hu, hv, hh⟩ := HH.out.more hlt
      rw [← HA.out.2] at hv hh
      rw [← HA.out.1] at hu hh
      have hwi : (i : Int) < (n : Int) := by omega
      have k1 : (a : Int) + (i : Int) < (N : Int) := by omega
      have k2 : (b : Int) + (i : Int) < (N : Int) := by omega
      have HH2 : Hid (Half p U q V s n (i + 1) ((l'.set (a + i) v).set (b + i) u)) := hh
      go_wp2_with fail
      have ne : Nonempty (WIn (fun _ => True)) := ⟨⟨wr, trivial⟩⟩
      refine wp_region_tree (C := fun w' => ∃ z : WIn (fun _ => True), w' = z.w) (.still 0 (.still 1 (.still 2 (.still 3 (.still 4 (.still 5 (.still 6 (.still 7 (.still 8 (.still 9 (.still 10 (.still 11 (.still 12 (.still 14 (.still 15 (.still 16 (.still 17 (.still 18 (.two 13 (.one 19 (.still 20 (.one 21 (.still 22 (.one 23 .done))))) 19 (.one 13 (.still 20 (.one 21 (.still 22 (.one 23 .done)))))))))))))))))))))))) (by kernel_rfl) (by kernel_rfl) ⟨⟨wr.drew, trivial⟩, rfl⟩ ?_
      have HRD : Hid (Row wr.drew g N cap l') := HR1.out
      have HGD : Hid (w.grownBy wr.drew (some g)) := grown_drew HG1.out
      generalize wr.drew = wd at *
      iterate 18 (refine tree_still rfl rfl ?_; go_big_quiet_step (fail); refine wpQuiet_nil ?_)
      obtain ⟨w1, w2, hw1, hw2, R2, G2, T1, T2⟩ := HRD.out.xchg HGD.out (i := a + i) (j := b + i) (by omega) (by omega) u v
      have HW1 : Hid (w1 = wd.setCells g ((a + i) * 10) (oc v)) := hw1
      have HW2 : Hid (w2 = w1.setCells g ((b + i) * 10) (oc u)) := hw2
      have HLu : Hid (wd.rangeAt g ((a + i) * 10) (oc u)) := HRD.out.load hu
      have HLv : Hid (wd.rangeAt g ((b + i) * 10) (oc v)) := HRD.out.load hv
      have HT1 : Hid (wd.there g ((a + i) * 10) 10) := T1
      have HT2 : Hid (w1.there g ((b + i) * 10) 10) := T2
      have HR2 : Hid (Row w2 g N cap ((l'.set (a + i) v).set (b + i) u)) := R2
      have HG2 : Hid (w.grownBy w2 (some g)) := G2
      clear hw1 hw2 R2 G2 T1 T2 hh hu hv
      refine tree_two rfl rfl rfl rfl ?_ ?_
      · refine wp_ok (exec_load26 (q := v) (.tmp 28) rfl rfl HLv.out) ?_
        refine ⟨⟨⟨_, trivial⟩, rfl⟩, ?_⟩
        go_simp
        refine tree_one rfl rfl ?_
        refine wp_ok (exec_load26 (q := u) (.tmp 34) rfl rfl HLu.out) ?_
        refine ⟨⟨⟨_, trivial⟩, rfl⟩, ?_⟩
        go_simp
        refine tree_still rfl rfl ?_; go_big_quiet_step (fail); refine wpQuiet_nil ?_
        refine tree_one rfl rfl ?_
        refine wp_skip (exec_store26 (q := v) (.tmp 36) (.tmp 29) rfl rfl rfl HT1.out) ?_
        rw [← HW1.out]
        refine ⟨⟨⟨_, trivial⟩, rfl⟩, ?_⟩
        go_simp
        refine tree_still rfl rfl ?_; go_big_quiet_step (fail); refine wpQuiet_nil ?_
        refine tree_one rfl rfl ?_
        refine wp_skip (exec_store26 (q := u) (.tmp 37) (.tmp 35) rfl rfl rfl HT2.out) ?_
        rw [← HW2.out]
        refine ⟨⟨⟨_, trivial⟩, rfl⟩, ?_⟩
        go_simp
        refine tree_done ?_
        clear ne
        go_wp2
        go_roundw
        case rel => exact ⟨i + 1, _, by go_num, by omega, HR2, HG2, HH2⟩
        case measure => simp [intOf]; omega
      · refine wp_ok (exec_load26 (q := u) (.tmp 34) rfl rfl HLu.out) ?_
        refine ⟨⟨⟨_, trivial⟩, rfl⟩, ?_⟩
        go_simp
        refine tree_one rfl rfl ?_
        refine wp_ok (exec_load26 (q := v) (.tmp 28) rfl rfl HLv.out) ?_
        refine ⟨⟨⟨_, trivial⟩, rfl⟩, ?_⟩
        go_simp
        refine tree_still rfl rfl ?_; go_big_quiet_step (fail); refine wpQuiet_nil ?_
        refine tree_one rfl rfl ?_
        refine wp_skip (exec_store26 (q := v) (.tmp 36) (.tmp 29) rfl rfl rfl HT1.out) ?_
        rw [← HW1.out]
        refine ⟨⟨⟨_, trivial⟩, rfl⟩, ?_⟩
        go_simp
        refine tree_still rfl rfl ?_; go_big_quiet_step (fail); refine wpQuiet_nil ?_
        refine tree_one rfl rfl ?_
        refine wp_skip (exec_store26 (q := u) (.tmp 37) (.tmp 35) rfl rfl rfl HT2.out) ?_
        rw [← HW2.out]
        refine ⟨⟨⟨_, trivial⟩, rfl⟩, ?_⟩
        go_simp
        refine tree_done ?_
        clear ne
        go_wp2
        go_roundw
        case rel => exact ⟨i + 1, _, by go_num, by omega, HR2, HG2, HH2⟩
        case measure => simp [intOf]; omega
    · obtain rfl : i = n := by omega
      have hwi : ¬ (i : Int) < (i : Int) := by omega
      have hd := HH.out.done
      subst hd
      go_wp2
      go_end0
      exact ⟨rfl, HR1.out, HG1.out⟩
end Go.Proofs.Ytcchokedfbogfaa
