/-
  The reference's Pad answers the same.
-/
import Derived.Test.YtobfkagkjigciaaPad
namespace Go.Proofs.Ytobfkagkjigciaa
set_option linter.unusedVariables false
open Go.RowKit

set_option maxHeartbeats 400000 in
theorem refpad_any (v : Value) (l : List Int) (w : World) (hv : Rd w v l) (hl : l.length ≤ 100000000) :
    Calls Try.prog 17 #[v] w fun e w' => ∃ v', e = .returned (.tuple #[v', .int .i64 (padK l)]) ∧ Own w.heap.size 5 w' v' (padOf l) ∧ Below w.heap.size w w' := by
  obtain ⟨a, cap, rfl⟩ := hv.len
  have HCL : Hid (∀ w, Calls Try.prog 9 #[.int .i64 l.length] w fun e w' => e = .returned (.int .i64 (cls l.length)) ∧ Below w.heap.size w w') := fun w => by
    have := refclass_any l.length w (by omega)
    rwa [clsI_nat] at this
  by_cases h : cls l.length = -1
  · rw [h] at HCL
    have HP : Hid (padOf l = [] ∧ padK l = 3) := ⟨by unfold padOf; rw [if_pos h], by unfold padK; rw [if_pos h]⟩
    clear h
    go_enter Try.func17, Try.ntmps17
    go_wp2_with (first | (go_at_call 9; go_must (refine (HCL.out _).mono ?_; rintro e w1 ⟨rfl, hb1⟩)))
    go_ret2
    rw [HP.out.1, HP.out.2]
    exact ⟨_, rfl, own_nil _ _ _, hb1⟩
  · obtain ⟨s, hs, hle, h16, h1024⟩ := cls_size h
    have HP : Hid (padOf l = bform l ++ List.replicate (s - (bform l).length) 0 ∧ padK l = 0) := ⟨by unfold padOf; rw [if_neg h, hs]; simp, by unfold padK; rw [if_neg h]⟩
    have hb := cls_lt l.length
    have HS : Hid (∀ w, Calls Try.prog 11 #[.int .i64 (cls l.length)] w fun e w' => e = .returned (.int .i64 s) ∧ Below w.heap.size w w') := fun w => by
      have := refsize_any (cls l.length) w (by omega)
      rwa [hs] at this
    have hne : ¬ cls l.length < 0 := by omega
    clear h hs
    generalize cls l.length = c at *
    go_enter Try.func17, Try.ntmps17
    go_wp2_with (first | (go_at_call 9; go_must (refine (HCL.out _).mono ?_; rintro e w1 ⟨rfl, hb1⟩)) | (go_at_call 29; go_must (refine (refbytes_any _ l _ (hv.below hb1) (by omega)).mono ?_; rintro e w2 ⟨v2, rfl, hown2, hb2⟩)))
    go_loopw [5] (fun v wr => ∃ k : Nat, (bform l).length + k ≤ s ∧ Own w.heap.size 5 wr v (bform l ++ List.replicate k 0) ∧ Below w.heap.size w wr) (fun v wr => match v with | .slice _ n _ => 1024 - n | _ => 0)
    case atStart =>
      refine ⟨0, by omega, ?_, bnext hb1 hb2⟩
      simp only [List.replicate_zero, List.append_nil]
      exact hown2.lower hb1.size
    case round =>
      obtain ⟨k, hk, hown, hbr⟩ := hrel
      obtain ⟨av, cv, rfl⟩ := hown.rd.len
      have hll : (bform l ++ List.replicate k 0).length = (bform l).length + k := by simp
      rw [hll] at hown ⊢
      have HB : Hid (Below w.heap.size w wr) := hbr
      clear hbr
      by_cases hlt : (bform l).length + k < s
      · go_wp2_with (first | (go_at_call 11; go_must (refine (HS.out _).mono ?_; rintro e w3 ⟨rfl, hb3⟩; replace HB : Hid (Below w.heap.size w w3) := bnext HB.out hb3; have hown3 := (hown.kept (below_grown hb3)).alloc (.cells #[.int .u8 0] 5); have hsz := HB.out.size)) | (at_builtin; go_must (refine wpList_append_cells 26 5 byteTy rfl (.tmp 18) (.tmp 19) rfl w.heap.size _ _ rfl hown3 _ [0] rfl (rd_one w3 0 5 (by omega)) (by rw [hll]; simp; omega) (by simp; omega) ?_; intro v4 w4 hown4 hg4)))
        have hl4 : (bform l ++ List.replicate k 0 ++ [0]).length = (bform l).length + k + 1 := by simp; omega
        obtain ⟨a4, c4, rfl⟩ := hown4.rd.len
        go_roundw
        case rel =>
          refine ⟨k + 1, by omega, ?_, hown3.below (balloc HB.out _) (Nat.le_refl _) hg4⟩
          rw [show bform l ++ List.replicate (k + 1) 0 = bform l ++ List.replicate k 0 ++ [0] by rw [List.append_assoc, ← List.replicate_succ']]
          exact hown4
        case measure =>
          show 1024 - (bform l ++ List.replicate k 0 ++ [0]).length < 1024 - ((bform l).length + k)
          omega
      · go_wp2_with (first | (go_at_call 11; go_must (refine (HS.out _).mono ?_; rintro e w3 ⟨rfl, hb3⟩; replace HB : Hid (Below w.heap.size w w3) := bnext HB.out hb3; have hown3 := hown.kept (below_grown hb3))))
        go_ret2
        rw [HP.out.1, HP.out.2, show s - (bform l).length = k by omega]
        exact ⟨_, rfl, hown3, HB.out⟩
end Go.Proofs.Ytobfkagkjigciaa
