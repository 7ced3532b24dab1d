/-
  Which heads and vectors are right, told by the program and by the reference.
-/
import Derived.Test.YtdjfedlkfekeoaaMem
import Derived.Test.YtdjfedlkfekeoaaChain
import Derived.Deep.DeepCutAuto
namespace Go.Proofs.Ytdjfedlkfekeoaa
set_option linter.unusedVariables false
set_option linter.unusedSimpArgs false
open Go.RowKit

theorem below_undrew {w w' : World} (h : Below w.drew.heap.size w.drew w') : Below w.heap.size w w' := ⟨h.os, h.tape, h.output, h.size, h.block⟩

theorem right_any (h : H) (w : World) : Calls Try.prog 31 #[hv h] w fun e w' => e = .returned (.bool (decide (rightH h))) ∧ Below w.heap.size w w' := by
  obtain ⟨a, b, c⟩ := h
  have HR : Hid (decide (rightH (a, b, c)) = true ↔ (0 ≤ a ∧ a ≤ 7 ∧ 1 ≤ b ∧ b ≤ 200 ∧ c ≠ 0)) := (decide_eq_true_iff : _ ↔ rightH (a, b, c))
  generalize decide (rightH (a, b, c)) = p at HR ⊢
  unfold hv
  go_enter Try.func31, Try.ntmps31
  go_wp2
  all_goals
    go_ret
    refine ⟨ret_bool ?_, balloc (Below.refl _ w) _⟩
    rw [HR.out]
    (try simp only [bne_iff_ne, ne_eq, decide_eq_true_eq, Bool.false_eq_true, false_iff]); omega
theorem refright_any (h : H) (w : World) : Calls Try.prog 35 #[hv h] w fun e w' => e = .returned (.bool (decide (rightH h))) ∧ Below w.heap.size w w' := by
  obtain ⟨a, b, c⟩ := h
  have HR : Hid (decide (rightH (a, b, c)) = true ↔ (0 ≤ a ∧ a ≤ 7 ∧ 1 ≤ b ∧ b ≤ 200 ∧ c ≠ 0)) := (decide_eq_true_iff : _ ↔ rightH (a, b, c))
  generalize decide (rightH (a, b, c)) = p at HR ⊢
  unfold hv
  go_enter Try.func35, Try.ntmps35
  go_wp2
  all_goals
    go_ret
    refine ⟨ret_bool ?_, balloc (Below.refl _ w) _⟩
    rw [HR.out]
    (try simp only [bne_iff_ne, ne_eq, decide_eq_true_eq, Bool.false_eq_true, false_iff]); omega

set_option maxHeartbeats 1000000 in
set_option maxRecDepth 20000 in
theorem rightV_any (v : Value) (l : List H) (w : World) (hv0 : RdH w v l) : Calls Try.prog 13 #[v] w fun e w' => e = .returned (.bool (rightB l)) ∧ Below w.heap.size w w' := by
  obtain ⟨av, cv, rfl⟩ := hv0.len
  have HV : Hid (RdH w (.slice av l.length cv) l) := hv0
  have hcap := hv0.cap
  clear hv0
  go_enter Try.func13, Try.ntmps13
  go_wp2
  go_loopw [7] (fun i wr => ∃ j : Nat, i = .int .i64 j ∧ j ≤ l.length ∧ RightTo l j ∧ Below w.heap.size w wr) (fun i _ => l.length - (intOf i).toNat)
  case atStart => exact ⟨0, rfl, by omega, (fun i hi => absurd hi (by omega)), Below.refl _ _⟩
  case round =>
    obtain ⟨j, rfl, hj, hto, hb⟩ := hrel
    have HT : Hid (RightTo l j) := hto
    have HB : Hid (Below w.heap.size w wr) := hb
    clear hto hb
    by_cases hjn : j < l.length
    · obtain ⟨bv, ov, rfl, hblt, hcell⟩ := HV.out.all (by omega)
      have HC : Hid _ := hcell
      have hcj := hcell wr HB.out j hjn
      clear hcell
      have HN : Hid (¬ (rightH (l.getD j hz) ∧ (0 < j → (l.getD (j - 1) hz).1 < (l.getD j hz).1)) → rightB l = false) := fun h => rightB_false (not_right_at hjn h)
      have HP : Hid ((rightH (l.getD j hz) ∧ (0 < j → (l.getD (j - 1) hz).1 < (l.getD j hz).1)) → RightTo l (j + 1)) := fun h => HT.out.next h
      generalize hx : l.getD j hz = x at hcj HN HP
      have hR := fun w' => right_any x w'
      obtain ⟨a, b, c⟩ := x
      obtain ⟨g0, g1, g2⟩ := hcj
      dsimp only at g0 g1 g2
      simp only [hv] at hR
      go_upto_region 4 with fail
      obtain ⟨w1, hw1⟩ : ∃ w1, w1 = wr.alloc (.cells #[.int .i64 a, .int .i64 b, .int .u64 c] 25) := ⟨_, rfl⟩
      have X : Blk w1 wr.heap.size 25 [.int .i64 a, .int .i64 b, .int .u64 c] := by rw [hw1]; exact blk_new wr [.int .i64 a, .int .i64 b, .int .u64 c] 25
      have HB1 : Hid (Below w.heap.size w w1) := by show Below _ _ _; rw [hw1]; exact balloc HB.out _
      rw [← hw1]
      obtain ⟨nb, hnb⟩ : ∃ nb, nb = wr.heap.size := ⟨_, rfl⟩
      rw [← hnb] at X ⊢
      clear hw1 hnb HB g0 g1 g2
      have q0 := fun z : WIn (fun w' => Below w1.heap.size w1 w') => (X.below z.ok).cell 0 _ rfl
      have q1 := fun z : WIn (fun w' => Below w1.heap.size w1 w') => (X.below z.ok).cell 1 _ rfl
      have q2 := fun z : WIn (fun w' => Below w1.heap.size w1 w') => (X.below z.ok).cell 2 _ rfl
      have ne : Nonempty (WIn (fun w' => Below w1.heap.size w1 w')) := ⟨⟨w1, Below.refl _ _⟩⟩
      have y0 := fun w' (h : Below w1.heap.size w1 w') => (X.below h).cell 0 _ rfl
      by_cases hr : rightH (a, b, c)
      · rw [decide_eq_true hr] at hR
        rcases Nat.eq_zero_or_pos j with hj0 | hjp
        · have HG : Hid (RightTo l (j + 1)) := HP.out ⟨hr, fun h => by omega⟩
          subst hj0
          clear hr HN HP hx
          refine wp_region_ord (C := fun w' => ∃ z : WIn (fun w' => Below w1.heap.size w1 w'), w' = z.w) [(false, 0), (true, 1), (false, 2), (false, 3), (false, 4), (false, 5), (false, 6), (false, 7), (false, 8), (false, 9), (false, 10), (false, 11), (false, 12), (false, 13), (false, 14), (false, 15), (false, 16), (false, 17)] (by kernel_rfl) (by kernel_rfl) ⟨⟨w1.drew, (Below.refl _ _).drew⟩, rfl⟩ ?_
          iterate 1 (refine ord_still rfl rfl ?_; go_big_quiet_step (fail); refine wpQuiet_nil ?_)
          refine ord_mem rfl rfl ?_
          go_simp
          refine (hR _).mono ?_
          rintro e w2 ⟨rfl, hb2⟩
          have HB2 : Hid (Below w1.heap.size w1 w2) := below_undrew hb2
          clear hb2
          refine ⟨⟨⟨w2, HB2.out⟩, rfl⟩, ?_⟩
          iterate 16 (refine ord_still rfl rfl ?_; go_big_quiet_step (fail); refine wpQuiet_nil ?_)
          refine ord_end ?_
          clear q0 q1 q2 ne y0
          go_wp2
          go_roundw
          case rel => exact ⟨0 + 1, by go_num, by omega, HG.out, bnext HB1.out HB2.out⟩
          case measure => simp [intOf]; omega
        · have HCP : Hid (∀ w', Below w.heap.size w w' → w'.cell? ⟨bv, ov + (j - 1) * 3, none⟩ = some (.int .i64 (l.getD (j - 1) hz).1)) := fun w' h => (HC.out w' h (j - 1) (by omega)).1
          generalize hpv : (l.getD (j - 1) hz).1 = p at HCP HN HP
          have p0 := fun z : WIn (fun w' => Below w1.heap.size w1 w') => HCP.out z.w (bnext HB1.out z.ok)
          have hj1 : ((j : Int) - 1).toNat = j - 1 := by omega
          by_cases hge : a ≤ p
          · have HG : Hid (rightB l = false) := HN.out (fun h => by have := h.2 hjp; omega)
            clear hr HN HP hx
            refine wp_region_ord (C := fun w' => ∃ z : WIn (fun w' => Below w1.heap.size w1 w'), w' = z.w) [(false, 0), (true, 1), (false, 2), (false, 3), (false, 4), (false, 5), (false, 6), (false, 7), (false, 8), (false, 9), (false, 10), (false, 11), (false, 12), (false, 13), (false, 14), (false, 15), (false, 16), (false, 17)] (by kernel_rfl) (by kernel_rfl) ⟨⟨w1.drew, (Below.refl _ _).drew⟩, rfl⟩ ?_
            iterate 1 (refine ord_still rfl rfl ?_; go_big_quiet_step (fail); refine wpQuiet_nil ?_)
            refine ord_mem rfl rfl ?_
            go_simp
            refine (hR _).mono ?_
            rintro e w2 ⟨rfl, hb2⟩
            have HB2 : Hid (Below w1.heap.size w1 w2) := below_undrew hb2
            clear hb2
            refine ⟨⟨⟨w2, HB2.out⟩, rfl⟩, ?_⟩
            iterate 16 (refine ord_still rfl rfl ?_; go_big_quiet_step (fail); refine wpQuiet_nil ?_)
            refine ord_end ?_
            clear q0 q1 q2 ne y0
            clear p0
            go_wp2
            go_ret
            exact ⟨by rw [HG.out]; rfl, bnext HB1.out HB2.out⟩
          · have HG : Hid (RightTo l (j + 1)) := HP.out ⟨hr, fun h => by show p < a; omega⟩
            clear hr HN HP hx
            refine wp_region_ord (C := fun w' => ∃ z : WIn (fun w' => Below w1.heap.size w1 w'), w' = z.w) [(false, 0), (true, 1), (false, 2), (false, 3), (false, 4), (false, 5), (false, 6), (false, 7), (false, 8), (false, 9), (false, 10), (false, 11), (false, 12), (false, 13), (false, 14), (false, 15), (false, 16), (false, 17)] (by kernel_rfl) (by kernel_rfl) ⟨⟨w1.drew, (Below.refl _ _).drew⟩, rfl⟩ ?_
            iterate 1 (refine ord_still rfl rfl ?_; go_big_quiet_step (fail); refine wpQuiet_nil ?_)
            refine ord_mem rfl rfl ?_
            go_simp
            refine (hR _).mono ?_
            rintro e w2 ⟨rfl, hb2⟩
            have HB2 : Hid (Below w1.heap.size w1 w2) := below_undrew hb2
            clear hb2
            refine ⟨⟨⟨w2, HB2.out⟩, rfl⟩, ?_⟩
            iterate 16 (refine ord_still rfl rfl ?_; go_big_quiet_step (fail); refine wpQuiet_nil ?_)
            refine ord_end ?_
            clear q0 q1 q2 ne y0
            clear p0
            go_wp2
            go_roundw
            case rel => exact ⟨j + 1, by go_num, by omega, HG.out, bnext HB1.out HB2.out⟩
            case measure => simp [intOf]; omega
      · rw [decide_eq_false hr] at hR
        have HG : Hid (rightB l = false) := HN.out (fun h => hr h.1)
        clear hr HN HP hx
        refine wp_region_ord (C := fun w' => ∃ z : WIn (fun w' => Below w1.heap.size w1 w'), w' = z.w) [(false, 0), (true, 1), (false, 2), (false, 3), (false, 4), (false, 5), (false, 6), (false, 7), (false, 8), (false, 9), (false, 10), (false, 11), (false, 12), (false, 13), (false, 14), (false, 15), (false, 16), (false, 17)] (by kernel_rfl) (by kernel_rfl) ⟨⟨w1.drew, (Below.refl _ _).drew⟩, rfl⟩ ?_
        iterate 1 (refine ord_still rfl rfl ?_; go_big_quiet_step (fail); refine wpQuiet_nil ?_)
        refine ord_mem rfl rfl ?_
        go_simp
        refine (hR _).mono ?_
        rintro e w2 ⟨rfl, hb2⟩
        have HB2 : Hid (Below w1.heap.size w1 w2) := below_undrew hb2
        clear hb2
        refine ⟨⟨⟨w2, HB2.out⟩, rfl⟩, ?_⟩
        iterate 16 (refine ord_still rfl rfl ?_; go_big_quiet_step (fail); refine wpQuiet_nil ?_)
        refine ord_end ?_
        clear q0 q1 q2 ne y0
        go_wp2
        go_ret
        exact ⟨by rw [HG.out]; rfl, bnext HB1.out HB2.out⟩
    · have HE : Hid (rightB l = true) := rightB_true (right_of_to (by have := HT.out; rwa [show j = l.length by omega] at this))
      go_wp2
      go_ret
      exact ⟨by rw [HE.out]; rfl, HB.out⟩
end Go.Proofs.Ytdjfedlkfekeoaa
