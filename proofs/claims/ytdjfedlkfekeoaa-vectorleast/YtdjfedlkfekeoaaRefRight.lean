/-
  Which vectors are right, told by the reference.
-/
import Derived.Test.YtdjfedlkfekeoaaRight
namespace Go.Proofs.Ytdjfedlkfekeoaa
set_option linter.unusedVariables false
set_option linter.unusedSimpArgs false
open Go.RowKit

set_option maxHeartbeats 1000000 in
set_option maxRecDepth 20000 in
theorem refrightV_any (v : Value) (l : List H) (w : World) (hv0 : RdH w v l) : Calls Try.prog 14 #[v] w fun e w' => e = .returned (.bool (rightB l)) ∧ Below w.heap.size w w' := by
  obtain ⟨av, cv, rfl⟩ := hv0.len
  have HV : Hid (RdH w (.slice av l.length cv) l) := hv0
  have hcap := hv0.cap
  clear hv0
  go_enter Try.func14, Try.ntmps14
  go_wp2
  go_loopw [3] (fun i wr => ∃ j : Nat, i = .int .i64 j ∧ j ≤ l.length ∧ RightTo l j ∧ Below w.heap.size w wr) (fun i _ => l.length - (intOf i).toNat)
  case atStart => exact ⟨0, rfl, by omega, (fun i hi => absurd hi (by omega)), Below.refl _ _⟩
  case round =>
    obtain ⟨j, rfl, hj, hto, hb⟩ := hrel
    have HT : Hid (RightTo l j) := hto
    have HB : Hid (Below w.heap.size w wr) := hb
    clear hto hb
    by_cases hjn : j < l.length
    · obtain ⟨bv, ov, rfl, hblt, hcell⟩ := HV.out.all (by omega)
      have HC : Hid _ := hcell
      have HCJ : Hid (∀ w', Below w.heap.size w w' → w'.cell? ⟨bv, ov + j * 3, none⟩ = some (.int .i64 (l.getD j hz).1) ∧ w'.cell? ⟨bv, ov + j * 3 + 1, none⟩ = some (.int .i64 (l.getD j hz).2.1) ∧ w'.cell? ⟨bv, ov + j * 3 + 2, none⟩ = some (.int .u64 (l.getD j hz).2.2)) := fun w' h => hcell w' h j hjn
      clear hcell
      have HN : Hid (¬ (rightH (l.getD j hz) ∧ (0 < j → (l.getD (j - 1) hz).1 < (l.getD j hz).1)) → rightB l = false) := fun h => rightB_false (not_right_at hjn h)
      have HP : Hid ((rightH (l.getD j hz) ∧ (0 < j → (l.getD (j - 1) hz).1 < (l.getD j hz).1)) → RightTo l (j + 1)) := fun h => HT.out.next h
      generalize hx : l.getD j hz = x at HCJ HN HP
      have hR := fun w' => refright_any x w'
      obtain ⟨a, b, c⟩ := x
      simp only [hv] at hR
      have q0 := fun z : WIn (fun w' => Below wr.heap.size wr w') => (HCJ.out z.w (bnext HB.out z.ok)).1
      have q1 := fun z : WIn (fun w' => Below wr.heap.size wr w') => (HCJ.out z.w (bnext HB.out z.ok)).2.1
      have q2 := fun z : WIn (fun w' => Below wr.heap.size wr w') => (HCJ.out z.w (bnext HB.out z.ok)).2.2
      dsimp only at q0 q1 q2
      have ne : Nonempty (WIn (fun w' => Below wr.heap.size wr w')) := ⟨⟨wr, Below.refl _ _⟩⟩
      by_cases hr : rightH (a, b, c)
      · rw [decide_eq_true hr] at hR
        rcases Nat.eq_zero_or_pos j with hj0 | hjp
        · have HG : Hid (RightTo l (j + 1)) := HP.out ⟨hr, fun h => by omega⟩
          subst hj0
          simp only [Nat.zero_mul, Nat.add_zero] at q0 q1 q2
          clear hr HN HP hx
          go_upto_region 4 with fail
          refine wp_region_ord (C := fun w' => ∃ z : WIn (fun w' => Below wr.heap.size wr w'), w' = z.w) [(false, 0), (false, 1), (false, 2), (false, 3), (true, 4), (false, 5), (false, 6), (false, 7), (false, 8), (false, 9), (false, 10), (false, 11), (false, 12), (false, 13), (false, 14), (false, 15), (false, 16), (false, 17), (false, 18), (false, 19), (false, 20), (false, 21), (false, 22), (false, 23)] (by kernel_rfl) (by kernel_rfl) ⟨⟨wr.drew, (Below.refl _ _).drew⟩, rfl⟩ ?_
          iterate 4 (refine ord_still rfl rfl ?_; go_big_quiet_step (fail); refine wpQuiet_nil ?_)
          refine ord_mem rfl rfl ?_
          go_simp
          refine (hR _).mono ?_
          rintro e w2 ⟨rfl, hb2⟩
          have HB2 : Hid (Below wr.heap.size wr w2) := below_undrew hb2
          clear hb2
          refine ⟨⟨⟨w2, HB2.out⟩, rfl⟩, ?_⟩
          iterate 19 (refine ord_still rfl rfl ?_; go_big_quiet_step (fail); refine wpQuiet_nil ?_)
          refine ord_end ?_
          clear q0 q1 q2 ne
          go_wp2
          go_roundw
          case rel => exact ⟨0 + 1, by go_num, by omega, HG.out, bnext HB.out HB2.out⟩
          case measure => simp [intOf]; omega
        · have HCP : Hid (∀ w', Below w.heap.size w w' → w'.cell? ⟨bv, ov + (j - 1) * 3, none⟩ = some (.int .i64 (l.getD (j - 1) hz).1)) := fun w' h => (HC.out w' h (j - 1) (by omega)).1
          generalize hpv : (l.getD (j - 1) hz).1 = p at HCP HN HP
          have p0 := fun z : WIn (fun w' => Below wr.heap.size wr w') => HCP.out z.w (bnext HB.out z.ok)
          have hj1 : ((j : Int) - 1).toNat = j - 1 := by omega
          by_cases hge : a ≤ p
          · have HG : Hid (rightB l = false) := HN.out (fun h => by have := h.2 hjp; omega)
            clear hr HN HP hx
            go_upto_region 4 with fail
            refine wp_region_ord (C := fun w' => ∃ z : WIn (fun w' => Below wr.heap.size wr w'), w' = z.w) [(false, 0), (false, 1), (false, 2), (false, 3), (true, 4), (false, 5), (false, 6), (false, 7), (false, 8), (false, 9), (false, 10), (false, 11), (false, 12), (false, 13), (false, 14), (false, 15), (false, 16), (false, 17), (false, 18), (false, 19), (false, 20), (false, 21), (false, 22), (false, 23)] (by kernel_rfl) (by kernel_rfl) ⟨⟨wr.drew, (Below.refl _ _).drew⟩, rfl⟩ ?_
            iterate 4 (refine ord_still rfl rfl ?_; go_big_quiet_step (fail); refine wpQuiet_nil ?_)
            refine ord_mem rfl rfl ?_
            go_simp
            refine (hR _).mono ?_
            rintro e w2 ⟨rfl, hb2⟩
            have HB2 : Hid (Below wr.heap.size wr w2) := below_undrew hb2
            clear hb2
            refine ⟨⟨⟨w2, HB2.out⟩, rfl⟩, ?_⟩
            iterate 19 (refine ord_still rfl rfl ?_; go_big_quiet_step (fail); refine wpQuiet_nil ?_)
            refine ord_end ?_
            clear q0 q1 q2 ne
            clear p0
            go_wp2
            go_ret
            exact ⟨by rw [HG.out]; rfl, bnext HB.out HB2.out⟩
          · have HG : Hid (RightTo l (j + 1)) := HP.out ⟨hr, fun h => by show p < a; omega⟩
            clear hr HN HP hx
            go_upto_region 4 with fail
            refine wp_region_ord (C := fun w' => ∃ z : WIn (fun w' => Below wr.heap.size wr w'), w' = z.w) [(false, 0), (false, 1), (false, 2), (false, 3), (true, 4), (false, 5), (false, 6), (false, 7), (false, 8), (false, 9), (false, 10), (false, 11), (false, 12), (false, 13), (false, 14), (false, 15), (false, 16), (false, 17), (false, 18), (false, 19), (false, 20), (false, 21), (false, 22), (false, 23)] (by kernel_rfl) (by kernel_rfl) ⟨⟨wr.drew, (Below.refl _ _).drew⟩, rfl⟩ ?_
            iterate 4 (refine ord_still rfl rfl ?_; go_big_quiet_step (fail); refine wpQuiet_nil ?_)
            refine ord_mem rfl rfl ?_
            go_simp
            refine (hR _).mono ?_
            rintro e w2 ⟨rfl, hb2⟩
            have HB2 : Hid (Below wr.heap.size wr w2) := below_undrew hb2
            clear hb2
            refine ⟨⟨⟨w2, HB2.out⟩, rfl⟩, ?_⟩
            iterate 19 (refine ord_still rfl rfl ?_; go_big_quiet_step (fail); refine wpQuiet_nil ?_)
            refine ord_end ?_
            clear q0 q1 q2 ne
            clear p0
            go_wp2
            go_roundw
            case rel => exact ⟨j + 1, by go_num, by omega, HG.out, bnext HB.out HB2.out⟩
            case measure => simp [intOf]; omega
      · rw [decide_eq_false hr] at hR
        have HG : Hid (rightB l = false) := HN.out (fun h => hr h.1)
        clear hr HN HP hx
        go_upto_region 4 with fail
        refine wp_region_ord (C := fun w' => ∃ z : WIn (fun w' => Below wr.heap.size wr w'), w' = z.w) [(false, 0), (false, 1), (false, 2), (false, 3), (true, 4), (false, 5), (false, 6), (false, 7), (false, 8), (false, 9), (false, 10), (false, 11), (false, 12), (false, 13), (false, 14), (false, 15), (false, 16), (false, 17), (false, 18), (false, 19), (false, 20), (false, 21), (false, 22), (false, 23)] (by kernel_rfl) (by kernel_rfl) ⟨⟨wr.drew, (Below.refl _ _).drew⟩, rfl⟩ ?_
        iterate 4 (refine ord_still rfl rfl ?_; go_big_quiet_step (fail); refine wpQuiet_nil ?_)
        refine ord_mem rfl rfl ?_
        go_simp
        refine (hR _).mono ?_
        rintro e w2 ⟨rfl, hb2⟩
        have HB2 : Hid (Below wr.heap.size wr w2) := below_undrew hb2
        clear hb2
        refine ⟨⟨⟨w2, HB2.out⟩, rfl⟩, ?_⟩
        iterate 19 (refine ord_still rfl rfl ?_; go_big_quiet_step (fail); refine wpQuiet_nil ?_)
        refine ord_end ?_
        clear q0 q1 q2 ne
        go_wp2
        go_ret
        exact ⟨by rw [HG.out]; rfl, bnext HB.out HB2.out⟩
    · have HE : Hid (rightB l = true) := rightB_true (right_of_to (by have := HT.out; rwa [show j = l.length by omega] at this))
      go_wp2
      go_ret
      exact ⟨by rw [HE.out]; rfl, HB.out⟩
end Go.Proofs.Ytdjfedlkfekeoaa
