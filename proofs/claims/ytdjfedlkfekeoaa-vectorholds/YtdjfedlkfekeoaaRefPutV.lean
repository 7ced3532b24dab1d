/-
  A vector with a head put in place of its writer's, by the reference.
-/
import Derived.Test.YtdjfedlkfekeoaaRefTwo
import Derived.Test.YtdjfedlkfekeoaaVecPut
namespace Go.Proofs.Ytdjfedlkfekeoaa
set_option linter.unusedVariables false
set_option linter.unusedSimpArgs false
open Go.RowKit

set_option maxHeartbeats 2000000 in
set_option maxRecDepth 20000 in
theorem refput_any (v : Value) (l : List H) (h : H) (w : World) (hv0 : RdH w v l) (hh : HOk h) :
    Calls Try.prog 12 #[v, hv h] w fun e w' => ∃ v', e = .returned (.tuple #[v', .int .i64 (putV l h).2]) ∧ OwnH w.heap.size w' v' (putV l h).1 ∧ Below w.heap.size w w' := by
  have hA := fun w' q => refrightV_any v l w' q
  have hB := fun w' => refright_any h w'
  have hGA := fun (k : Nat) w' q => refget_any v l (k : Int) w' q
  have HV : Hid (RdH w v l) := hv0
  have HK : Hid (HOk h) := hh
  obtain ⟨av, cv, rfl⟩ := hv0.len
  by_cases hr : RightV l ∧ rightH h
  · obtain ⟨rl, rh⟩ := hr
    rw [putV_right rl rh]
    rw [rightB_true rl] at hA
    rw [decide_eq_true rh] at hB
    have HRA : Hid (∀ k : Nat, getR l (k : Int) = getV l (k : Int)) := fun k => getR_right rl _
    have HOA : Hid (∀ k, k < 8 → HOk (getV l ((k : Nat) : Int))) := fun k hk => getV_ok hv0.1 ⟨by omega, by omega⟩
    have hpos : 0 < h.2.1 := by have := rh.2.2.1; omega
    clear hv0 hh rl rh
    obtain ⟨x1, x2, x3⟩ := h
    simp only [hv] at hB ⊢
    dsimp only at hpos ⊢
    obtain ⟨w1, hw1⟩ : ∃ w1, w1 = w.alloc (.cells #[.int .i64 x1, .int .i64 x2, .int .u64 x3] 25) := ⟨_, rfl⟩
    have HX1 : Hid (Blk w1 w.heap.size 25 [.int .i64 x1, .int .i64 x2, .int .u64 x3]) := by show Blk _ _ _ _; rw [hw1]; exact blk_new w [.int .i64 x1, .int .i64 x2, .int .u64 x3] 25
    have HB1 : Hid (Below w.heap.size w w1) := by show Below _ _ _; rw [hw1]; exact balloc (Below.refl _ _) _
    go_enter Try.func12, Try.ntmps12
    go_upto_region 1 with fail
    rw [← hw1]
    obtain ⟨nb, hnb⟩ : ∃ nb, nb = w.heap.size := ⟨_, rfl⟩
    rw [← hnb] at HX1
    rw [← hnb]
    have HNB : Hid (nb = w.heap.size) := hnb
    clear hw1 hnb
    go_upto_region 4 with (first
      | (go_at_call 14; refine (hA _ (HV.out.below HB1.out)).mono ?_; rintro e w2 ⟨rfl, hb2⟩
         have HX2 : Hid (Blk w2 nb 25 [.int .i64 x1, .int .i64 x2, .int .u64 x3]) := HX1.out.below hb2
         have HB2 : Hid (Below w.heap.size w w2) := bnext HB1.out hb2
         have y0 := HX2.out.cell 0 _ rfl
         have y1 := HX2.out.cell 1 _ rfl
         have y2 := HX2.out.cell 2 _ rfl
         clear hb2)
      | (go_at_call 35; refine (hB _).mono ?_; rintro e w3 ⟨rfl, hb3⟩
         have HX3 : Hid (Blk w3 nb 25 [.int .i64 x1, .int .i64 x2, .int .u64 x3]) := HX2.out.below hb3
         have HB3 : Hid (Below w.heap.size w w3) := bnext HB2.out hb3
         clear hb3 y0 y1 y2))
    clear hA hB HX1 HX2 HB1 HB2
    go_wp2
    go_loopw [6, 7] (fun o i wr => ∃ k : Nat, i = .int .i64 k ∧ k ≤ 8 ∧ Hid (OwnH (nb + 1) wr o (putTo l (x1, x2, x3) k)) ∧ Hid (Below w.heap.size w wr) ∧ Hid (Blk wr nb 25 [.int .i64 x1, .int .i64 x2, .int .u64 x3])) (fun _ i _ => 8 - (intOf i).toNat)
    case atStart => exact ⟨0, rfl, by omega, ownH_nil _ _, HB3, HX3⟩
    case round =>
      obtain ⟨k, rfl, hk, HO, HW, HX⟩ := hrel
      clear HB3 HX3
      have tk : Hid True := trivial
      obtain ⟨ov, oc, ho⟩ := HO.out.rd.len
      subst ho
      have hlen := putTo_len l (x1, x2, x3) k
      by_cases hk8 : k < 8
      · have g1 := hGA k
        rw [HRA.out k] at g1
        have HM : Hid (putTo l (x1, x2, x3) (k + 1) = putTo l (x1, x2, x3) k ++ oneH (if (k : Int) = x1 then (x1, x2, x3) else getV l (k : Nat))) := putTo_succ l (x1, x2, x3) k
        have OA := HOA.out k hk8
        have HO1 : Hid (HOk (getV l (k : Nat))) := OA
        clear OA
        generalize getV l (k : Nat) = y at g1 HM HO1
        generalize putTo l (x1, x2, x3) k = m at HM HO hlen
        obtain ⟨y1, y2, y3⟩ := y
        simp only [hv] at g1
        have hcap := HO.out.rd.cap
        have hcs : ((k : Int) = x1) ∨ (((k : Int) ≠ x1) ∧ 0 < y2) ∨ (((k : Int) ≠ x1) ∧ ¬ 0 < y2) := by omega
        rcases hcs with h1 | ⟨h1, h2⟩ | ⟨h1, h2⟩
        · have HE : Hid (putTo l (x1, x2, x3) (k + 1) = m ++ [(x1, x2, x3)]) := by show _ = _; rw [HM.out, if_pos h1, oneH_pos hpos]
          have h1' : ((k : Int) == x1) = true := by simpa using h1
          clear h1
          go_wp2_with (first
            | (go_at_call 16; refine (g1 _ (HV.out.below HW.out)).mono ?_; rintro e w4 ⟨rfl, hb4⟩
               have HB4 : Hid _ := bnext HW.out hb4
               have HP4 : Hid (OwnH (nb + 1) w4 _ m) := HO.out.below hb4
               have HX4 : Hid (Blk w4 nb 25 [.int .i64 x1, .int .i64 x2, .int .u64 x3]) := HX.out.below hb4
               have z0 := HX4.out.cell 0 _ rfl
               have z1 := HX4.out.cell 1 _ rfl
               have z2 := HX4.out.cell 2 _ rfl
               have hlt4 := HX4.out.lt
               clear hb4)
            | (at_builtin; go_must (refine wpList_append_heads 22 Try.underlying22 rfl (.tmp 32) (.tmp 34) rfl (nb + 1) _ m rfl (OwnH.below HP4.out (balloc (balloc (Below.refl _ _) _) _)) _ [(x1, x2, x3)] rfl (rdH_one' _ (x1, x2, x3) _ HK.out (by simp)) (by simp; omega) (by simp; omega) ?_; intro v5 w5 hown5 hg5)))
          go_roundw
          case rel => exact ⟨k + 1, by go_num, by omega, (by show OwnH _ _ _ (putTo l (x1, x2, x3) (k + 1)); rw [HE.out]; exact hown5), (balloc (balloc HB4.out _) _).grown hg5 (by have := HB4.out.size; simp; omega) (fun k hk => by have := (HP4.out.lt k hk).1; have := HNB.out; omega), Blk.block ((HX4.out.alloc _).alloc _) (hg5.block nb (by simp; omega) (fun e => by have := (HP4.out.lt nb e.symm).1; omega))⟩
          case measure => simp [intOf]; omega
        · have HE : Hid (putTo l (x1, x2, x3) (k + 1) = m ++ [(y1, y2, y3)]) := by show _ = _; rw [HM.out, if_neg h1, oneH_pos h2]
          have h1' : ((k : Int) == x1) = false := by simpa using h1
          clear h1
          go_wp2_with (first
            | (go_at_call 16; refine (g1 _ (HV.out.below HW.out)).mono ?_; rintro e w4 ⟨rfl, hb4⟩
               have HB4 : Hid _ := bnext HW.out hb4
               have HP4 : Hid (OwnH (nb + 1) w4 _ m) := HO.out.below hb4
               have HX4 : Hid (Blk w4 nb 25 [.int .i64 x1, .int .i64 x2, .int .u64 x3]) := HX.out.below hb4
               have z0 := HX4.out.cell 0 _ rfl
               have hlt4 := HX4.out.lt
               clear hb4)
            | (at_builtin; go_must (refine wpList_append_heads 22 Try.underlying22 rfl (.tmp 32) (.tmp 34) rfl (nb + 1) _ m rfl (OwnH.below HP4.out (balloc (balloc (Below.refl _ _) _) _)) _ [(y1, y2, y3)] rfl (rdH_one' _ (y1, y2, y3) _ HO1.out (by simp)) (by simp; omega) (by simp; omega) ?_; intro v5 w5 hown5 hg5)))
          go_roundw
          case rel => exact ⟨k + 1, by go_num, by omega, (by show OwnH _ _ _ (putTo l (x1, x2, x3) (k + 1)); rw [HE.out]; exact hown5), (balloc (balloc HB4.out _) _).grown hg5 (by have := HB4.out.size; simp; omega) (fun k hk => by have := (HP4.out.lt k hk).1; have := HNB.out; omega), Blk.block ((HX4.out.alloc _).alloc _) (hg5.block nb (by simp; omega) (fun e => by have := (HP4.out.lt nb e.symm).1; omega))⟩
          case measure => simp [intOf]; omega
        · have HE : Hid (putTo l (x1, x2, x3) (k + 1) = m) := by show _ = _; rw [HM.out, if_neg h1, oneH_neg h2, List.append_nil]
          have h1' : ((k : Int) == x1) = false := by simpa using h1
          clear h1
          go_wp2_with (first
            | (go_at_call 16; refine (g1 _ (HV.out.below HW.out)).mono ?_; rintro e w4 ⟨rfl, hb4⟩
               have HB4 : Hid _ := bnext HW.out hb4
               have HP4 : Hid (OwnH (nb + 1) w4 _ m) := HO.out.below hb4
               have HX4 : Hid (Blk w4 nb 25 [.int .i64 x1, .int .i64 x2, .int .u64 x3]) := HX.out.below hb4
               have z0 := HX4.out.cell 0 _ rfl
               have hlt4 := HX4.out.lt
               clear hb4))
          go_roundw
          case rel => exact ⟨k + 1, by go_num, by omega, (by show OwnH _ _ _ (putTo l (x1, x2, x3) (k + 1)); rw [HE.out]; exact OwnH.below HP4.out (balloc (Below.refl _ _) _)), balloc HB4.out _, HX4.out.alloc _⟩
          case measure => simp [intOf]; omega
      · obtain rfl : k = 8 := by omega
        go_wp2
        go_ret2
        exact ⟨_, rfl, HO.out.lower (by have := HNB.out; omega), HW.out⟩
  · rw [putV_not hr]
    clear hv0 hGA
    obtain ⟨x1, x2, x3⟩ := h
    have hX := blk_new w [.int .i64 x1, .int .i64 x2, .int .u64 x3] 25
    have HX : Hid _ := hX
    clear hX hh
    by_cases rl : RightV l
    · have rh : ¬ rightH (x1, x2, x3) := fun q => hr ⟨rl, q⟩
      rw [rightB_true rl] at hA
      rw [decide_eq_false rh] at hB
      clear rl rh hr
      simp only [hv] at hB ⊢
      go_enter Try.func12, Try.ntmps12
      go_wp2_with (first
        | (go_at_call 14; refine (hA _ (HV.out.below (balloc (Below.refl _ _) _))).mono ?_; rintro e w2 ⟨rfl, hb2⟩
           have X2 := Blk.below (vs := [.int .i64 x1, .int .i64 x2, .int .u64 x3]) HX.out hb2
           have y0 := X2.cell 0 _ rfl
           have y1 := X2.cell 1 _ rfl
           have y2 := X2.cell 2 _ rfl
           clear X2)
        | (go_at_call 35; refine (hB _).mono ?_; rintro e w3 ⟨rfl, hb3⟩))
      go_ret2
      exact ⟨_, rfl, ownH_nil _ _, bnext (bnext (balloc (Below.refl _ _) _) hb2) hb3⟩
    · rw [rightB_false rl] at hA
      clear rl hr hB
      simp only [hv]
      go_enter Try.func12, Try.ntmps12
      go_wp2_with (first
        | (go_at_call 14; refine (hA _ (HV.out.below (balloc (Below.refl _ _) _))).mono ?_; rintro e w2 ⟨rfl, hb2⟩))
      go_ret2
      exact ⟨_, rfl, ownH_nil _ _, bnext (balloc (Below.refl _ _) _) hb2⟩
end Go.Proofs.Ytdjfedlkfekeoaa
